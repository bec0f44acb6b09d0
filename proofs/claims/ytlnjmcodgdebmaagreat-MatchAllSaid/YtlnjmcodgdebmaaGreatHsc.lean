/- Layer 8: the walk of MatchAll. -/
import Derived.Test.YtlnjmcodgdebmaaGreatHsa
import Derived.Test.YtlnjmcodgdebmaaGreatHsb
import Derived.Test.YtlnjmcodgdebmaaGreatHrk
import Derived.Test.YtlnjmcodgdebmaaGreatHw
import Derived.Test.YtlnjmcodgdebmaaGreatHu
set_option linter.unusedSimpArgs false
set_option linter.unusedVariables false
namespace Go.Proofs.YtlnjmcodgdebmaaGreat.Gm
open Go Go.RowKit Go.Maps
attribute [local go_sem ↓] Go.wp_at_zero Go.wp_at_succ

theorem idx_p8 (p : Option Addr) (b o n cap k : Nat) (hp : p = some ⟨b, o, none⟩) (hk : k < n) (W : World) : (Instr.indexAt 59 (.slice p n cap) (.int .i64 (k : Int))).run Tryz.prog W = .ok (.pointer (some ⟨b, o + k, none⟩)) W := by subst hp; go_simp
theorem pred_at8 {w : World} {v : Value} {l : List (Value × List Cn)} (h : Ps w v l) {i : Nat} (hi : i < l.length) : ∃ p cap b o, v = .slice p l.length cap ∧ p = some ⟨b, o, none⟩ ∧ b < w.heap.size ∧ w.cell? ⟨b, o + i, none⟩ = some (l.getD i default).1 ∧ Cs w (l.getD i default).1 (l.getD i default).2 := by
  obtain ⟨p, cap, b, o, h1, _, h3, _, h5⟩ := h.1
  have hl : l ≠ [] := by rintro rfl; simp at hi
  have hm : l.getD i default ∈ l := by rw [List.getD_eq_getElem?_getD, List.getElem?_eq_getElem hi]; exact List.getElem_mem hi
  exact ⟨p, cap, b, o, h1, (h3 hl).1, (h3 hl).2, by simpa using h5 i hi 0 _ rfl, h.2.2 _ hm⟩
/-- What the predicates that are in have for numbers behind k rounds. -/
def Up8 (D : List Ent) (k : Nat) : Prop := (D.Pairwise fun a b => a.1 < b.1) ∧ D.length ≤ k ∧ ∀ e ∈ D, 0 ≤ e.1 ∧ e.1 < (k : Int)
theorem Up8.nil : Up8 [] 0 := ⟨List.Pairwise.nil, Nat.le_refl _, fun e he => by cases he⟩
theorem Up8.next {D : List Ent} {k : Nat} (h : Up8 D k) : Up8 D (k + 1) := ⟨h.1, by have := h.2.1; omega, fun e he => by have := h.2.2 e he; omega⟩
theorem Up8.put {D : List Ent} {k : Nat} (h : Up8 D k) (r : List Cn) : Up8 (D ++ [((k : Int), r)]) (k + 1) := by
  refine ⟨snoc_rise h.1 (fun e he => (h.2.2 e he).2) r, by rw [List.length_append]; have := h.2.1; simp; omega, fun e he => ?_⟩
  rcases List.mem_append.1 he with he | he
  · have := h.2.2 e he; omega
  · rw [List.mem_singleton.1 he]; simp only; omega
theorem Up8.not {D : List Ent} {k : Nat} (h : Up8 D k) : ∀ p, ((k : Int), p) ∉ D := fun p hp => by have := (h.2.2 _ hp).2; simp only at this; omega
theorem rem_is8 {k n2 len m0 G : Nat} (h0 : min len 60 = m0) (hg : n2 % m0 = G) : ((k : Int) != (n2 : Int) % min (len : Int) 60) = !decide ((k : Int) = (G : Int)) := by
  subst h0 hg
  have e : min (len : Int) 60 = ((min len 60 : Nat) : Int) := by omega
  rw [e, ← Int.natCast_emod]
  rfl
theorem wrap_near8 {n : Nat} (h : n ≤ 1000) : wrap64 ((n : Int) + 1) = (n : Int) + 1 := by
  unfold wrap64; omega
theorem wf_near8 {i : Int} (h0 : 0 ≤ i) (h1 : i ≤ 1000000) : (Lit.int .i64 i).wf = true := by
  have e1 : IntKind.i64.min = -9223372036854775808 := by decide
  have e2 : IntKind.i64.max = 9223372036854775807 := by decide
  simp [Lit.wf, e1, e2]; omega
theorem Two8.keep {B B' : Nat} {w w' : World} {u v : Value} {L M : List Int} {S : List Nat} (h : Two8 B w u v L M) (hk : Keep8 B' S w w') (hS : MapsAt w S) : Two8 B w' u v L M := ⟨hk.own hS h.a (by decide), hk.own hS h.b (by decide), h.apart⟩
theorem Idx8.maps {B : Nat} {w : World} {Sr : Nat → Prop} {x bp bn t np nn : Nat} {Dp Dn : DataW Value} {D : List Ent} {F : Int → Option Value} {U : ByteArray → Value} (h : Idx8 B w Sr x bp bn t np nn Dp Dn D F U) : MapsAt w [bp, bn] := fun b hb => by
  simp only [List.mem_cons, List.not_mem_nil, or_false] at hb
  rcases hb with rfl | rfl
  · exact map_at h.mp
  · exact map_at h.mn
set_option maxHeartbeats 16000000 in
set_option maxRecDepth 100000 in
theorem law_mall (v0 : Value) (ps : List (Value × List Cn)) (key : ByteArray) (sl : Value) (al : List At) (n2 : Nat) (W : World) (hP : Ps W v0 ps) (hE : Es W sl al) (hs : ∀ a ∈ al, a.nm.size ≤ maxLen) (hn : n2 < 256) :
    Calls Tryz.prog 4 #[v0, .agg #[.string key, sl], .int .u8 (n2 : Nat)] W (Gives (.bool true) W) := by
  obtain ⟨p0, cap0, rfl⟩ := hP.1.form
  obtain ⟨pe, cape, rfl⟩ := hE.1.form
  have HAw := Lib.hid (fun W => awake8 W)
  have HNew := Lib.hid (fun W => new8_any W)
  have HPl := Lib.hid hP.2.1
  have HB0 := Lib.hid (below_one W (.cells #[.string key, .slice pe al.length cape] 34))
  have HK0 := Lib.hid (Blk.new W 34 #[.string key, .slice pe al.length cape])
  have HP0 := Lib.hid (hP.later HB0.out)
  have HE0 := Lib.hid (hE.later HB0.out)
  have HSz := Lib.hid hs
  obtain ⟨W1, hW1⟩ : ∃ W1, W.alloc (.cells #[.string key, .slice pe al.length cape] 34) = W1 := ⟨_, rfl⟩
  rw [hW1] at HB0 HK0 HP0 HE0
  clear hP hE hs
  go_enter Tryz.func4, Tryz.ntmps4
  go_wp2_with fail
  obtain ⟨gE, hgE⟩ : ∃ gE, W.heap.size = gE := ⟨_, rfl⟩
  rw [hgE] at HK0
  rw [hgE]
  clear hW1
  refine (HNew.out _).mono ?_; rintro e w1 ⟨x, bp, bn, rfl, hI, hx, hbp, hbn, b1⟩
  obtain ⟨Bs, hBs⟩ : ∃ Bs, W1.heap.size = Bs := ⟨_, rfl⟩
  have HBs : Hid (W1.heap.size = Bs) := Lib.hid hBs
  rw [hBs] at hI hx hbp hbn b1
  have HI1 := Lib.hid hI
  have HB1 := Lib.hid b1
  have HBP := Lib.hid (And.intro hbp hbn)
  have HKeep := Lib.hid (fun (W W' : World) (h : Keep8 Bs [bp, bn] W W') (hB : Bs ≤ W.heap.size) => h.bel hB (fun k hk => by simp only [List.mem_cons, List.not_mem_nil, or_false] at hk; rcases hk with rfl | rfl; exact HBP.out.1; exact HBP.out.2))
  have HT1 : Hid (Two8 Bs w1 (.slice none 0 0) (.slice none 0 0) [] []) := Lib.hid (Two8.nil _ _)
  clear hI hx hbp hbn b1 hBs
  obtain ⟨m0, hm0⟩ : ∃ m0, min ps.length 60 = m0 := ⟨_, rfl⟩
  obtain ⟨G, hG⟩ : ∃ G : Nat, n2 % m0 = G := ⟨_, rfl⟩
  have HG := Lib.hid hG
  have HM0 := Lib.hid hm0
  clear hG hm0 hgE
  go_wp2_with fail
  go_loopw [17, 8, 9, 10, 11, 12, 13] (fun c17 c8 c9 c10 _ _ _ wr => ∃ (k t : Nat) (Sr : Nat → Prop) (np nn : Nat) (Dp Dn : DataW Value) (D : List Ent) (F : Int → Option Value) (U : ByteArray → Value) (pu pv : Option Addr) (cu cv dn un vn : Nat), k ≤ ps.length ∧ k ≤ 60 ∧ c17 = .int .i64 (k : Nat) ∧ c10 = .int .i64 (dn : Nat) ∧ c8 = .slice pu un cu ∧ c9 = .slice pv vn cv ∧ t ≤ 7 * k ∧ dn ≤ k ∧ un ≤ k ∧ vn ≤ k ∧
    Hid (D.length = dn ∧ (wantE D al).length = un ∧ (lessE D al G).length = vn) ∧ Hid (Idx8 Bs wr Sr x bp bn t np nn Dp Dn D F U) ∧ Hid (Two8 Bs wr (.slice pu un cu) (.slice pv vn cv) (wantE D al) (lessE D al G)) ∧ Hid (Up8 D k) ∧ Hid (Below Bs W1 wr)) (fun c17 _ _ _ _ _ _ _ => ps.length - (intOf c17).toNat)
  case atStart => exact ⟨0, _, _, _, _, _, _, _, _, _, none, none, 0, 0, 0, 0, 0, by omega, by omega, rfl, rfl, rfl, rfl, by omega, by omega, by omega, by omega, Lib.hid ⟨rfl, rfl, rfl⟩, HI1, HT1, Lib.hid Up8.nil, HB1⟩
  case round =>
    obtain ⟨k, t, Sr, np, nn, Dp, Dn, D, F, U, pu, pv, cu, cv, dn, un, vn, hk, hk6, rfl, rfl, rfl, rfl, ht, hdn, hun, hvn, HL, HI, HT, HUp, HB⟩ := hrel
    have HBw : Hid (Below W1.heap.size W1 wr) := Lib.hid (by rw [HBs.out]; exact HB.out)
    have hm0 := HM0.out
    by_cases hkl : k < ps.length
    · obtain ⟨pp, capp, bb, ob, hv, hpp, hbl, hcell, hCs⟩ := pred_at8 HP0.out hkl
      simp only [Value.slice.injEq] at hv
      obtain ⟨rfl, -, rfl⟩ := hv
      have hidx := idx_p8 p0 bb ob ps.length cap0 k hpp hkl
      obtain ⟨pk, hpk⟩ : ∃ q, ps.getD k default = q := ⟨_, rfl⟩
      rw [hpk] at hcell hCs
      obtain ⟨pv1, pl⟩ := pk
      simp only at hcell hCs
      obtain ⟨pa, pc, rfl⟩ := hCs.1.form
      have HCs := Lib.hid hCs
      have hcell := cell_later HBw.out hcell
      have hbl : bb < wr.heap.size := Nat.lt_of_lt_of_le hbl HBw.out.size
      clear hCs hpk hpp
      by_cases h60 : k = 60
      · subst h60
        have hidx6 : ∀ W, (Instr.indexAt 59 (.slice p0 ps.length cap0) (.int .i64 60)).run Tryz.prog W = .ok (.pointer (some ⟨bb, ob + 60, none⟩)) W := fun W => by simpa using hidx W
        clear hidx
        have y0 := (HK0.out.later HBw.out).cell 0 rfl
        have y1 := (HK0.out.later HBw.out).cell 1 rfl
        have HMC := Lib.hid (HI.out.matchC key _ al (HE0.out.later HBw.out) HSz.out)
        go_wp2_with fail
        clear y0 y1
        refine HMC.out.mono ?_; rintro e wa ⟨v, rfl, hO, ba⟩
        rw [matched_rise HUp.out.1] at hO
        have hO : OwnN wa wr.heap.size v (wantE D al) := hO
        obtain ⟨pm, cm, rfl⟩ := own_shape hO
        have HS1 := Lib.hid (same_nums _ _ (wantE D al) (wantE D al) wa hO.row (HT.out.later ba).a.row (by have := HL.out.2.1; omega))
        rw [show decide (wantE D al = wantE D al) = true from by simp] at HS1
        have HIa := Lib.hid (HI.out.later ba)
        have HTa := Lib.hid (HT.out.later ba)
        have HBa := Lib.hid (HB.out.trans (ba.mono HI.out.base.1))
        clear hO ba HMC
        go_wp2_with fail
        refine HS1.out.mono ?_; rintro e wb ⟨rfl, bb2⟩
        have HIb := Lib.hid (HIa.out.later bb2)
        have HTb := Lib.hid (HTa.out.later bb2)
        have HBb := Lib.hid (HBa.out.trans (bb2.mono HIa.out.base.1))
        have HIds := Lib.hid (ids_any x bp bn np Dp wb HIb.out.two HIb.out.mp (by rw [HIb.out.szp, HL.out.1]; unfold maxLen; omega) (by rw [HIb.out.szp, HL.out.1]; omega))
        clear bb2 HS1
        go_wp2_with fail
        refine HIds.out.mono ?_; rintro e wd ⟨v, ss, rfl, hp, hr, -, bd⟩
        have hss : ss.length = dn := (ids_len HIb.out.mp hp).trans (HIb.out.szp.trans HL.out.1)
        obtain ⟨pi, ci, hvv⟩ := own_shape hr
        rw [hss] at hvv
        subst hvv
        have HId := Lib.hid (HIb.out.later bd)
        have HTd := Lib.hid (HTb.out.later bd)
        have HBd := Lib.hid (HBb.out.trans (bd.mono HIb.out.base.1))
        clear hp hr hss bd HIds
        have hne : ¬ (min (ps.length : Int) 60 = 0) := by omega
        have hrem : (n2 : Int) % min (ps.length : Int) 60 = (G : Int) := by
          have h1 := HM0.out
          have h2 := HG.out
          rw [← h2, ← h1, show min (ps.length : Int) 60 = ((min ps.length 60 : Nat) : Int) by omega, ← Int.natCast_emod]
        have hGl : G < 256 := Nat.lt_of_le_of_lt (by rw [← HG.out]; exact Nat.mod_le _ _) hn
        have HRm := Lib.hid (remove_any Bs Sr x bp bn t np nn Dp Dn D F U (G : Int) (wf_near8 (by omega) (by omega)) wd HId.out (by omega))
        have HRem := Lib.hid hrem
        clear hrem
        go_wp2_with fail
        rw [HRem.out]
        clear hne hGl
        refine HRm.out.mono ?_; rintro e we ⟨cr, rfl, np2, nn2, Dp2, Dn2, F2, U2, hIe, hKe, be⟩
        have HIe := Lib.hid hIe
        have HBe := Lib.hid (HBd.out.trans be)
        have HTe : Hid (OwnN we Bs (.slice pv vn cv) (lessE D al G)) := Lib.hid (hKe.own HId.out.maps HTd.out.b (by decide))
        clear hIe HRm hKe be
        go_wp2_with fail
        refine (HAw.out _).mono ?_; rintro e wf ⟨rfl, bf⟩
        have HIf := Lib.hid (HIe.out.later bf)
        have HTf : Hid (OwnN wf Bs (.slice pv vn cv) (lessE D al G)) := Lib.hid (own_later HTe.out bf)
        have HBf := Lib.hid (HBe.out.trans (bf.mono HIe.out.base.1))
        have HBwf : Hid (Below W1.heap.size W1 wf) := Lib.hid (by rw [HBs.out]; exact HBf.out)
        have y0 := (HK0.out.later HBwf.out).cell 0 rfl
        have y1 := (HK0.out.later HBwf.out).cell 1 rfl
        have HMC := Lib.hid (HIf.out.matchC key _ al (HE0.out.later HBwf.out) HSz.out)
        clear bf
        go_wp2_with fail
        clear y0 y1
        refine HMC.out.mono ?_; rintro e wg ⟨v, rfl, hO, bg⟩
        rw [matched_rise (List.Pairwise.filter _ HUp.out.1)] at hO
        have hO : OwnN wg wf.heap.size v (wantE (D.filter fun e => !decide (e.1 = (G : Int))) al) := hO
        rw [lessE_gone] at hO
        obtain ⟨pm2, cm2, rfl⟩ := own_shape hO
        have HS2 := Lib.hid (same_nums _ _ (lessE D al G) (lessE D al G) wg hO.row (OwnN.row (own_later HTf.out bg)) (by have := HL.out.2.2; omega))
        rw [show decide (lessE D al G = lessE D al G) = true from by simp] at HS2
        have HBg := Lib.hid (HBf.out.trans (bg.mono HIf.out.base.1))
        clear hO bg HMC
        go_wp2_with fail
        refine HS2.out.mono ?_; rintro e wh ⟨rfl, bh⟩
        have HBh : Hid (Below W.heap.size W wh) := Lib.hid (then_ HB0.out (by rw [HBs.out]; exact HBg.out.trans (bh.mono (by have h1 := HBg.out.size; have h2 := HBs.out; omega))))
        clear bh
        go_wp2_with fail
        go_ret
        exact ⟨rfl, HBh.out⟩
      · have h60' : ¬ ((k : Int) = 60) := by omega
        cases hm : mayPr pl with
        | false =>
          have HA := Lib.hid (add_bad x bp bn (k : Int) _ pl wr HI.out.two (by omega) (HCs.out.later HBw.out) hm)
          have HMay := Lib.hid (fun (W : World) (hb : Below W1.heap.size W1 W) => maypred_any _ pl W (HCs.out.later hb))
          rw [hm] at HMay
          clear hm
          go_wp2_with fail
          refine (HA.out).mono ?_; rintro e w2 ⟨rfl, b2⟩
          have HB2 := Lib.hid b2
          clear b2 HA
          go_wp2_with fail
          refine (HMay.out _ (then_ HBw.out HB2.out)).mono ?_; rintro e w3 ⟨rfl, b3⟩
          have HB3 := Lib.hid (then_ HB2.out b3)
          clear b3 HMay
          go_wp2_with fail
          go_roundw
          case rel => exact ⟨k + 1, t, Sr, np, nn, Dp, Dn, D, F, U, pu, pv, cu, cv, dn, un, vn, by omega, by omega, by simp, rfl, rfl, rfl, by omega, by omega, by omega, by omega, HL, Lib.hid (HI.out.later HB3.out), Lib.hid (HT.out.later HB3.out), Lib.hid HUp.out.next, Lib.hid (HB.out.trans (HB3.out.mono HI.out.base.1))⟩
          case measure => simp [intOf]; omega
        | true =>
          have HA := Lib.hid (add_ok Sr x bp bn t np nn Dp Dn D F U (k : Int) (by omega) (wf_near8 (by omega) (by omega)) _ pl wr HI.out (by omega) (HCs.out.later HBw.out) hm HUp.out.not (by rw [HL.out.1]; omega))
          have HMay := Lib.hid (fun (W : World) (hb : Below W1.heap.size W1 W) => maypred_any _ pl W (HCs.out.later hb))
          have HMat := Lib.hid (fun (W : World) (hb : Below W1.heap.size W1 W) => matches_any _ pl key _ al W (HCs.out.later hb) (HE0.out.later hb))
          rw [hm] at HMay
          clear hm
          go_wp2_with fail
          refine (HA.out).mono ?_; rintro e w2 ⟨rfl, r, S', np', nn', Dp', Dn', F', U', hI2, hr2, -, hK2, -⟩
          have HI2 := Lib.hid hI2
          have HT2 := Lib.hid (HT.out.keep hK2 HI.out.maps)
          have HB2 := Lib.hid (HB.out.trans (HKeep.out _ _ hK2 HI.out.base.1))
          have HR2 := Lib.hid (norm_matches hr2 al)
          clear hI2 hr2 hK2 HA
          go_wp2_with fail
          refine (HMay.out _ (by rw [HBs.out]; exact HB2.out)).mono ?_; rintro e w3 ⟨rfl, b3⟩
          have HI3 := Lib.hid (HI2.out.later b3)
          have HT3 := Lib.hid (HT2.out.later b3)
          have HB3 := Lib.hid (HB2.out.trans (b3.mono HI2.out.base.1))
          have HBw3 : Hid (Below W1.heap.size W1 w3) := Lib.hid (by rw [HBs.out]; exact HB3.out)
          have x0 := (HK0.out.later HBw3.out).cell 0 rfl
          have x1 := (HK0.out.later HBw3.out).cell 1 rfl
          clear b3 HMay HI2 HT2 HB2
          go_wp2_with fail
          refine (HMat.out _ HBw3.out).mono ?_; rintro e w4 ⟨rfl, b4⟩
          have HI4 := Lib.hid (HI3.out.later b4)
          have HT4 := Lib.hid (HT3.out.later b4)
          have HB4 := Lib.hid (HB3.out.trans (b4.mono HI3.out.base.1))
          have HUp4 := Lib.hid (HUp.out.put r)
          have HL4 : Hid ((D ++ [((k : Int), r)]).length = dn + 1) := Lib.hid (by rw [List.length_append, HL.out.1]; rfl)
          have HW4 := Lib.hid (wantE_snoc D al (k : Int) r)
          have HX4 := Lib.hid (lessE_snoc D al (G : Int) (k : Int) r)
          rw [HR2.out] at HW4 HX4
          clear b4 HMat HI3 HT3 HB3 x0 x1 HR2
          cases hmt : matchesB pl al with
          | false =>
            rw [hmt] at HW4 HX4
            simp only [Bool.false_and, Bool.false_eq_true, if_false, List.append_nil] at HW4 HX4
            clear hmt
            go_wp2_with fail
            go_roundw
            case rel => exact ⟨k + 1, t + 7, S', np', nn', Dp', Dn', _, F', U', pu, pv, cu, cv, dn + 1, un, vn, by omega, by omega, by simp, by simp, rfl, rfl, by omega, by omega, by omega, by omega, Lib.hid ⟨HL4.out, by rw [HW4.out]; exact HL.out.2.1, by rw [HX4.out]; exact HL.out.2.2⟩, HI4, Lib.hid (by rw [HW4.out, HX4.out]; exact HT4.out), HUp4, HB4⟩
            case measure => simp [intOf]; omega
          | true =>
            rw [hmt] at HW4 HX4
            simp only [Bool.true_and, if_true] at HW4 HX4
            clear hmt
            obtain ⟨i0, ii, iz0, iz1, iz2⟩ := info_parts infoN
            have HB5 := Lib.hid (below_one w4 (.cells #[.int .i64 (k : Int)] 3))
            have HT5 := Lib.hid (HT4.out.later HB5.out)
            have HI5 := Lib.hid (HI4.out.later HB5.out)
            have HO5 : Hid ((w4.alloc (.cells #[.int .i64 (k : Int)] 3)).ownsRow Bs 3 1 (.slice pu un cu) un ((wantE D al).map (Value.int .i64))) := Lib.hid (by have h := HT5.out.a; unfold OwnN at h; rw [HL.out.2.1] at h; exact h)
            have HR5 : Hid (Bs ≤ (w4.alloc (.cells #[.int .i64 (k : Int)] 3)).heap.size) := Lib.hid (Nat.le_trans HI4.out.base.1 HB5.out.size)
            have HNw := Lib.hid (World.news_of_block (cs := #[.int .i64 (k : Int)]) (heap_alloc_new w4 (.cells #[.int .i64 (k : Int)] 3)))
            have HUN : Hid (un + 1 ≤ maxLen ∧ (un + 1) * 8 ≤ 140737488355328) := Lib.hid (by unfold maxLen; omega)
            go_upto_region 15 with (first
              | (at_builtin; refine wpList_append_blk rfl _ _ 49 (by rfl) Bs 3 i0 (.int .i64 0) 1 8 Tryz.underlying49 ii iz0 iz1 iz2 rfl (by decide) _ _ _ (by rfl) HO5.out ⟨w4.heap.size, 0, none⟩ 1 1 [.int .i64 (k : Int)] (by rfl) rfl HNw.out (by intro u hu; rw [List.mem_singleton.1 hu]; rfl) (un + 1) rfl HUN.out.1 HUN.out.2 HR5.out ?_; intro pA cA w6 hown6 hgrow6 hblk6; have HO6 := Lib.hid hown6; have HG6 := Lib.hid hgrow6; have HBk6 := Lib.hid hblk6; clear hown6 hgrow6 hblk6)
              | fail)
            go_cut [51] from 44 to 51 (fun c wq => c = .bool (!decide ((k : Int) = (G : Int))) ∧ wq = w6)
            case first =>
              have hne : ¬ (min (ps.length : Int) 60 = 0) := by omega
              go_wp2_with fail
              go_meet
              exact ⟨by rw [rem_is8 HM0.out HG.out], rfl⟩
            case rest =>
              obtain ⟨rfl, rfl⟩ := hcut
              have HT6 := Lib.hid (HT5.out.put (L' := wantE D al ++ [(k : Int)]) (by unfold OwnN; rw [List.length_append, HL.out.2.1, List.map_append]; exact HO6.out) HG6.out HBk6.out)
              have HI6 := Lib.hid (HI5.out.grownN HT5.out.a HG6.out)
              have HB6 := Lib.hid ((HB4.out.trans (HB5.out.mono HI4.out.base.1)).trans (HT5.out.below HG6.out HR5.out))
              clear HO5 HR5 HNw HO6 HG6 HBk6
              by_cases hkg : (k : Int) = (G : Int)
              · have hdk : (!decide ((k : Int) = (G : Int))) = false := by simp [hkg]
                rw [hdk] at HX4
                simp only [Bool.false_eq_true, if_false, List.append_nil] at HX4
                rw [hdk]
                clear hkg hdk
                go_wp2_with fail
                go_roundw
                case rel => exact ⟨k + 1, t + 7, S', np', nn', Dp', Dn', _, F', U', pA, pv, cA, cv, dn + 1, un + 1, vn, by omega, by omega, by simp, by simp, rfl, rfl, by omega, by omega, by omega, by omega, Lib.hid ⟨HL4.out, by rw [HW4.out, List.length_append, HL.out.2.1]; rfl, by rw [HX4.out]; exact HL.out.2.2⟩, HI6, Lib.hid (by rw [HW4.out, HX4.out]; exact HT6.out), HUp4, HB6⟩
                case measure => simp [intOf]; omega
              · have hdk : (!decide ((k : Int) = (G : Int))) = true := by simp [hkg]
                rw [hdk] at HX4
                simp only [if_true] at HX4
                rw [hdk]
                clear hkg hdk
                have HB7 := Lib.hid (below_one wc (.cells #[.int .i64 (k : Int)] 3))
                have HT7 := Lib.hid (HT6.out.later HB7.out).swap
                have HI7 := Lib.hid (HI6.out.later HB7.out)
                have HO7 : Hid ((wc.alloc (.cells #[.int .i64 (k : Int)] 3)).ownsRow Bs 3 1 (.slice pv vn cv) vn ((lessE D al G).map (Value.int .i64))) := Lib.hid (by have h := HT7.out.a; unfold OwnN at h; rw [HL.out.2.2] at h; exact h)
                have HR7 : Hid (Bs ≤ (wc.alloc (.cells #[.int .i64 (k : Int)] 3)).heap.size) := Lib.hid (Nat.le_trans HI6.out.base.1 HB7.out.size)
                have HNw := Lib.hid (World.news_of_block (cs := #[.int .i64 (k : Int)]) (heap_alloc_new wc (.cells #[.int .i64 (k : Int)] 3)))
                have HVN : Hid (vn + 1 ≤ maxLen ∧ (vn + 1) * 8 ≤ 140737488355328) := Lib.hid (by unfold maxLen; omega)
                go_wp2_with (first
                  | (at_builtin; refine wpList_append_blk rfl _ _ 49 (by rfl) Bs 3 i0 (.int .i64 0) 1 8 Tryz.underlying49 ii iz0 iz1 iz2 rfl (by decide) _ _ _ (by rfl) HO7.out ⟨wc.heap.size, 0, none⟩ 1 1 [.int .i64 (k : Int)] (by rfl) rfl HNw.out (by intro u hu; rw [List.mem_singleton.1 hu]; rfl) (vn + 1) rfl HVN.out.1 HVN.out.2 HR7.out ?_; intro pB cB w8 hown8 hgrow8 hblk8; have HO8 := Lib.hid hown8; have HG8 := Lib.hid hgrow8; have HBk8 := Lib.hid hblk8; clear hown8 hgrow8 hblk8)
                  | fail)
                have HT8 := Lib.hid (HT7.out.put (L' := lessE D al G ++ [(k : Int)]) (by unfold OwnN; rw [List.length_append, HL.out.2.2, List.map_append]; exact HO8.out) HG8.out HBk8.out).swap
                have HI8 := Lib.hid (HI7.out.grownN HT7.out.a HG8.out)
                have HB8 := Lib.hid ((HB6.out.trans (HB7.out.mono HI6.out.base.1)).trans (HT7.out.below HG8.out HR7.out))
                go_roundw
                case rel => exact ⟨k + 1, t + 7, S', np', nn', Dp', Dn', _, F', U', pA, pB, cA, cB, dn + 1, un + 1, vn + 1, by omega, by omega, by simp, by simp, rfl, rfl, by omega, by omega, by omega, by omega, Lib.hid ⟨HL4.out, by rw [HW4.out, List.length_append, HL.out.2.1]; rfl, by rw [HX4.out, List.length_append, HL.out.2.2]; rfl⟩, HI8, Lib.hid (by rw [HW4.out, HX4.out]; exact HT8.out), HUp4, HB8⟩
                case measure => simp [intOf]; omega
    · have hke : k = ps.length := by omega
      subst hke
      have y0 := (HK0.out.later HBw.out).cell 0 rfl
      have y1 := (HK0.out.later HBw.out).cell 1 rfl
      have HMC := Lib.hid (HI.out.matchC key _ al (HE0.out.later HBw.out) HSz.out)
      go_wp2_with fail
      clear y0 y1
      refine HMC.out.mono ?_; rintro e wa ⟨v, rfl, hO, ba⟩
      rw [matched_rise HUp.out.1] at hO
      have hO : OwnN wa wr.heap.size v (wantE D al) := hO
      obtain ⟨pm, cm, rfl⟩ := own_shape hO
      have HS1 := Lib.hid (same_nums _ _ (wantE D al) (wantE D al) wa hO.row (HT.out.later ba).a.row (by have := HL.out.2.1; omega))
      rw [show decide (wantE D al = wantE D al) = true from by simp] at HS1
      have HIa := Lib.hid (HI.out.later ba)
      have HTa := Lib.hid (HT.out.later ba)
      have HBa := Lib.hid (HB.out.trans (ba.mono HI.out.base.1))
      clear hO ba HMC
      go_wp2_with fail
      refine HS1.out.mono ?_; rintro e wb ⟨rfl, bb2⟩
      have HIb := Lib.hid (HIa.out.later bb2)
      have HTb := Lib.hid (HTa.out.later bb2)
      have HBb := Lib.hid (HBa.out.trans (bb2.mono HIa.out.base.1))
      have HIds := Lib.hid (ids_any x bp bn np Dp wb HIb.out.two HIb.out.mp (by rw [HIb.out.szp, HL.out.1]; unfold maxLen; omega) (by rw [HIb.out.szp, HL.out.1]; omega))
      clear bb2 HS1
      go_wp2_with fail
      refine HIds.out.mono ?_; rintro e wd ⟨v, ss, rfl, hp, hr, -, bd⟩
      have hss : ss.length = dn := (ids_len HIb.out.mp hp).trans (HIb.out.szp.trans HL.out.1)
      obtain ⟨pi, ci, hvv⟩ := own_shape hr
      rw [hss] at hvv
      subst hvv
      have HId := Lib.hid (HIb.out.later bd)
      have HTd := Lib.hid (HTb.out.later bd)
      have HBd := Lib.hid (HBb.out.trans (bd.mono HIb.out.base.1))
      clear hp hr hss bd HIds
      by_cases h0 : ps.length = 0
      · go_wp2_with fail
        refine (HAw.out _).mono ?_; rintro e we ⟨rfl, be⟩
        have HBe : Hid (Below W.heap.size W we) := Lib.hid (then_ HB0.out (by rw [HBs.out]; exact HBd.out.trans (be.mono HId.out.base.1)))
        clear be
        go_wp2_with fail
        go_ret
        exact ⟨rfl, HBe.out⟩
      · have hne : ¬ (min (ps.length : Int) 60 = 0) := by omega
        have hrem : (n2 : Int) % min (ps.length : Int) 60 = (G : Int) := by
          have h1 := HM0.out
          have h2 := HG.out
          rw [← h2, ← h1, show min (ps.length : Int) 60 = ((min ps.length 60 : Nat) : Int) by omega, ← Int.natCast_emod]
        have hGl : G < 256 := Nat.lt_of_le_of_lt (by rw [← HG.out]; exact Nat.mod_le _ _) hn
        have HRm := Lib.hid (remove_any Bs Sr x bp bn t np nn Dp Dn D F U (G : Int) (wf_near8 (by omega) (by omega)) wd HId.out (by omega))
        have HRem := Lib.hid hrem
        clear hrem
        go_wp2_with fail
        rw [HRem.out]
        clear hne hGl
        refine HRm.out.mono ?_; rintro e we ⟨cr, rfl, np2, nn2, Dp2, Dn2, F2, U2, hIe, hKe, be⟩
        have HIe := Lib.hid hIe
        have HBe := Lib.hid (HBd.out.trans be)
        have HTe : Hid (OwnN we Bs (.slice pv vn cv) (lessE D al G)) := Lib.hid (hKe.own HId.out.maps HTd.out.b (by decide))
        clear hIe HRm hKe be
        go_wp2_with fail
        refine (HAw.out _).mono ?_; rintro e wf ⟨rfl, bf⟩
        have HIf := Lib.hid (HIe.out.later bf)
        have HTf : Hid (OwnN wf Bs (.slice pv vn cv) (lessE D al G)) := Lib.hid (own_later HTe.out bf)
        have HBf := Lib.hid (HBe.out.trans (bf.mono HIe.out.base.1))
        have HBwf : Hid (Below W1.heap.size W1 wf) := Lib.hid (by rw [HBs.out]; exact HBf.out)
        have y0 := (HK0.out.later HBwf.out).cell 0 rfl
        have y1 := (HK0.out.later HBwf.out).cell 1 rfl
        have HMC := Lib.hid (HIf.out.matchC key _ al (HE0.out.later HBwf.out) HSz.out)
        clear bf
        go_wp2_with fail
        clear y0 y1
        refine HMC.out.mono ?_; rintro e wg ⟨v, rfl, hO, bg⟩
        rw [matched_rise (List.Pairwise.filter _ HUp.out.1)] at hO
        have hO : OwnN wg wf.heap.size v (wantE (D.filter fun e => !decide (e.1 = (G : Int))) al) := hO
        rw [lessE_gone] at hO
        obtain ⟨pm2, cm2, rfl⟩ := own_shape hO
        have HS2 := Lib.hid (same_nums _ _ (lessE D al G) (lessE D al G) wg hO.row (OwnN.row (own_later HTf.out bg)) (by have := HL.out.2.2; omega))
        rw [show decide (lessE D al G = lessE D al G) = true from by simp] at HS2
        have HBg := Lib.hid (HBf.out.trans (bg.mono HIf.out.base.1))
        clear hO bg HMC
        go_wp2_with fail
        refine HS2.out.mono ?_; rintro e wh ⟨rfl, bh⟩
        have HBh : Hid (Below W.heap.size W wh) := Lib.hid (then_ HB0.out (by rw [HBs.out]; exact HBg.out.trans (bh.mono (by have h1 := HBg.out.size; have h2 := HBs.out; omega))))
        clear bh
        go_wp2_with fail
        go_ret
        exact ⟨rfl, HBh.out⟩
end Go.Proofs.YtlnjmcodgdebmaaGreat.Gm
