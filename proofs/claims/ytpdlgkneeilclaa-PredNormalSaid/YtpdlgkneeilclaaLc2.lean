/- The walk of the statement PredNormal where the predicate may be. -/
import Derived.Test.YtpdlgkneeilclaaKN
import Derived.Test.YtpdlgkneeilclaaKL
import Derived.Test.YtpdlgkneeilclaaLb
import Derived.Test.YtpdlgkneeilclaaLc1
set_option linter.unusedSimpArgs false
set_option linter.unusedVariables false
namespace Go.Proofs.Ytpdlgkneeilclaa.Gm
open Go Go.RowKit
attribute [local go_sem ↓] Go.wp_at_zero Go.wp_at_succ

/-- What the loop that turns the predicate round has come to. -/
structure BackR (base : Nat) (w wr : World) (v : Value) (l : List Cn) (k : Nat) (B : List Cn) : Prop where
  own : OwnC wr base v B
  is : B.map bare = (l.reverse.take k).map revC
  bel : Below base w wr
theorem OwnC.snoc {w w' : World} {base : Nat} {v v' : Value} {l : List Cn} {x : Cn} (h : OwnC w base v l) (hx : OwnV w base x.sv x.set) (hg : w.grownBy w' v.ownBlock) (hn : w'.ownsRow base 37 7 v' (l ++ [x]).length ((l ++ [x]).flatMap encC)) : OwnC w' base v' (l ++ [x]) := by
  refine ⟨hn, fun d hd => ?_⟩
  rcases List.mem_append.1 hd with hd | hd
  · exact (h.2 d hd).keptC h.1 hg
  · rw [List.mem_singleton.1 hd]; exact hx.keptC h.1 hg
theorem back_step {l : List Cn} {k : Nat} (hk : k < l.length) : (l.reverse.take (k + 1)).map revC = (l.reverse.take k).map revC ++ [revC (l.getD (l.length - 1 - k) default)] := by
  rw [List.take_succ_eq_append_getElem (by simpa using hk), List.map_append, List.getElem_reverse, List.getD_eq_getElem?_getD, List.getElem?_eq_getElem (by omega)]
  rfl
theorem rev_step {l : List Vl} {k : Nat} (hk : k < l.length) : l.reverse.take (k + 1) = l.reverse.take k ++ [l.getD (l.length - 1 - k) default] := by
  rw [List.take_succ_eq_append_getElem (by simpa using hk), List.getElem_reverse, List.getD_eq_getElem?_getD, List.getElem?_eq_getElem (by omega)]
  rfl
theorem back_len {l B : List Cn} {k : Nat} (h : B.map bare = (l.reverse.take k).map revC) : B.length ≤ l.length := by
  have := congrArg List.length h
  simp only [List.length_map, List.length_take, List.length_reverse] at this; omega
/-- Two neighbours of a row, each as a row of its own. -/
theorem cs_parts {w : World} {p : Option Addr} {c : Nat} {l : List Cn} {k : Nat} (h : Cs w (.slice p l.length c) l) (hk1 : 1 ≤ k) (hk : k < l.length) :
    ∃ b o, p = some ⟨b, o, none⟩ ∧ l.length ≤ c ∧ Cs w (.slice (some ⟨b, o + (k - 1) * 7, none⟩) 1 (c - (k - 1))) [l.getD (k - 1) default] ∧ Cs w (.slice (some ⟨b, o + k * 7, none⟩) 1 (c - k)) [l.getD k default] := by
  obtain ⟨p', c', b, o, hv, hcap, h3, h4, h5⟩ := h.1
  simp only [Value.slice.injEq, true_and] at hv
  obtain ⟨rfl, rfl⟩ := hv
  have hl : l ≠ [] := by rintro rfl; simp at hk
  obtain ⟨hp, hb⟩ := h3 hl
  have one : ∀ i, i < l.length → Cs w (.slice (some ⟨b, o + i * 7, none⟩) 1 (c - i)) [l.getD i default] := by
    intro i hi
    refine ⟨⟨_, c - i, b, o + i * 7, rfl, by simp; omega, fun _ => ⟨rfl, hb⟩, fun h => by simp at h, fun j hj t u hu => ?_⟩, by simp, fun d hd => ?_⟩
    · have : j = 0 := by simpa using hj
      subst this
      have := h5 i hi t u (by simpa using hu)
      rw [Nat.zero_mul, Nat.add_zero]; exact this
    · rw [List.mem_singleton.1 hd]; exact h.at hi
  exact ⟨b, o, hp, hcap, one (k - 1) (by omega), one k hk⟩
set_option maxHeartbeats 8000000 in
set_option maxRecDepth 100000 in
theorem pnormal_yes (vp : Value) (p : List Cn) (key : ByteArray) (sl : Value) (attrs : List At) (w : World) (hP : Cs w vp p) (hE : Es w sl attrs) (hm : mayPr p = true) :
    Calls Try.prog 5 #[vp, .agg #[.string key, sl]] w (Gives (.bool true) w) := by
  obtain ⟨i0, ii, iz0, iz1, iz2⟩ := info_parts infoC
  obtain ⟨j0, ji, jz0, jz1, jz2⟩ := info_parts infoV
  obtain ⟨p0, c0, rfl⟩ := hP.1.form
  obtain ⟨pe, ce, rfl⟩ := hE.1.form
  have hA := below_one w (.cells #[.string key, .slice pe attrs.length ce] 43)
  have k0 : Blk (w.alloc (.cells #[.string key, .slice pe attrs.length ce] 43)) w.heap.size 43 #[.string key, .slice pe attrs.length ce] := Blk.new _ _ _
  have HN := Lib.hid (normal_yes _ p _ (hP.later hA) hm)
  have hpl := may_len hm
  have HPs := Lib.hid hpl.2
  have hp6 := hpl.1
  have HMay := Lib.hid hm
  have HP := Lib.hid hP
  have HE := Lib.hid hE
  have HA := Lib.hid hA
  have HK0 := Lib.hid k0
  clear hP hE hm hA k0 hpl
  go_enter Try.func5, Try.ntmps5
  go_wp2_with fail
  refine HN.out.mono ?_; rintro e w1 ⟨pn, cn, r, rfl, hN⟩
  have hrl : r.length ≤ p.length := hN.len
  have HRm := Lib.hid (norm_may hN.is hN.len HMay.out)
  have HB1 := Lib.hid (then_ HA.out hN.bel)
  have HK1 := Lib.hid (HK0.out.later hN.bel)
  have HRc := Lib.hid (hN.own.cs (by omega) (fun d hd => by have := hN.sets d hd; omega))
  have HN1 := Lib.hid hN
  clear hN HN HK0
  go_wp2_with fail
  refine (normal_yes _ r w1 HRc.out HRm.out).mono ?_; rintro e w2 ⟨pm, cm, m, rfl, hM⟩
  have hml : m.length ≤ r.length := hM.len
  have HB2 := Lib.hid (then_ HB1.out hM.bel)
  have HK2 := Lib.hid (HK1.out.later hM.bel)
  have HRc2 := Lib.hid (HRc.out.later hM.bel)
  have HMc2 := Lib.hid (hM.own.cs (by omega) (fun d hd => by have := hM.sets d hd; omega))
  have hsame : cmpL cmpC m r = 0 := same_bare (norm_twice HN1.out.is hM.is)
  have HS1 := Lib.hid (fun W (h : Below w2.heap.size w2 W) => psame_any _ _ m r W (HMc2.out.later h) (HRc2.out.later h))
  rw [hsame, decide_eq_true rfl] at HS1
  have HM1 := Lib.hid (fun W (h : Below w2.heap.size w2 W) => maypred_any _ r W (HRc2.out.later h))
  rw [HRm.out] at HM1
  have HMa := Lib.hid (fun W (h : Below w2.heap.size w2 W) => matches_any _ p key _ attrs W ((HP.out.later HB2.out).later h) ((HE.out.later HB2.out).later h))
  have HMb := Lib.hid (fun W (h : Below w2.heap.size w2 W) => matches_any _ r key _ attrs W (HRc2.out.later h) ((HE.out.later HB2.out).later h))
  rw [norm_matches HN1.out.is] at HMb
  generalize matchesB p attrs = q at HMa HMb
  have e0 := fun (z : Later w2) => Later.cell (HK2.out.cell 0 rfl) z
  have e1 := fun (z : Later w2) => Later.cell (HK2.out.cell 1 rfl) z
  have hdl : decide (p.length < r.length) = false := by simpa using hrl
  clear hM hsame HK1 HRc
  go_wp2_with fail
  refine wp_region_later (by kernel_rfl) (by kernel_rfl) ?_
  repeat (quiet_step ((first | (go_at_call 16; exact later_call _ (HS1.out _ (Later.bel _))) | (go_at_call 13; exact later_call _ (HM1.out _ (Later.bel _))) | (go_at_call 24; first | (with_reducible exact later_call _ (HMa.out _ (Later.bel _))) | (with_reducible exact later_call _ (HMb.out _ (Later.bel _)))))))
  refine wpQuiet_nil ?_
  intro w3 hw'
  obtain ⟨⟨_, hb3⟩, rfl⟩ := hw'
  have HB3 := Lib.hid (then_ HB2.out hb3)
  have HRc3 := Lib.hid (HRc2.out.later hb3)
  clear hb3 e0 e1 hdl HS1 HM1 HMa HMb HK2 HRc2 HMc2 HB2 HB1
  go_wp2_with fail
  go_loopw [9, 75] (fun b i wr => ∃ (k : Nat) (B : List Cn), k ≤ p.length ∧ i = .int .i64 k ∧ Hid (BackR w3.heap.size w3 wr b p k B)) (fun _ i _ => p.length - (intOf i).toNat)
  case atStart => exact ⟨0, [], Nat.zero_le _, rfl, Lib.hid ⟨OwnC.nil _ _, rfl, Below.refl _ _⟩⟩
  case round =>
    obtain ⟨k, B, hk, rfl, HBk⟩ := hrel
    obtain ⟨wb, rfl⟩ : ∃ wb, wb = wr := ⟨_, rfl⟩
    obtain ⟨pb, cb, rfl⟩ := own_shape HBk.out.own.1
    have hBl := back_len HBk.out.is
    by_cases hkl : k < p.length
    · obtain ⟨p1, cap1, b, o, hv, hp, hb, h4⟩ := seven_at HP.out.1 (by omega : p.length - 1 - k < p.length)
      simp only [Value.slice.injEq] at hv
      obtain ⟨rfl, _, rfl⟩ := hv
      have hidx : ∀ W, (Instr.indexAt 23 (.slice p0 p.length c0) (.int .i64 ((p.length : Int) - 1 - (k : Int)))).run Try.prog W = .ok (.pointer (some ⟨b, o + (p.length - 1 - k) * 7, none⟩)) W := fun W => by
        rw [show (p.length : Int) - 1 - (k : Int) = ((p.length - 1 - k : Nat) : Int) by omega]; exact idx_c3 p0 b o p.length c0 (p.length - 1 - k) hp (by omega) W
      have hbw := then_ HB3.out (HBk.out.bel)
      obtain ⟨c0', c1', c2', c3', c4', c5', c6'⟩ := h4.later hbw
      have HSt := Lib.hid ((HP.out.at (by omega : p.length - 1 - k < p.length)).later hbw)
      have HSl : Hid ((p.getD (p.length - 1 - k) default).set.length ≤ 6) := Lib.hid (by
        rw [List.getD_eq_getElem?_getD, List.getElem?_eq_getElem (by omega)]; exact HPs.out _ (List.getElem_mem (by omega)))
      have HSt1 := Lib.hid (back_step hkl)
      obtain ⟨c, hx⟩ : ∃ c, p.getD (p.length - 1 - k) default = c := ⟨_, rfl⟩
      rw [hx] at c0' c1' c2' c3' c4' c5' c6' HSt HSl HSt1
      have hsl := HSl.out
      have hw1 : IntKind.i64.wrap ((p.length : Int) - 1) = (p.length : Int) - 1 := by rw [IntKind.wrap_i64]; omega
      have hw2 : IntKind.i64.wrap ((p.length : Int) - 1 - (k : Int)) = (p.length : Int) - 1 - (k : Int) := by rw [IntKind.wrap_i64]; omega
      obtain ⟨W1, hW1⟩ : ∃ W1, W1 = wb.alloc (.cells #[.string c.nm, .int .i64 c.op, .int .i64 c.v.k, .int .i64 c.v.n, .string c.v.s, .bool c.v.b, .slice c.sp c.set.length c.sc] 37) := ⟨_, rfl⟩
      have hBx : Blk W1 wb.heap.size 37 #[.string c.nm, .int .i64 c.op, .int .i64 c.v.k, .int .i64 c.v.n, .string c.v.s, .bool c.v.b, .slice c.sp c.set.length c.sc] := by rw [hW1]; exact Blk.new _ _ _
      have hz1 : W1.heap.size = wb.heap.size + 1 := by rw [hW1]; simp
      have hbW : Below wb.heap.size wb W1 := by rw [hW1]; exact below_one _ _
      have HBx := Lib.hid hBx
      have HZ1 := Lib.hid hz1
      have HbW := Lib.hid hbW
      have HW1 := Lib.hid hW1
      have HSt2 := Lib.hid (HSt.out.later hbW)
      have x6 := hBx.cell 6 rfl
      clear hx hp h4 hb hbw hBx hz1 hbW hW1 HSt
      go_wp2_with fail
      rw [← HW1.out]
      clear x6
      go_loopw [12, 89] (fun t i w4 => ∃ j : Nat, j ≤ c.set.length ∧ i = .int .i64 j ∧ Hid (OwnV w4 (wb.heap.size + 1) t (c.set.reverse.take j)) ∧ Hid (Below W1.heap.size W1 w4)) (fun _ i _ => c.set.length - (intOf i).toNat)
      case atStart => exact ⟨0, Nat.zero_le _, rfl, Lib.hid (OwnV.nil _ _), Lib.hid (Below.refl _ _)⟩
      case round =>
        obtain ⟨j, hj, rfl, HO2, HB4⟩ := hrel
        obtain ⟨ps, cs, hfm⟩ := own_shape HO2.out
        have hlt : (c.set.reverse.take j).length = j := by simp; omega
        rw [hlt] at hfm
        subst hfm
        by_cases hjl : j < c.set.length
        · obtain ⟨p2, cap2, b2, o2, hv2, hp2, hb2, h42⟩ := four_at (HSt2.out.later HB4.out).1 (by omega : c.set.length - 1 - j < c.set.length)
          simp only [Value.slice.injEq] at hv2
          obtain ⟨hv2a, _, rfl⟩ := hv2
          rw [← hv2a] at hp2
          have hidx2 : ∀ W, (Instr.indexAt 35 (.slice c.sp c.set.length c.sc) (.int .i64 ((c.set.length : Int) - 1 - (j : Int)))).run Try.prog W = .ok (.pointer (some ⟨b2, o2 + (c.set.length - 1 - j) * 4, none⟩)) W := fun W => by
            rw [show (c.set.length : Int) - 1 - (j : Int) = ((c.set.length - 1 - j : Nat) : Int) by omega]; exact idx_v1 c.sp b2 o2 c.set.length c.sc (c.set.length - 1 - j) hp2 (by omega) W
          obtain ⟨d0, d1, d2, d3⟩ := h42
          have HRv := Lib.hid (rev_step hjl)
          obtain ⟨x, hx⟩ : ∃ x, c.set.getD (c.set.length - 1 - j) default = x := ⟨_, rfl⟩
          rw [hx] at d0 d1 d2 d3 HRv
          have y6 := (HBx.out.later HB4.out).cell 6 rfl
          have hw3 : IntKind.i64.wrap ((c.set.length : Int) - 1) = (c.set.length : Int) - 1 := by rw [IntKind.wrap_i64]; omega
          have hw4 : IntKind.i64.wrap ((c.set.length : Int) - 1 - (j : Int)) = (c.set.length : Int) - 1 - (j : Int) := by rw [IntKind.wrap_i64]; omega
          have hz4 : wb.heap.size + 1 ≤ wr.heap.size := by have := HB4.out.size; have := HZ1.out; omega
          have HLt := Lib.hid hlt
          clear hx hp2 hv2a hb2 hlt
          go_wp2_with (at_builtin; refine wpList_append_src (by rfl) _ _ 35 (by rfl) (wb.heap.size + 1) 34 j0 (.agg #[.int .i64 0, .int .i64 0, .string ⟨#[]⟩, .bool false]) 4 40 Try.underlying35 ji jz0 jz1 jz2 rfl (by decide) (.slice ps j cs) j ((c.set.reverse.take j).flatMap encV) (by rfl) (by have h := World.ownsRow.alloc HO2.out (.cells #[.int .i64 x.k, .int .i64 x.n, .string x.s, .bool x.b] 34); rw [HLt.out] at h; exact h) _ 1 (encV x) (by rfl) (.inr ⟨_, _, by rfl, by rfl, fun t u hu => by rw [add_lit, Nat.zero_add]; exact (Blk.new wr _ _).cell t (by simpa [encV] using hu), encV_one x⟩) (j + 1) rfl (by unfold maxLen; omega) (by omega) (by simp; omega) ?_; intro pC capC w5 hown5 hgrow5; have HO5 := Lib.hid hown5; have HB5 := Lib.hid ((HB4.out.alloc HB4.out.size (.cells #[.int .i64 x.k, .int .i64 x.n, .string x.s, .bool x.b] 34)).grown hgrow5 (by have := HZ1.out; simp; omega) (fun t ht => by have := (World.ownsRow.lt HO2.out t (by simpa [Value.ownBlock] using ht)).1; have := HZ1.out; omega)); clear hown5 hgrow5)
          go_roundw
          case rel => exact ⟨j + 1, by omega, by simp, Lib.hid (by unfold OwnV; rw [HRv.out, List.length_append, HLt.out, List.flatMap_append]; simpa using HO5.out), HB5⟩
          case measure => simp [intOf]; omega
        · have hje : j = c.set.length := by omega
          subst hje
          have hown := HO2.out
          rw [List.take_of_length_le (by simp)] at hown
          obtain ⟨S, hS⟩ : ∃ S, c.set.reverse = S := ⟨_, rfl⟩
          have hSn : S.length = c.set.length := by rw [← hS]; simp
          have HRc : Hid (revC c = ⟨c.nm, c.op, c.v, none, 0, S⟩) := Lib.hid (by rw [← hS]; rfl)
          rw [hS] at hown
          have hS6 : S.length ≤ 6 := by rw [hSn]; exact hsl
          obtain ⟨n, hn⟩ : ∃ n, c.set.length = n := ⟨_, rfl⟩
          rw [hn] at hSn hown ⊢
          have hBw := HBx.out.later HB4.out
          have y6 := hBw.cell 6 rfl
          have f6 := hBw.free 6
          obtain ⟨W2, hW2⟩ : ∃ W2, W2 = wr.setCell ⟨wb.heap.size, 6, none⟩ (.slice ps n cs) := ⟨_, rfl⟩
          have hX2 : Blk W2 wb.heap.size 37 #[.string c.nm, .int .i64 c.op, .int .i64 c.v.k, .int .i64 c.v.n, .string c.v.s, .bool c.v.b, .slice ps n cs] := by
            rw [hW2]; exact setCell_block hBw (by simp) _
          have hB0 : Below wb.heap.size wb wr := HbW.out.trans (HB4.out.mono (by have := HZ1.out; omega))
          have hB2 : Below wb.heap.size wb W2 := by rw [hW2]; exact hB0.setCell (Nat.le_refl _) _
          have hS2 : OwnV W2 (wb.heap.size + 1) (.slice ps n cs) S := by
            rw [hW2]
            exact World.ownsRow.kept hown (grown_set (grown_below (Below.refl _ wr) (some wb.heap.size)) _) (by
              by_cases hne : (Value.slice ps n cs).ownBlock = none
              · exact .inl hne
              · right; intro he; have := (World.ownsRow.lt hown _ he).1; omega)
          have HO6 := Lib.hid (HBk.out.own.later hB2)
          have HS6 := Lib.hid hS2
          have HB2' := Lib.hid hB2
          have HX2 := Lib.hid hX2
          have HW2 := Lib.hid hW2
          have hzb : w3.heap.size ≤ wb.heap.size := HBk.out.bel.size
          have hz2 : wb.heap.size ≤ W2.heap.size := hB2.size
          have x0 := hX2.cell 0 rfl
          have x1 := hX2.cell 1 rfl
          have x2 := hX2.cell 2 rfl
          have x3 := hX2.cell 3 rfl
          have x4 := hX2.cell 4 rfl
          have x5 := hX2.cell 5 rfl
          have x6 := hX2.cell 6 rfl
          have HSn := Lib.hid hSn
          clear hown hS hn hBw hX2 hB0 hB2 hS2 hW2 HO2 hj hjl hsl hSn
          go_wp2_with (first | (rw [← HW2.out]) | (at_builtin; refine wpList_append_src (by rfl) _ _ 23 (by rfl) w3.heap.size 37 i0 (.agg #[.string ⟨#[]⟩, .int .i64 0, .int .i64 0, .int .i64 0, .string ⟨#[]⟩, .bool false, .slice none 0 0]) 7 88 Try.underlying23 ii iz0 iz1 iz2 rfl (by decide) _ _ _ (by rfl) (World.ownsRow.alloc HO6.out.1 _) _ 1 (encC ⟨c.nm, c.op, c.v, ps, cs, S⟩) (by rfl) (.inr ⟨_, _, by rfl, by rfl, fun t u hu => by rw [add_lit, Nat.zero_add]; exact (Blk.new W2 _ _).cell t (by simpa [encC, HSn.out] using hu), encC_one _⟩) (B.length + 1) rfl (by unfold maxLen; omega) (by omega) (by simp; omega) ?_; intro pD capD w6 hown6 hgrow6; have HO7 := Lib.hid hown6; have HG7 := Lib.hid hgrow6; clear hown6 hgrow6))
          refine ⟨⟨k + 1, B ++ [⟨c.nm, c.op, c.v, ps, cs, S⟩], by omega, by simp, Lib.hid ⟨?_, ?_, ?_⟩⟩, by simp [intOf]; omega⟩
          · have h1 := (HO6.out.later (below_one W2 (.cells #[.string c.nm, .int .i64 c.op, .int .i64 c.v.k, .int .i64 c.v.n, .string c.v.s, .bool c.v.b, .slice ps n cs] 37)))
            refine h1.snoc (x := ⟨c.nm, c.op, c.v, ps, cs, S⟩) ?_ HG7.out ?_
            · show OwnV _ _ (.slice ps S.length cs) S
              rw [HSn.out]
              exact (HS6.out.later (below_one W2 _)).base (by omega)
            · rw [List.length_append, List.flatMap_append]
              simpa using HO7.out
          · rw [List.map_append, HBk.out.is, HSt1.out, HRc.out]; rfl
          · exact grown_in ((HBk.out.bel.trans (HB2'.out.mono hzb)).alloc (by omega) _) (World.ownsRow.alloc HO6.out.1 _) (by simp; omega) HG7.out
    · have hke : k = p.length := by omega
      subst hke
      have HIs : Hid (B.map bare = (p.reverse.map revC)) := Lib.hid (by rw [HBk.out.is, List.take_of_length_le (by simp)])
      have hzb : w3.heap.size ≤ wb.heap.size := HBk.out.bel.size
      have HBl : Hid (B.length = p.length) := Lib.hid (by have := congrArg List.length HIs.out; simpa using this)
      have HBs := Lib.hid (HBk.out.own.cs (by omega) (fun d hd => by
        have h1 : bare d ∈ p.reverse.map revC := by rw [← HIs.out]; exact List.mem_map.2 ⟨d, hd, rfl⟩
        obtain ⟨c, hc, he⟩ := List.mem_map.1 h1
        have h2 := HPs.out c (by simpa using hc)
        have h3 : d.set = c.set.reverse := by have := congrArg Cn.set he; exact this.symm
        rw [h3]; simp; omega))
      have hw1 : IntKind.i64.wrap (2 * (p.length : Int)) = 2 * (p.length : Int) := by rw [IntKind.wrap_i64]; omega
      go_upto_if 116 with (fail)
      go_cut [9] from 113 to 119 (fun b wq => ∃ pq cq R, b = .slice pq R.length cq ∧ Hid (Cs wq (.slice pq R.length cq) R ∧ R.map bare = (backL p).map bare ∧ Below w3.heap.size w3 wq))
      case first =>
        by_cases h3 : 2 * p.length ≤ 6
        · have hd : 2 * (p.length : Int) ≤ 6 := by omega
          have HBk6 : Hid (backL p = p.reverse.map revC ++ p) := Lib.hid (by unfold backL; rw [if_pos h3])
          have HSrc := Lib.hid (cons_src (HP.out.later (then_ HB3.out HBk.out.bel)))
          have hz3 : w3.heap.size ≤ wb.heap.size := HBk.out.bel.size
          go_wp2_with (at_builtin; refine wpList_append_src (by rfl) _ _ 23 (by rfl) w3.heap.size 37 i0 (.agg #[.string ⟨#[]⟩, .int .i64 0, .int .i64 0, .int .i64 0, .string ⟨#[]⟩, .bool false, .slice none 0 0]) 7 88 Try.underlying23 ii iz0 iz1 iz2 rfl (by decide) _ _ _ (by rfl) HBk.out.own.1 _ p.length (p.flatMap encC) (by rfl) HSrc.out (B.length + p.length) rfl (by unfold maxLen; have := HBl.out; omega) (by have := HBl.out; omega) hz3 ?_; intro pE capE w7 hown7 hgrow7; have HO7 := Lib.hid hown7; have HG7 := Lib.hid hgrow7; clear hown7 hgrow7)
          go_meet
          case rel =>
            have hb7 : Below w3.heap.size w3 w7 := grown_in HBk.out.bel HBk.out.own.1 hz3 HG7.out
            refine ⟨pE, capE, B ++ p, by rw [List.length_append], Lib.hid ⟨?_, ?_, hb7⟩⟩
            · have h8 := HBl.out
              rw [List.length_append]
              refine cs_joined (a := B) (b := p) rfl HO7.out (by omega) (fun d hd => ?_) (fun d hd => (HP.out.2.2 d hd).later (then_ HB3.out hb7))
              exact OwnV.vs ((HBk.out.own.2 d hd).keptC HBk.out.own.1 HG7.out) (HBs.out.2.2 d hd).2
            · rw [List.map_append, HIs.out, HBk6.out, List.map_append, List.map_map]; rfl
        · have hd : ¬ 2 * (p.length : Int) ≤ 6 := by omega
          have HBk6 : Hid (backL p = p.reverse.map revC) := Lib.hid (by unfold backL; rw [if_neg h3, List.append_nil])
          go_wp2_with fail
          go_meet
          case rel => exact ⟨pb, cb, B, rfl, Lib.hid ⟨HBs.out, by rw [HIs.out, HBk6.out, List.map_map]; rfl, HBk.out.bel⟩⟩
      case rest =>
        obtain ⟨pq, cq, R, rfl, HQ⟩ := hcut
        have hRl : R.length = (backL p).length := by have := congrArg List.length HQ.out.2.1; simpa using this
        have hRm := back_may HQ.out.2.1 HMay.out
        have hR6 := (may_len hRm).1
        have HNo := Lib.hid (normal_yes _ R _ HQ.out.1 hRm)
        clear hRl hRm
        go_wp2_with fail
        refine HNo.out.mono ?_; rintro e w8 ⟨pf, cf, F, rfl, hF⟩
        have hFl : F.length ≤ R.length := hF.len
        have HB8 := Lib.hid (then_ HB3.out (HQ.out.2.2.trans (hF.bel.mono HQ.out.2.2.size)))
        have HFc := Lib.hid (hF.own.cs (by omega) (fun d hd => by have := hF.sets d hd; omega))
        have hsm : cmpL cmpC F r = 0 := same_bare (by rw [hF.is, back_norm HQ.out.2.1, ← HN1.out.is])
        have HRc8 := Lib.hid (HRc3.out.later (HQ.out.2.2.trans (hF.bel.mono HQ.out.2.2.size)))
        have HSm := Lib.hid (fun W (h : Below w8.heap.size w8 W) => psame_any _ _ F r W (HFc.out.later h) (HRc8.out.later h))
        rw [hsm, decide_eq_true rfl] at HSm
        have HRis := Lib.hid HN1.out.rise
        clear hF hsm HNo HQ HRc3 HB3 HBk HIs HBs HBl
        go_wp2_with fail
        go_loopw [16] (fun i wr => ∃ k : Nat, 1 ≤ k ∧ (k ≤ r.length ∨ k = 1) ∧ i = .int .i64 k ∧ Hid (Below w8.heap.size w8 wr)) (fun i _ => r.length + 1 - (intOf i).toNat)
        case atStart => exact ⟨1, Nat.le_refl _, .inr rfl, rfl, Lib.hid (Below.refl _ _)⟩
        case round =>
          obtain ⟨k, hk1, hk, rfl, HB9⟩ := hrel
          by_cases hkr : k < r.length
          · have hRow := (HRc8.out.later HB9.out)
            obtain ⟨bR, oR, hpn, hcn, hS1, hS2⟩ := cs_parts hRow hk1 hkr
            have HC := Lib.hid (fun W (h : Below wr.heap.size wr W) => pcompare_any _ _ _ _ W (hS1.later h) (hS2.later h))
            have hcc : cmpL cmpC [r.getD (k - 1) default] [r.getD k default] = -1 := by
              have h1 := rising_at HRis.out (by omega : k - 1 < k) hkr
              have h2 := weakC.1 (r.getD (k - 1) default) (r.getD k default)
              simp only [cmpL]
              rw [if_neg (by omega)]; omega
            rw [hcc] at HC
            have hw1 : IntKind.i64.wrap ((k : Int) - 1) = (k : Int) - 1 := by rw [IntKind.wrap_i64]; omega
            have hw2 : IntKind.i64.wrap ((k : Int) + 1) = (k : Int) + 1 := by rw [IntKind.wrap_i64]; omega
            have ht1 : ((k : Int) - 1).toNat = k - 1 := by omega
            have ht2 : ((k : Int) + 1).toNat = k + 1 := by omega
            have g1 : (0 : Int) ≤ (k : Int) - 1 := by omega
            have g2 : (1 : Int) ≤ (k : Int) := by omega
            have g3 : (k : Int) - 1 ≤ (k : Int) := by omega
            have g4 : (k : Int) ≤ (cn : Int) := by omega
            have g5 : (k : Int) + 1 ≤ (cn : Int) := by omega
            have g6 : (k : Int) ≤ (k : Int) + 1 := by omega
            have g7 : ¬ (cn = k - 1) := by omega
            have g8 : ¬ (cn = k) := by omega
            have g9 : k - (k - 1) = 1 := by omega
            subst hpn
            clear hRow hS1 hS2 hcc
            go_wp2_with fail
            refine wp_region_later (by kernel_rfl) (by kernel_rfl) ?_
            repeat (quiet_step ((first | (go_at_call 15; exact later_call _ (HC.out _ (Later.bel _))))))
            refine wpQuiet_nil ?_
            intro wz hw'
            obtain ⟨⟨_, hbz⟩, rfl⟩ := hw'
            have HBz := Lib.hid (then_ HB9.out hbz)
            clear hbz HC
            go_wp2_with fail
            go_roundw
            case rel => exact ⟨k + 1, by omega, .inl (by omega), by simp, HBz⟩
            case measure => simp [intOf]; omega
          · go_wp2_with fail
            refine (awake_any _).mono ?_; rintro e wa ⟨rfl, ba⟩
            have HBa := Lib.hid (then_ HB9.out ba)
            clear ba
            go_wp2_with fail
            refine (HSm.out _ HBa.out).mono ?_; rintro e wz ⟨rfl, bz⟩
            have HBz := Lib.hid (then_ HB8.out (then_ HBa.out bz))
            clear bz
            go_wp2_with fail
            go_ret
            exact ⟨rfl, HBz.out⟩
theorem law_pnormal (vp : Value) (p : List Cn) (key : ByteArray) (sl : Value) (attrs : List At) (w : World) (hP : Cs w vp p) (hE : Es w sl attrs) :
    Calls Try.prog 5 #[vp, .agg #[.string key, sl]] w (Gives (.bool true) w) := by
  cases hm : mayPr p with
  | false => exact pnormal_no vp p key sl attrs w hP hE hm
  | true => exact pnormal_yes vp p key sl attrs w hP hE hm
end Go.Proofs.Ytpdlgkneeilclaa.Gm
