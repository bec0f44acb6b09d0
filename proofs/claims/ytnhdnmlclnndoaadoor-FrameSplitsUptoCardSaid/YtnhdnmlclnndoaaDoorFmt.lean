/- The walk of FrameTorn. -/
import Derived.Test.YtnhdnmlclnndoaaDoorFmn
import Derived.Test.YtnhdnmlclnndoaaDoorFml
set_option linter.unusedSimpArgs false
set_option linter.unusedVariables false
namespace Go.Proofs.YtnhdnmlclnndoaaDoor.Crc
open Go Go.RowKit Gm
attribute [local go_sem ↓] Go.wp_at_zero Go.wp_at_succ

theorem split_tail {l : List (List UInt8)} (h : ∀ r ∈ l, mayR r = true) {t : List UInt8} (ht : oneR t = none) : splitR (frms l ++ t) = l := by
  rw [split_app l t h, split_none ht, List.append_nil]
theorem xor_u8_11 (a b : UInt8) : bits .xor .u8 (a.toNat : Int) (b.toNat : Int) = ((a ^^^ b).toNat : Int) := by
  rw [u8_xor_nat _ _ a.toNat_lt b.toNat_lt, UInt8.toNat_xor]
theorem xor_ne {a b : UInt8} (h : b ≠ 0) : a ^^^ b ≠ a := fun e => h (by
  have h1 : a ^^^ (a ^^^ b) = a ^^^ a := by rw [e]
  rwa [← UInt8.xor_assoc, UInt8.xor_self, UInt8.zero_xor] at h1)
theorem own_turn11 {w : World} {B g cap : Nat} {b : List UInt8} {n : Nat} (hn : b.length = n) (h : OwnB w B (.slice (some ⟨g, 0, none⟩) n cap) b) (j : Nat) (c : UInt8) : OwnB (w.setCell ⟨g, j, none⟩ (byteV c)) B (.slice (some ⟨g, 0, none⟩) n cap) (b.set j c) := by
  subst hn
  have h1 := (World.ownsRow.stored h j (byteV c)).1
  unfold OwnB cellsB at *
  rw [List.length_set, List.map_set]
  exact h1
theorem torn_row {w : World} {base n c q : Nat} {p : Option Addr} {X : List UInt8} (h : w.ownsRow base 5 1 (.slice p n c) n (cellsB [] ++ cellsB X)) (hX : X.length = n) (hq : q < n) : ∃ g, p = some ⟨g, 0, none⟩ ∧ base ≤ g ∧ g < w.heap.size ∧ w.cell? ⟨g, q, none⟩ = some (byteV (X.getD q 0)) ∧ w.frozen? ⟨g, q, none⟩ = false ∧ OwnB w base (.slice p n c) X := by
  subst hX
  have ho : OwnB w base (.slice p X.length c) X := h
  obtain ⟨g, cap, e, hb, hlt, hw⟩ := ho.row (by intro e; rw [e] at hq; simp at hq)
  simp only [Value.slice.injEq] at e
  obtain ⟨rfl, -, rfl⟩ := e
  refine ⟨g, rfl, hb, hlt, ?_, (hw q hq).choose_spec.2, ho⟩
  have h3 := World.ownsRow.cellAt ho q (by omega)
  rw [h3, cellsB_at hq]
theorem take_getD (X : List UInt8) (q : Nat) : (X.take (q + 1)).getD q 0 = X.getD q 0 := by
  rw [List.getD_eq_getElem?_getD, List.getD_eq_getElem?_getD, List.getElem?_take, if_pos (by omega)]
theorem own_raw {w : World} {base : Nat} {v : Value} {n : Nat} {xs : List Value} {L : List UInt8} (h : w.ownsRow base 5 1 v n xs) (hx : xs = cellsB L) (hn : L.length = n) : OwnB w base v L := by subst hx hn; exact h
set_option maxHeartbeats 16000000 in
set_option maxRecDepth 100000 in
theorem law_ftorn (v v1 : Value) (l : List (List UInt8)) (L : List UInt8) (n2 : Nat) (d : UInt8) (W : World) (hE : Env W) (hR : RowR W v l) (hl : l.length ≤ maxTk) (hB : Bs W v1 L) (hL : L.length ≤ maxTk) (hn2 : n2 < 65536) :
    Calls Tryd.prog 6 #[v, v1, .int .u16 (n2 : Nat), .int .u8 (d.toNat : Nat)] W (Gives (.bool true) W) := by
  obtain ⟨i0, ii, iz0, iz1, iz2⟩ := info_parts infoB
  have HM0 := Lib.hid (made_any v l W hE hR hl)
  obtain ⟨p0, c0, rfl⟩ := hR.form
  obtain ⟨p1, c1, rfl⟩ := hB.form
  have HBR := Lib.hid hB
  have HE := Lib.hid hE
  have hd256 := d.toNat_lt
  have HMay := Lib.hid (made_may (l := l))
  have hfl : (frms (madeL l)).length ≤ 82240 := by
    have h1 := whole_le (madeL l) made_may
    have h2 := made_len l
    rw [← frms_length] at h1
    omega
  obtain ⟨own, hown⟩ : ∃ own, madeL l = own := ⟨_, rfl⟩
  have hol : own.length ≤ 40 := by rw [← hown]; exact made_len l
  unfold MadeR at HM0
  rw [hown] at HM0 HMay hfl
  obtain ⟨nl, hnl⟩ : ∃ nl, l.length = nl := ⟨_, rfl⟩
  rw [hnl] at HM0 ⊢
  have HNil := Lib.hid (World.ownsRow_nil W W.heap.size 5 1)
  clear hE hR hl hB hown hnl
  obtain ⟨nf, hnf⟩ : ∃ nf, (frms own).length = nf := ⟨_, rfl⟩
  have HNF := Lib.hid hnf
  rw [hnf] at hfl
  clear hnf
  unfold maxTk at hL
  have hcase := put_cases L
  have HL := Lib.hid (rfl : L.length = L.length)
  rcases hcase with hc | hc | hc
  · -- no record
    obtain ⟨e1, e2⟩ := put_none hc
    rw [hc] at HBR ⊢
    clear HL hL
    go_enter Tryd.func6, Tryd.ntmps6
    go_wp2_with fail
    refine HM0.out.mono ?_; rintro e w1 ⟨f, ow, rfl, hof, hro, b1⟩
    obtain ⟨pf, cf, rfl⟩ := hof.form
    obtain ⟨po, co, rfl⟩ := hro.form
    rw [HNF.out] at hof ⊢
    have HB1 := Lib.hid b1
    generalize own.length = no at *
    clear hof hro b1 HM0
    go_wp2_with fail
    have HP := Lib.hid (fput_any _ L w1 (HE.out.below HB1.out) (HBR.out.below HB1.out))
    unfold PutR at HP
    rw [e1, e2] at HP
    refine HP.out.mono ?_; rintro e w2 ⟨v2, rfl, ho2, b2⟩
    obtain ⟨p2, c2, rfl⟩ := ho2.form
    have HB2 := Lib.hid (then_ HB1.out b2)
    rw [show ([] : List UInt8).length = 0 from rfl]
    clear ho2 b2 HP e1 e2
    have HWK := Lib.hid (wakes_any _ (HE.out.below HB2.out))
    go_wp2_with fail
    refine HWK.out.mono ?_; rintro e w3 ⟨rfl, b3⟩
    have HB3 := Lib.hid (then_ HB2.out b3)
    clear b3 HWK
    go_wp2_with fail
    go_ret
    exact ⟨rfl, HB3.out⟩
  · obtain ⟨e1, e2⟩ := put_long hc
    obtain ⟨nL, hnL⟩ : ∃ nL, L.length = nL := ⟨_, rfl⟩
    rw [hnL] at HBR hc hL ⊢
    have hne : ¬ ((nL : Int) = 0) := by omega
    have hne2 : ¬ (nL = 0) := by omega
    have hb0 : ((nL : Int) == 0) = false := by rw [beq_eq_false_iff_ne]; omega
    clear HL hnL
    go_enter Tryd.func6, Tryd.ntmps6
    go_wp2_with fail
    refine HM0.out.mono ?_; rintro e w1 ⟨f, ow, rfl, hof, hro, b1⟩
    obtain ⟨pf, cf, rfl⟩ := hof.form
    obtain ⟨po, co, rfl⟩ := hro.form
    rw [HNF.out] at hof ⊢
    have HB1 := Lib.hid b1
    generalize own.length = no at *
    clear hof hro b1 HM0
    go_wp2_with fail
    have HP := Lib.hid (fput_any _ L w1 (HE.out.below HB1.out) (HBR.out.below HB1.out))
    unfold PutR at HP
    rw [e1, e2] at HP
    refine HP.out.mono ?_; rintro e w2 ⟨v2, rfl, ho2, b2⟩
    obtain ⟨p2, c2, rfl⟩ := ho2.form
    have HB2 := Lib.hid (then_ HB1.out b2)
    rw [show ([] : List UInt8).length = 0 from rfl]
    clear ho2 b2 HP e1 e2
    have HWK := Lib.hid (wakes_any _ (HE.out.below HB2.out))
    go_wp2_with fail
    refine HWK.out.mono ?_; rintro e w3 ⟨rfl, b3⟩
    have HB3 := Lib.hid (then_ HB2.out b3)
    clear b3 HWK
    go_wp2_with fail
    go_ret
    exact ⟨rfl, HB3.out⟩
  · have hm := (mayR_iff L).1 hc
    have HMy := Lib.hid hc
    obtain ⟨nL, hnL⟩ : ∃ nL, L.length = nL := ⟨_, rfl⟩
    have HNL := Lib.hid hnL
    rw [hnL] at HBR hL hm ⊢
    obtain ⟨nM, hnM⟩ : ∃ nM, nL + 8 = nM := ⟨_, rfl⟩
    have HNM := Lib.hid hnM
    have hm9 : 9 ≤ nM := by omega
    have hmx : nM ≤ 2056 := by omega
    obtain ⟨q, hq⟩ : ∃ q, n2 % nM = q := ⟨_, rfl⟩
    have hqn : q < nM := by rw [← hq]; exact Nat.mod_lt _ (by omega)
    have hq1 : Int.tmod (n2 : Int) (nM : Int) = (q : Int) := by rw [← hq]; rfl
    have hq2 : (n2 : Int) % (nM : Int) = (q : Int) := by rw [← hq]; rfl
    have HFl : Hid ((frm L).length = nM) := Lib.hid (by rw [frm_length, hnL, hnM])
    have HC1 : Hid (splitR (frms own ++ (frm L).take q) = own) := Lib.hid (split_tail HMay.out (one_cut hc (by rw [hnL, hnM]; exact hqn)))
    have HC2 : Hid (∀ c, c ≠ (frm L).getD q 0 → splitR (frms own ++ ((frm L).take (q + 1)).set q c) = own) := Lib.hid (fun c h => split_tail HMay.out (one_torn hc (by rw [hnL, hnM]; exact hqn) h))
    have HWh : Hid (wholeL own = nf) := Lib.hid (by rw [← frms_length]; exact HNF.out)
    clear HL hnL hc hnM hq
    go_enter Tryd.func6, Tryd.ntmps6
    go_wp2_with fail
    refine HM0.out.mono ?_; rintro e w1 ⟨f, ow, rfl, hof, hro, b1⟩
    obtain ⟨pf, cf, rfl⟩ := hof.form
    obtain ⟨po, co, rfl⟩ := hro.form
    rw [HNF.out] at hof ⊢
    have HB1 := Lib.hid b1
    have HOf := Lib.hid hof
    have HRo := Lib.hid hro
    clear hof hro b1 HM0
    go_wp2_with fail
    have HP := Lib.hid (fput_any _ L w1 (HE.out.below HB1.out) (HBR.out.below HB1.out))
    refine HP.out.mono ?_; intro e w2 h2
    obtain ⟨pm, cm, rfl, hom, b2⟩ := h2.good HMy.out
    rw [HNL.out, HNM.out] at hom ⊢
    have HB2 := Lib.hid (then_ HB1.out b2)
    have HOm := Lib.hid (hom.bs)
    have HOf2 := Lib.hid (HOf.out.below b2)
    have HRo2 := Lib.hid (HRo.out.later b2)
    have hm' : Bs w2 (.slice pm (frm L).length cm) (frm L) := by rw [HFl.out]; exact hom.bs
    obtain ⟨pu, cu, ru, hcu⟩ := slice_upto hm' (k := q) (by rw [HFl.out]; omega)
    obtain ⟨pt, ct, rt, hct⟩ := slice_upto hm' (k := q + 1) (by rw [HFl.out]; omega)
    rw [HFl.out] at ru rt
    have hct1 : ((q + 1 : Nat) : Int) = (q : Int) + 1 := by omega
    rw [hct1] at rt
    have HSf := Lib.hid (fun X (h : Below w2.heap.size w2 X) => by have := (HOf2.out.bs.below h).src; rw [HNF.out] at this; exact this)
    have HSc := Lib.hid (fun X (h : Below w2.heap.size w2 X) => by have := (hcu.below h).src; rw [List.length_take, HFl.out, Nat.min_eq_left (Nat.le_of_lt hqn)] at this; exact this)
    have HSt := Lib.hid (fun X (h : Below w2.heap.size w2 X) => by have := (hct.below h).src; rw [List.length_take, HFl.out, Nat.min_eq_left hqn] at this; exact this)
    have HN := Lib.hid (OwnB.nil w2 w2.heap.size)
    have HR2 := Lib.hid (Below.refl w2.heap.size w2)
    obtain ⟨no, hno⟩ : ∃ no, own.length = no := ⟨_, rfl⟩
    have HNO := Lib.hid hno
    rw [hno] at HRo2 ⊢
    clear hno
    have HRT := Lib.hid rt
    clear hom b2 HP h2 HOf HRo hm' hcu hct HB1 rt
    go_wp2_with (at_builtin; refine wpList_append_src rfl _ _ 22 (by rfl) w2.heap.size 5 i0 (.int .u8 0) 1 1 Tryd.underlying22 ii iz0 iz1 iz2 rfl (by decide) _ _ _ (by rfl) HN.out _ nf (cellsB (frms own)) (by rfl) (HSf.out _ HR2.out) (nf) (by simp) (by unfold maxLen; omega) (by omega) (Nat.le_refl _) ?_; intro pAa capAa wa howna hgrowa; have HOa := Lib.hid howna; have HBa := Lib.hid (HR2.out.grown hgrowa (Nat.le_refl _) (fun j hj => (World.ownsRow.lt HN.out j hj).1)); clear howna hgrowa; go_wp2_with (at_builtin; refine wpList_append_src rfl _ _ 22 (by rfl) w2.heap.size 5 i0 (.int .u8 0) 1 1 Tryd.underlying22 ii iz0 iz1 iz2 rfl (by decide) _ _ _ (by rfl) HOa.out _ q (cellsB ((frm L).take q)) (by rfl) (HSc.out _ HBa.out) (nf + q) (by rfl) (by unfold maxLen; omega) (by omega) (HBa.out.size) ?_; intro pAb capAb wb hownb hgrowb; have HOb := Lib.hid hownb; have HBb := Lib.hid (HBa.out.grown hgrowb (HBa.out.size) (fun j hj => (World.ownsRow.lt HOa.out j hj).1)); have HBb0 := HBb; clear hownb hgrowb))
    have hlC : (frms own ++ (frm L).take q).length = nf + q := by simp only [List.length_append, List.length_take, HFl.out, HNF.out]; omega
    have HOb := Lib.hid (own_raw HOb.out (L := frms own ++ (frm L).take q) (by rw [cellsB_append]; rfl) hlC)
    have HBb := Lib.hid (then_ HB2.out HBb.out)
    refine (split_any _ _ wb (HE.out.below HBb.out) HOb.out.bs (by rw [hlC]; unfold maxSp; omega)).mono ?_
    intro e w5 h5
    obtain ⟨px, cx, rfl, hrx, b5⟩ := h5.is HC1.out
    rw [HNO.out] at hrx ⊢
    rw [HWh.out]
    have HB5 := Lib.hid (then_ HBb.out b5)
    have HR25 : Hid (Below w2.heap.size w2 w5) := Lib.hid (then_ HBb0.out b5)
    have HS5 := Lib.hid (same_any _ _ own own w5 hrx (HRo2.out.later HR25.out) (Nat.le_trans hol (by decide)))
    rw [show decide (own = own) = true from decide_eq_true rfl] at HS5
    clear h5 hrx b5 HOa HOb HBa HBb hlC
    go_wp2_with fail
    refine HS5.out.mono ?_; rintro e w6 ⟨rfl, b6⟩
    have HB6 := Lib.hid (then_ HB5.out b6)
    have HR26 := Lib.hid (then_ HR25.out b6)
    clear HS5 HB5 HR25 b6
    go_upto_if 69 with (fail)
    go_cut [3] from 70 to 108 (fun t wq => (∃ x : UInt8, x ≠ 0 ∧ t = .int .u8 (x.toNat : Nat)) ∧ wq = w6)
    case first =>
      by_cases hd0 : d = 0
      · have hb0 : (d.toNat : Int) = 0 := by rw [hd0]; rfl
        go_wp2_with fail
        go_meet
        exact ⟨⟨1, by decide, rfl⟩, rfl⟩
      · have hb0 : ¬ ((d.toNat : Int) = 0) := fun e => hd0 (UInt8.toNat_inj.1 (by rw [show (0 : UInt8).toNat = 0 from rfl]; omega))
        go_wp2_with fail
        go_meet
        exact ⟨⟨d, hd0, rfl⟩, rfl⟩
    case rest =>
      obtain ⟨⟨x, hx, rfl⟩, rfl⟩ := hcut
      have HN6 := Lib.hid (OwnB.nil wc w2.heap.size)
      have HX := Lib.hid hx
      have hlen1 : ((q + 1 : Nat) : Int) - 1 = (q : Int) := by omega
      have rt := HRT.out
      clear hx HRT HN HR2 HNil HSc HC1
      go_wp2_with (at_builtin; refine wpList_append_src rfl _ _ 22 (by rfl) w2.heap.size 5 i0 (.int .u8 0) 1 1 Tryd.underlying22 ii iz0 iz1 iz2 rfl (by decide) _ _ _ (by rfl) HN6.out _ (q + 1) (cellsB ((frm L).take (q + 1))) (by rfl) (HSt.out _ HR26.out) (q + 1) (by simp) (by unfold maxLen; omega) (by omega) (HR26.out.size) ?_; intro pAt capAt wt hownt hgrowt; have HOt := Lib.hid hownt; have HBt := Lib.hid (HR26.out.grown hgrowt (HR26.out.size) (fun j hj => (World.ownsRow.lt HN6.out j hj).1)); clear hownt hgrowt; obtain ⟨gT, rfl, hbT, hlT, kT, fT, hoT⟩ := torn_row (q := q) HOt.out (by rw [List.length_take, HFl.out]; omega) (by omega); rw [take_getD] at kT; obtain ⟨c0, hc0⟩ : ∃ c0, (frm L).getD q 0 = c0 := ⟨_, rfl⟩; rw [hc0] at kT; have hxor := xor_u8_11 c0 x; have hidx := idx_b (some ⟨gT, 0, none⟩) gT 0 (q + 1) capAt q rfl (by omega); rw [Nat.zero_add] at hidx; have HC3 := Lib.hid (HC2.out (c0 ^^^ x) (by rw [hc0]; exact xor_ne HX.out)); have HOT := Lib.hid (own_turn11 (by rw [List.length_take, HFl.out]; omega) hoT q (c0 ^^^ x)); have HBT := Lib.hid (set_below (i := q) HBt.out hbT (byteV (c0 ^^^ x))); clear hoT hlT hc0 HOt HBt HC2 rt; have HSx := Lib.hid (fun X (h : Below w2.heap.size w2 X) => trivial); clear HSx; have HN7 := Lib.hid (OwnB.nil (wt.setCell ⟨gT, q, none⟩ (byteV (c0 ^^^ x))) w2.heap.size); have HSy := Lib.hid (fun Y (h : Below (wt.setCell ⟨gT, q, none⟩ (byteV (c0 ^^^ x))).heap.size (wt.setCell ⟨gT, q, none⟩ (byteV (c0 ^^^ x))) Y) => by have := (HOT.out.bs.below h).src; rw [List.length_set, List.length_take, HFl.out, Nat.min_eq_left hqn] at this; exact this); clear HN6; go_wp2_with (at_builtin; refine wpList_append_src rfl _ _ 22 (by rfl) w2.heap.size 5 i0 (.int .u8 0) 1 1 Tryd.underlying22 ii iz0 iz1 iz2 rfl (by decide) _ _ _ (by rfl) HN7.out _ nf (cellsB (frms own)) (by rfl) (HSf.out _ HBT.out) (nf) (by simp) (by unfold maxLen; omega) (by omega) (HBT.out.size) ?_; intro pAc capAc wc hownc hgrowc; have HOc := Lib.hid hownc; have HBc := Lib.hid (HBT.out.grown hgrowc (HBT.out.size) (fun j hj => (World.ownsRow.lt HN7.out j hj).1)); have HBc1 := Lib.hid ((Below.refl (wt.setCell ⟨gT, q, none⟩ (byteV (c0 ^^^ x))).heap.size (wt.setCell ⟨gT, q, none⟩ (byteV (c0 ^^^ x)))).grown hgrowc (Nat.le_refl _) (fun j hj => by simp [Value.ownBlock] at hj)); clear hownc hgrowc; go_wp2_with (at_builtin; refine wpList_append_src rfl _ _ 22 (by rfl) w2.heap.size 5 i0 (.int .u8 0) 1 1 Tryd.underlying22 ii iz0 iz1 iz2 rfl (by decide) _ _ _ (by rfl) HOc.out _ (q + 1) (cellsB (((frm L).take (q + 1)).set q (c0 ^^^ x))) (by rfl) (HSy.out _ HBc1.out) (nf + (q + 1)) (by rfl) (by unfold maxLen; omega) (by omega) (HBc.out.size) ?_; intro pAd capAd wd hownd hgrowd; have HOd := Lib.hid hownd; have HBd := Lib.hid (HBc.out.grown hgrowd (HBc.out.size) (fun j hj => (World.ownsRow.lt HOc.out j hj).1)); have HBd0 := HBd; clear hownd hgrowd)))
      have hlD : (frms own ++ ((frm L).take (q + 1)).set q (c0 ^^^ x)).length = nf + (q + 1) := by simp only [List.length_append, List.length_set, List.length_take, HFl.out, HNF.out]; omega
      have HOd := Lib.hid (own_raw HOd.out (L := frms own ++ ((frm L).take (q + 1)).set q (c0 ^^^ x)) (by rw [cellsB_append]; rfl) hlD)
      have HBd1 := Lib.hid (then_ HB2.out HBd.out)
      refine (split_any _ _ wd (HE.out.below HBd1.out) HOd.out.bs (by rw [hlD]; unfold maxSp; omega)).mono ?_
      intro e w9 h9
      obtain ⟨py, cy, rfl, hry, b9⟩ := h9.is HC3.out
      rw [HNO.out] at hry ⊢
      rw [HWh.out]
      have HB9 := Lib.hid (then_ HBd1.out b9)
      have HR29 : Hid (Below w2.heap.size w2 w9) := Lib.hid (then_ HBd0.out b9)
      have HS9 := Lib.hid (same_any _ _ own own w9 hry (HRo2.out.later HR29.out) (Nat.le_trans hol (by decide)))
      rw [show decide (own = own) = true from decide_eq_true rfl] at HS9
      clear h9 hry b9 HOc HOd HBc HBd hlD HOT HBT kT fT
      go_wp2_with fail
      refine HS9.out.mono ?_; rintro e wa ⟨rfl, ba⟩
      have HBa := Lib.hid (then_ HB9.out ba)
      clear HS9 HB9 ba
      have HWK := Lib.hid (wakes_any _ (HE.out.below HBa.out))
      go_wp2_with fail
      refine HWK.out.mono ?_; rintro e wb ⟨rfl, bb⟩
      have HBz := Lib.hid (then_ HBa.out bb)
      clear bb HWK
      go_wp2_with fail
      go_ret
      exact ⟨rfl, HBz.out⟩
end Go.Proofs.YtnhdnmlclnndoaaDoor.Crc
