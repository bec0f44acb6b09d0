/- The document's item: MayItem, PutItem. -/
import Derived.Test.YtkfheodcmhodpaaVd
set_option linter.unusedSimpArgs false
set_option linter.unusedVariables false
namespace Go.Proofs.Ytkfheodcmhodpaa.Gm
open Go Go.RowKit
attribute [local go_sem ↓] Go.wp_at_zero Go.wp_at_succ

/-- Which items may be. -/
def mayI (x : It) : Bool := decide (0 < x.1) && decide (x.1 ≤ 1099511627776) && decide (x.2.1 ≤ 1099511627776) && mayE x.2.2.1 x.2.2.2
def putI (x : It) : Option (List UInt8) := if mayI x = true then some (formI x) else none
abbrev iv (n t : Nat) (key : ByteArray) (u : Value) : Value := .agg #[.int .u64 n, .int .u64 t, .string key, u]
theorem may_wfi {x : It} (h : mayI x = true) (hr : ∀ a ∈ x.2.2.2, FitsI a.n) : WfI x ∧ ∀ a ∈ x.2.2.2, a.k ≠ 0 := by
  simp only [mayI, Bool.and_eq_true, decide_eq_true_eq] at h
  obtain ⟨a, b⟩ := may_wfe h.2 hr
  exact ⟨⟨h.1.1.2, h.1.2, a⟩, b⟩
set_option maxHeartbeats 4000000 in
set_option maxRecDepth 20000 in
theorem qmayitem_any (n t : Nat) (key : ByteArray) (u : Value) (l : List Attr) (w : World) (hS : Sl w u l) (hR : Room l) : Calls Try.prog 29 #[iv n t key u] w (Gives (.bool (mayI (n, t, key, l))) w) := by
  have HM := Lib.hid (fun W (h : Below w.heap.size w W) => rmay_any key u l W (hS.below h) hR)
  obtain ⟨p, cap, b, o, hv, _⟩ := hS
  subst hv
  have HB0 := Lib.hid (below_one w (.cells #[.int .u64 n, .int .u64 t, .string key, .slice p l.length cap] 51))
  have HE : Hid (mayI (n, t, key, l) = (decide (0 < n) && decide (n ≤ 1099511627776) && decide (t ≤ 1099511627776) && mayE key l)) := Lib.hid rfl
  rw [HE.out]
  clear HE hR
  generalize mayE key l = me at HM ⊢
  by_cases h1 : 0 < n
  · by_cases h2 : n ≤ 1099511627776
    · by_cases h3 : t ≤ 1099511627776
      · rw [decide_eq_true h1, decide_eq_true h2, decide_eq_true h3]
        have d1 : decide ((0 : Int) < (n : Int)) = true := by simp; omega
        have d1' : decide (0 < n) = true := by simp; omega
        have d2 : decide ((n : Int) ≤ (1099511627776 : Int)) = true := by simp; omega
        have d3 : decide ((t : Int) ≤ (1099511627776 : Int)) = true := by simp; omega
        clear h1 h2 h3
        go_enter Try.func29, Try.ntmps29
        go_wp2_with fail
        refine (HM.out _ HB0.out).mono ?_; rintro e w1 ⟨rfl, b1⟩
        have HB1 := Lib.hid (then_ HB0.out b1)
        clear b1
        go_wp2_with fail
        go_ret
        exact ⟨by simp, HB1.out⟩
      · rw [decide_eq_true h1, decide_eq_true h2, decide_eq_false h3]
        have d1 : decide ((0 : Int) < (n : Int)) = true := by simp; omega
        have d1' : decide (0 < n) = true := by simp; omega
        have d2 : decide ((n : Int) ≤ (1099511627776 : Int)) = true := by simp; omega
        have d3 : decide ((t : Int) ≤ (1099511627776 : Int)) = false := by simp; omega
        clear h1 h2 h3
        go_enter Try.func29, Try.ntmps29
        go_wp2_with fail
        go_ret
        exact ⟨by simp, HB0.out⟩
    · rw [decide_eq_true h1, decide_eq_false h2]
      have d1 : decide ((0 : Int) < (n : Int)) = true := by simp; omega
      have d1' : decide (0 < n) = true := by simp; omega
      have d2 : decide ((n : Int) ≤ (1099511627776 : Int)) = false := by simp; omega
      clear h1 h2
      go_enter Try.func29, Try.ntmps29
      go_wp2_with fail
      go_ret
      exact ⟨by simp, HB0.out⟩
  · rw [decide_eq_false h1]
    have d1 : decide ((0 : Int) < (n : Int)) = false := by simp; omega
    have d1' : decide (0 < n) = false := by simp; omega
    clear h1
    go_enter Try.func29, Try.ntmps29
    go_wp2_with fail
    go_ret
    exact ⟨by simp, HB0.out⟩
/-- Four cells of a block. -/
theorem four_kept {W W' : World} {A : Nat} {r : Option Nat} {a b c d : Value} (h : W.grownBy W' r) (hn : r ≠ some A) (hz : A < W.heap.size) (k : W.cell? ⟨A, 0, none⟩ = some a ∧ W.cell? ⟨A, 1, none⟩ = some b ∧ W.cell? ⟨A, 2, none⟩ = some c ∧ W.cell? ⟨A, 3, none⟩ = some d) : W'.cell? ⟨A, 0, none⟩ = some a ∧ W'.cell? ⟨A, 1, none⟩ = some b ∧ W'.cell? ⟨A, 2, none⟩ = some c ∧ W'.cell? ⟨A, 3, none⟩ = some d := by
  have e : ∀ i, W'.cell? ⟨A, i, none⟩ = W.cell? ⟨A, i, none⟩ := fun i => World.cell?_of_block (h.block A hz (fun e => hn e.symm))
  exact ⟨(e 0).trans k.1, (e 1).trans k.2.1, (e 2).trans k.2.2.1, (e 3).trans k.2.2.2⟩
theorem row_not1 {W : World} {A : Nat} {r : Option Nat} {v : Value} (h : RowAt W r v) (hr : r ≠ some A) (hA : A < W.heap.size) : v.ownBlock ≠ some A := by
  rcases h with h | h
  · rw [h]; exact hr
  · exact fun e => by have := h A e; omega
set_option maxHeartbeats 4000000 in
set_option maxRecDepth 20000 in
/-- The document's item, of what may be. -/
theorem qitem_any (base : Nat) (v : Value) (L : List UInt8) (n t : Nat) (key : ByteArray) (u : Value) (l : List Attr) (hx : WfI (n, t, key, l)) (h0 : ∀ a ∈ l, a.k ≠ 0) (w : World) (hO : OwnB w base v L) (hb : base ≤ w.heap.size) (hS : SlB base w u l) (hl : L.length ≤ 50000) : Calls Try.prog 60 #[v, iv n t key u] w (PutB (formI (n, t, key, l)) base v L w) := by
  obtain ⟨pu, cu, rfl⟩ := hS.form
  have HB0 := Lib.hid (below_one w (.cells #[.int .u64 n, .int .u64 t, .string key, .slice pu l.length cu] 51))
  have HK0 := Lib.hid (Blk.new w 51 #[.int .u64 n, .int .u64 t, .string key, .slice pu l.length cu])
  have HO0 := Lib.hid (hO.below HB0.out)
  have HLt := Lib.hid (fun g (hg : v.ownBlock = some g) => (show g ≠ w.heap.size by have := own_lt hO hg; omega))
  have HBs := Lib.hid (fun g (hg : v.ownBlock = some g) => (World.ownsRow.lt hO g hg).1)
  have hz0 := HB0.out.size
  have hn := hx.1
  have ht := hx.2.1
  simp only at hn ht
  obtain ⟨pv, cv, rfl⟩ := hO.form
  have c0 := HK0.out.cell 0 (u := .int .u64 n) rfl
  have c1 := HK0.out.cell 1 (u := .int .u64 t) rfl
  have c2 := HK0.out.cell 2 (u := .string key) rfl
  have c3 := HK0.out.cell 3 (u := .slice pu l.length cu) rfl
  have ln := (formN_length (show n < 18446744073709551616 by omega)).2
  have lt := (formN_length (show t < 18446744073709551616 by omega)).2
  clear hO
  go_enter Try.func60, Try.ntmps60
  obtain ⟨W0, hW0⟩ : ∃ W0, w.alloc (.cells #[.int .u64 n, .int .u64 t, .string key, .slice pu l.length cu] 51) = W0 := ⟨_, rfl⟩
  rw [hW0] at HB0 HK0 HO0 c0 c1 c2 c3 hz0
  obtain ⟨A, hA⟩ : ∃ A, w.heap.size = A := ⟨_, rfl⟩
  rw [hA] at c0 c1 c2 c3 HK0 HLt hb
  have H1 := Lib.hid (show W0.drew.cell? ⟨A, 0, none⟩ = some (.int .u64 n) ∧ W0.drew.cell? ⟨A, 1, none⟩ = some (.int .u64 t) ∧ W0.drew.cell? ⟨A, 2, none⟩ = some (.string key) ∧ W0.drew.cell? ⟨A, 3, none⟩ = some (.slice pu l.length cu) from ⟨c0, c1, c2, c3⟩)
  have HAA := Lib.hid hA
  have hAz : A < W0.drew.heap.size := HK0.out.lt
  have hzA : base ≤ W0.drew.heap.size := Nat.le_trans hb (Nat.le_of_lt hAz)
  have HSW := Lib.hid (hS.below (HB0.out.mono (by rw [hA]; exact hb)))
  have HT := Lib.hid (qnum_any base (.slice pv L.length cv) L n (by omega) W0.drew (HO0.out.below (Below.refl _ _).drew) hzA (by omega))
  have HN := Lib.hid (fun W p c N (hN : (L ++ formN n).length = N) (h : OwnB W base (.slice p N c) (L ++ formN n)) (hz : base ≤ W.heap.size) => qnum_any base (.slice p N c) (L ++ formN n) t (by omega) W h hz (by rw [List.length_append]; omega))
  have HV := Lib.hid (fun W p c N (hN : (L ++ formN n ++ formN t).length = N) (h : OwnB W base (.slice p N c) (L ++ formN n ++ formN t)) (hz : base ≤ W.heap.size) (hs : SlB base W (.slice pu l.length cu) l) => qevent_any base (.slice p N c) (L ++ formN n ++ formN t) key _ l hx.2.2 h0 W h hz hs (by rw [List.length_append, List.length_append]; omega))
  have HBd : Hid (Below base W0 W0.drew) := Lib.hid (Below.refl _ _).drew
  go_wp2_with fail
  clear hW0 hA
  go_region_held3 (fun w' => w'.cell? ⟨A, 0, none⟩ = some (.int .u64 n) ∧ w'.cell? ⟨A, 1, none⟩ = some (.int .u64 t) ∧ w'.cell? ⟨A, 2, none⟩ = some (.string key) ∧ w'.cell? ⟨A, 3, none⟩ = some (.slice pu l.length cu)) (first | (with_reducible exact H1.out) | (with_reducible exact HX1) | (with_reducible exact HX2) | (with_reducible exact HX3)) (first | (go_at_call 49; first | ((with_reducible refine HT.out.mono ?_); rintro e w1 ⟨v1, rfl, ho1, hg1, hr1⟩; obtain ⟨p1, q1, rfl⟩ := ho1.form; have hs1 := hg1.size; have HX1 := four_kept hg1 (fun e => HLt.out _ e rfl) hAz H1.out; obtain ⟨N1, hN1⟩ : ∃ N1, (L ++ formN n).length = N1 := ⟨_, rfl⟩; rw [hN1] at ho1 hr1 ⊢; have hA1 : A < w1.heap.size := Nat.lt_of_lt_of_le hAz hs1; have hO1 := row_not1 hr1 (fun e => HLt.out _ e rfl) hAz; have HOn1 := Lib.hid hO1; have HO1 := Lib.hid ho1; have HG1 := Lib.hid hg1; have HR1 := Lib.hid hr1; have HN1 := Lib.hid hN1; clear ho1 hg1 hr1 hN1 hO1) | ((with_reducible refine (HN.out _ p1 q1 N1 HN1.out HO1.out (Nat.le_trans hzA hs1)).mono ?_); rintro e w2 ⟨v2, rfl, ho2, hg2, hr2⟩; obtain ⟨p2, q2, rfl⟩ := ho2.form; have hs2 := hg2.size; have HX2 := four_kept hg2 HOn1.out hA1 HX1; obtain ⟨N2, hN2⟩ : ∃ N2, (L ++ formN n ++ formN t).length = N2 := ⟨_, rfl⟩; rw [hN2] at ho2 hr2 ⊢; have hA2 : A < w2.heap.size := Nat.lt_of_lt_of_le hA1 hs2; have hO2 := row_not1 hr2 HOn1.out hA1; have HOn2 := Lib.hid hO2; have HO2 := Lib.hid ho2; have HG2 := Lib.hid (grown_then HG1.out hg2 HR1.out); have HR2 := Lib.hid (row_then hs1 HR1.out hr2); have HN2 := Lib.hid hN2; clear ho2 hg2 hr2 hN2 hO2)) | (go_at_call 40; (with_reducible refine (HV.out _ p2 q2 N2 HN2.out HO2.out (Nat.le_trans hzA (Nat.le_trans hs1 hs2)) (HSW.out.below (HBd.out.trans (grown_old HG2.out hzA HBs.out)))).mono ?_); rintro e w3 ⟨v3, rfl, ho3, hg3, hr3⟩; obtain ⟨p3, q3, rfl⟩ := ho3.form; have HX3 := four_kept hg3 HOn2.out hA2 HX2; obtain ⟨N3, hN3⟩ : ∃ N3, (L ++ formN n ++ formN t ++ formE (key, l)).length = N3 := ⟨_, rfl⟩; rw [hN3] at ho3 hr3 ⊢; have HO3 := Lib.hid ho3; have HG3 := Lib.hid (grown_then HG2.out hg3 HR2.out); have HR3 := Lib.hid (row_then (Nat.le_trans hs1 hs2) HR2.out hr3); clear ho3 hg3 hr3 hN3))
  go_wp2_with fail
  go_ret
  refine PutB.behind HB0.out ⟨_, rfl, ?_, grown_drew HG3.out, HR3.out⟩
  rw [show formI (n, t, key, l) = formN n ++ (formN t ++ formE (key, l)) from rfl]
  have h := HO3.out
  rw [List.append_assoc, List.append_assoc] at h
  exact h
set_option maxHeartbeats 4000000 in
set_option maxRecDepth 20000 in
theorem qputitem_any (n t : Nat) (key : ByteArray) (u : Value) (l : List Attr) (w : World) (hS : Sl w u l) (hR : Room l) : Calls Try.prog 24 #[iv n t key u] w (PutR (putI (n, t, key, l)) w) := by
  have HM := Lib.hid (fun W (h : Below w.heap.size w W) => qmayitem_any n t key u l W (hS.below h) hR)
  have HS := Lib.hid hS
  obtain ⟨p, cap, b, o, hv, _⟩ := hS
  subst hv
  have HB0 := Lib.hid (below_one w (.cells #[.int .u64 n, .int .u64 t, .string key, .slice p l.length cap] 51))
  have HK0 := Lib.hid (Blk.new w 51 #[.int .u64 n, .int .u64 t, .string key, .slice p l.length cap])
  have HP : Hid (putI (n, t, key, l) = if mayI (n, t, key, l) = true then some (formI (n, t, key, l)) else none) := Lib.hid rfl
  cases hm : mayI (n, t, key, l)
  · rw [hm] at HM HP
    have HP2 : Hid (putI (n, t, key, l) = none) := Lib.hid HP.out
    clear hm HP hR
    go_enter Try.func24, Try.ntmps24
    go_wp2_with fail
    refine (HM.out _ HB0.out).mono ?_; rintro e w1 ⟨rfl, b1⟩
    have HB1 := Lib.hid (then_ HB0.out b1)
    clear b1
    go_wp2_with fail
    go_ret2
    exact ⟨_, by rw [HP2.out]; rfl, by rw [HP2.out]; exact OwnB.nil _ _, HB1.out⟩
  · rw [hm] at HM HP
    have HP2 : Hid (putI (n, t, key, l) = some (formI (n, t, key, l))) := Lib.hid HP.out
    have HW := Lib.hid (may_wfi hm (fun a ha => (hR a ha).1))
    clear hm HP hR
    go_enter Try.func24, Try.ntmps24
    go_wp2_with fail
    refine (HM.out _ HB0.out).mono ?_; rintro e w1 ⟨rfl, b1⟩
    have HB1 := Lib.hid (then_ HB0.out b1)
    have HK1 := Lib.hid (HK0.out.later b1)
    have e0 := HK1.out.cell 0 (u := .int .u64 n) rfl
    have e1 := HK1.out.cell 1 (u := .int .u64 t) rfl
    have e2 := HK1.out.cell 2 (u := .string key) rfl
    have e3 := HK1.out.cell 3 (u := .slice p l.length cap) rfl
    clear b1
    go_wp2_with fail
    refine (qitem_any w.heap.size (.slice none 0 0) [] n t key _ l HW.out.1 HW.out.2 w1 (OwnB.nil _ _) HB1.out.size ((SlB.of HS.out).below HB1.out) (by simp)).mono ?_; rintro e w2 ⟨v2, rfl, ho2, hg2, hr2⟩
    have HB2 := Lib.hid (HB1.out.trans (grown_old (base := w.heap.size) hg2 HB1.out.size (fun g hg => by simp [Value.ownBlock] at hg)))
    obtain ⟨p2, c2, rfl⟩ := ho2.form
    obtain ⟨N, hN⟩ : ∃ N, ([] ++ formI (n, t, key, l)).length = N := ⟨_, rfl⟩
    rw [hN] at ho2 ⊢
    have HO2 : Hid (OwnB w2 w.heap.size (.slice p2 N c2) (formI (n, t, key, l))) := Lib.hid ho2
    clear ho2 hg2 hr2 e0 e1 e2 e3 hN
    go_wp2_with fail
    go_ret2
    exact ⟨_, by rw [HP2.out]; rfl, by rw [HP2.out]; exact HO2.out, HB2.out⟩
end Go.Proofs.Ytkfheodcmhodpaa.Gm
