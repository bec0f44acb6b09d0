/- The document's item: MayItem, PutItem. -/
import Derived.Test.YtkfheodcmhodpaaGreatVc
import Derived.Test.YtkfheodcmhodpaaGreatEr
/- The document's PutEvent and Size. -/
set_option linter.unusedSimpArgs false
set_option linter.unusedVariables false
namespace Go.Proofs.YtkfheodcmhodpaaGreat.Gm
open Go Go.RowKit
attribute [local go_sem ↓] Go.wp_at_zero Go.wp_at_succ

/-- What a Put leaves: the form, and whether there is one. -/
def PutR (S : Option (List UInt8)) (w : World) (e : Ending) (w' : World) : Prop :=
  ∃ v, e = .returned (.tuple #[v, .int .i64 (if S.isSome then 0 else 30)]) ∧ OwnB w' w.heap.size v (S.getD []) ∧ Below w.heap.size w w'
/-- The form of an event, if it may be. -/
def putE (e : Ev) : Option (List UInt8) := if mayE e.1 e.2 = true then some (formE e) else none
/-- What may be is what is read, where its numbers fit. -/
theorem mayB_wf {k n : Int} {s : ByteArray} {b : Bool} (h : mayB k n s b = true) (hn : FitsI n) : WfV ⟨k, n, s, b⟩ ∧ k ≠ 0 := by
  unfold mayB at h
  by_cases h1 : k = 1
  · rw [if_pos h1] at h
    simp only [Bool.and_eq_true, List.isEmpty_iff, Bool.not_eq_true'] at h
    refine ⟨.inr (.inl ⟨h1, hn, ?_, h.2⟩), by omega⟩
    have : s.data.toList = [] := by rw [← toList_data]; exact h.1
    exact bytes_eq this
  rw [if_neg h1] at h
  by_cases h2 : k = 2
  · rw [if_pos h2] at h
    simp only [Bool.and_eq_true, decide_eq_true_eq, beq_iff_eq, Bool.not_eq_true'] at h
    exact ⟨.inr (.inr (.inl ⟨h2, h.2.1, h.1, h.2.2⟩)), by omega⟩
  rw [if_neg h2] at h
  by_cases h3 : k = 3
  · rw [if_pos h3] at h
    simp only [Bool.and_eq_true, beq_iff_eq, List.isEmpty_iff] at h
    have : s.data.toList = [] := by rw [← toList_data]; exact h.2
    exact ⟨.inr (.inr (.inr ⟨h3, h.1, bytes_eq this⟩)), by omega⟩
  · rw [if_neg h3] at h; cases h
theorem may_parts_e {key : ByteArray} {l : List Attr} (h : mayE key l = true) : key.size ≤ 16 ∧ l.length ≤ 8 ∧ ∀ a ∈ l, okA a = true := by
  simp only [mayE, Bool.and_eq_true, decide_eq_true_eq, List.all_eq_true, List.mem_range] at h
  refine ⟨h.1.1, h.1.2, fun a ha => ?_⟩
  obtain ⟨i, hi, rfl⟩ := List.getElem_of_mem ha
  have := h.2 i hi
  simp only [okAt, Bool.and_eq_true] at this
  have e : l.getD i default = l[i] := by rw [List.getD_eq_getElem?_getD, List.getElem?_eq_getElem hi]; rfl
  rw [e] at this
  exact this.1
theorem may_wfe {key : ByteArray} {l : List Attr} (h : mayE key l = true) (hr : ∀ a ∈ l, FitsI a.n) : WfE (key, l) ∧ ∀ a ∈ l, a.k ≠ 0 := by
  obtain ⟨h1, h2, h3⟩ := may_parts_e h
  have hh : ∀ a ∈ l, WfA a ∧ a.k ≠ 0 := fun a ha => by
    have := h3 a ha
    simp only [okA, Bool.and_eq_true, nameB, decide_eq_true_eq] at this
    obtain ⟨a1, a2⟩ := mayB_wf this.2 (hr a ha)
    exact ⟨⟨this.1.2.2, a1⟩, a2⟩
  exact ⟨⟨h1, h2, fun a ha => (hh a ha).1⟩, fun a ha => (hh a ha).2⟩
end Go.Proofs.YtkfheodcmhodpaaGreat.Gm
set_option linter.unusedSimpArgs false
set_option linter.unusedVariables false
namespace Go.Proofs.YtkfheodcmhodpaaGreat.Gm
open Go Go.RowKit
attribute [local go_sem ↓] Go.wp_at_zero Go.wp_at_succ

/-- Which items may be. -/
def mayI (x : It) : Bool := decide (0 < x.1) && decide (x.1 ≤ 1099511627776) && decide (x.2.1 ≤ 1099511627776) && mayE x.2.2.1 x.2.2.2
def putI (x : It) : Option (List UInt8) := if mayI x = true then some (formI x) else none
abbrev iv (n t : Nat) (key : ByteArray) (u : Value) : Value := .agg #[.int .u64 n, .int .u64 t, .string key, u]
theorem may_wfi {x : It} (h : mayI x = true) (hr : ∀ a ∈ x.2.2.2, FitsI a.n) : WfI x ∧ ∀ a ∈ x.2.2.2, a.k ≠ 0 := by
  simp only [mayI, Bool.and_eq_true, decide_eq_true_eq] at h
  obtain ⟨a, b⟩ := may_wfe h.2 hr
  exact ⟨⟨h.1.1.2, h.1.2, a⟩, b⟩
set_option maxHeartbeats 4000000 in
set_option maxRecDepth 20000 in
theorem qmayitem_any (n t : Nat) (key : ByteArray) (u : Value) (l : List Attr) (w : World) (hS : Sl w u l) (hR : Room l) : Calls Tryz.prog 25 #[iv n t key u] w (Gives (.bool (mayI (n, t, key, l))) w) := by
  have HM := Lib.hid (fun W (h : Below w.heap.size w W) => rmay_any key u l W (hS.below h) hR)
  obtain ⟨p, cap, b, o, hv, _⟩ := hS
  subst hv
  have HB0 := Lib.hid (below_one w (.cells #[.int .u64 n, .int .u64 t, .string key, .slice p l.length cap] 51))
  have HE : Hid (mayI (n, t, key, l) = (decide (0 < n) && decide (n ≤ 1099511627776) && decide (t ≤ 1099511627776) && mayE key l)) := Lib.hid rfl
  rw [HE.out]
  clear HE hR
  generalize mayE key l = me at HM ⊢
  by_cases h1 : 0 < n
  · by_cases h2 : n ≤ 1099511627776
    · by_cases h3 : t ≤ 1099511627776
      · rw [decide_eq_true h1, decide_eq_true h2, decide_eq_true h3]
        have d1 : decide ((0 : Int) < (n : Int)) = true := by simp; omega
        have d1' : decide (0 < n) = true := by simp; omega
        have d2 : decide ((n : Int) ≤ (1099511627776 : Int)) = true := by simp; omega
        have d3 : decide ((t : Int) ≤ (1099511627776 : Int)) = true := by simp; omega
        clear h1 h2 h3
        go_enter Tryz.func25, Tryz.ntmps25
        go_wp2_with fail
        refine (HM.out _ HB0.out).mono ?_; rintro e w1 ⟨rfl, b1⟩
        have HB1 := Lib.hid (then_ HB0.out b1)
        clear b1
        go_wp2_with fail
        go_ret
        exact ⟨by simp, HB1.out⟩
      · rw [decide_eq_true h1, decide_eq_true h2, decide_eq_false h3]
        have d1 : decide ((0 : Int) < (n : Int)) = true := by simp; omega
        have d1' : decide (0 < n) = true := by simp; omega
        have d2 : decide ((n : Int) ≤ (1099511627776 : Int)) = true := by simp; omega
        have d3 : decide ((t : Int) ≤ (1099511627776 : Int)) = false := by simp; omega
        clear h1 h2 h3
        go_enter Tryz.func25, Tryz.ntmps25
        go_wp2_with fail
        go_ret
        exact ⟨by simp, HB0.out⟩
    · rw [decide_eq_true h1, decide_eq_false h2]
      have d1 : decide ((0 : Int) < (n : Int)) = true := by simp; omega
      have d1' : decide (0 < n) = true := by simp; omega
      have d2 : decide ((n : Int) ≤ (1099511627776 : Int)) = false := by simp; omega
      clear h1 h2
      go_enter Tryz.func25, Tryz.ntmps25
      go_wp2_with fail
      go_ret
      exact ⟨by simp, HB0.out⟩
  · rw [decide_eq_false h1]
    have d1 : decide ((0 : Int) < (n : Int)) = false := by simp; omega
    have d1' : decide (0 < n) = false := by simp; omega
    clear h1
    go_enter Tryz.func25, Tryz.ntmps25
    go_wp2_with fail
    go_ret
    exact ⟨by simp, HB0.out⟩
/-- Four cells of a block. -/
theorem four_kept {W W' : World} {A : Nat} {r : Option Nat} {a b c d : Value} (h : W.grownBy W' r) (hn : r ≠ some A) (hz : A < W.heap.size) (k : W.cell? ⟨A, 0, none⟩ = some a ∧ W.cell? ⟨A, 1, none⟩ = some b ∧ W.cell? ⟨A, 2, none⟩ = some c ∧ W.cell? ⟨A, 3, none⟩ = some d) : W'.cell? ⟨A, 0, none⟩ = some a ∧ W'.cell? ⟨A, 1, none⟩ = some b ∧ W'.cell? ⟨A, 2, none⟩ = some c ∧ W'.cell? ⟨A, 3, none⟩ = some d := by
  have e : ∀ i, W'.cell? ⟨A, i, none⟩ = W.cell? ⟨A, i, none⟩ := fun i => World.cell?_of_block (h.block A hz (fun e => hn e.symm))
  exact ⟨(e 0).trans k.1, (e 1).trans k.2.1, (e 2).trans k.2.2.1, (e 3).trans k.2.2.2⟩
theorem row_not1 {W : World} {A : Nat} {r : Option Nat} {v : Value} (h : RowAt W r v) (hr : r ≠ some A) (hA : A < W.heap.size) : v.ownBlock ≠ some A := by
  rcases h with h | h
  · rw [h]; exact hr
  · exact fun e => by have := h A e; omega
set_option maxHeartbeats 4000000 in
set_option maxRecDepth 20000 in
/-- The document's item, of what may be. -/
theorem qitem_any (base : Nat) (v : Value) (L : List UInt8) (n t : Nat) (key : ByteArray) (u : Value) (l : List Attr) (hx : WfI (n, t, key, l)) (h0 : ∀ a ∈ l, a.k ≠ 0) (w : World) (hO : OwnB w base v L) (hb : base ≤ w.heap.size) (hS : SlB base w u l) (hl : L.length ≤ 50000) : Calls Tryz.prog 15 #[v, iv n t key u] w (PutB (formI (n, t, key, l)) base v L w) := by
  obtain ⟨pu, cu, rfl⟩ := hS.form
  have HB0 := Lib.hid (below_one w (.cells #[.int .u64 n, .int .u64 t, .string key, .slice pu l.length cu] 51))
  have HK0 := Lib.hid (Blk.new w 51 #[.int .u64 n, .int .u64 t, .string key, .slice pu l.length cu])
  have HO0 := Lib.hid (hO.below HB0.out)
  have HLt := Lib.hid (fun g (hg : v.ownBlock = some g) => (show g ≠ w.heap.size by have := own_lt hO hg; omega))
  have HBs := Lib.hid (fun g (hg : v.ownBlock = some g) => (World.ownsRow.lt hO g hg).1)
  have hz0 := HB0.out.size
  have hn := hx.1
  have ht := hx.2.1
  simp only at hn ht
  obtain ⟨pv, cv, rfl⟩ := hO.form
  have c0 := HK0.out.cell 0 (u := .int .u64 n) rfl
  have c1 := HK0.out.cell 1 (u := .int .u64 t) rfl
  have c2 := HK0.out.cell 2 (u := .string key) rfl
  have c3 := HK0.out.cell 3 (u := .slice pu l.length cu) rfl
  have ln := (formN_length (show n < 18446744073709551616 by omega)).2
  have lt := (formN_length (show t < 18446744073709551616 by omega)).2
  clear hO
  go_enter Tryz.func15, Tryz.ntmps15
  obtain ⟨W0, hW0⟩ : ∃ W0, w.alloc (.cells #[.int .u64 n, .int .u64 t, .string key, .slice pu l.length cu] 51) = W0 := ⟨_, rfl⟩
  rw [hW0] at HB0 HK0 HO0 c0 c1 c2 c3 hz0
  obtain ⟨A, hA⟩ : ∃ A, w.heap.size = A := ⟨_, rfl⟩
  rw [hA] at c0 c1 c2 c3 HK0 HLt hb
  have H1 := Lib.hid (show W0.drew.cell? ⟨A, 0, none⟩ = some (.int .u64 n) ∧ W0.drew.cell? ⟨A, 1, none⟩ = some (.int .u64 t) ∧ W0.drew.cell? ⟨A, 2, none⟩ = some (.string key) ∧ W0.drew.cell? ⟨A, 3, none⟩ = some (.slice pu l.length cu) from ⟨c0, c1, c2, c3⟩)
  have HAA := Lib.hid hA
  have hAz : A < W0.drew.heap.size := HK0.out.lt
  have hzA : base ≤ W0.drew.heap.size := Nat.le_trans hb (Nat.le_of_lt hAz)
  have HSW := Lib.hid (hS.below (HB0.out.mono (by rw [hA]; exact hb)))
  have HT := Lib.hid (qnum_any base (.slice pv L.length cv) L n (by omega) W0.drew (HO0.out.below (Below.refl _ _).drew) hzA (by omega))
  have HN := Lib.hid (fun W p c N (hN : (L ++ formN n).length = N) (h : OwnB W base (.slice p N c) (L ++ formN n)) (hz : base ≤ W.heap.size) => qnum_any base (.slice p N c) (L ++ formN n) t (by omega) W h hz (by rw [List.length_append]; omega))
  have HV := Lib.hid (fun W p c N (hN : (L ++ formN n ++ formN t).length = N) (h : OwnB W base (.slice p N c) (L ++ formN n ++ formN t)) (hz : base ≤ W.heap.size) (hs : SlB base W (.slice pu l.length cu) l) => qevent_any base (.slice p N c) (L ++ formN n ++ formN t) key _ l hx.2.2 h0 W h hz hs (by rw [List.length_append, List.length_append]; omega))
  have HBd : Hid (Below base W0 W0.drew) := Lib.hid (Below.refl _ _).drew
  go_wp2_with fail
  clear hW0 hA
  go_region_held3 (fun w' => w'.cell? ⟨A, 0, none⟩ = some (.int .u64 n) ∧ w'.cell? ⟨A, 1, none⟩ = some (.int .u64 t) ∧ w'.cell? ⟨A, 2, none⟩ = some (.string key) ∧ w'.cell? ⟨A, 3, none⟩ = some (.slice pu l.length cu)) (first | (with_reducible exact H1.out) | (with_reducible exact HX1) | (with_reducible exact HX2) | (with_reducible exact HX3)) (first | (go_at_call 14; first | ((with_reducible refine HT.out.mono ?_); rintro e w1 ⟨v1, rfl, ho1, hg1, hr1⟩; obtain ⟨p1, q1, rfl⟩ := ho1.form; have hs1 := hg1.size; have HX1 := four_kept hg1 (fun e => HLt.out _ e rfl) hAz H1.out; obtain ⟨N1, hN1⟩ : ∃ N1, (L ++ formN n).length = N1 := ⟨_, rfl⟩; rw [hN1] at ho1 hr1 ⊢; have hA1 : A < w1.heap.size := Nat.lt_of_lt_of_le hAz hs1; have hO1 := row_not1 hr1 (fun e => HLt.out _ e rfl) hAz; have HOn1 := Lib.hid hO1; have HO1 := Lib.hid ho1; have HG1 := Lib.hid hg1; have HR1 := Lib.hid hr1; have HN1 := Lib.hid hN1; clear ho1 hg1 hr1 hN1 hO1) | ((with_reducible refine (HN.out _ p1 q1 N1 HN1.out HO1.out (Nat.le_trans hzA hs1)).mono ?_); rintro e w2 ⟨v2, rfl, ho2, hg2, hr2⟩; obtain ⟨p2, q2, rfl⟩ := ho2.form; have hs2 := hg2.size; have HX2 := four_kept hg2 HOn1.out hA1 HX1; obtain ⟨N2, hN2⟩ : ∃ N2, (L ++ formN n ++ formN t).length = N2 := ⟨_, rfl⟩; rw [hN2] at ho2 hr2 ⊢; have hA2 : A < w2.heap.size := Nat.lt_of_lt_of_le hA1 hs2; have hO2 := row_not1 hr2 HOn1.out hA1; have HOn2 := Lib.hid hO2; have HO2 := Lib.hid ho2; have HG2 := Lib.hid (grown_then HG1.out hg2 HR1.out); have HR2 := Lib.hid (row_then hs1 HR1.out hr2); have HN2 := Lib.hid hN2; clear ho2 hg2 hr2 hN2 hO2)) | (go_at_call 38; (with_reducible refine (HV.out _ p2 q2 N2 HN2.out HO2.out (Nat.le_trans hzA (Nat.le_trans hs1 hs2)) (HSW.out.below (HBd.out.trans (grown_old HG2.out hzA HBs.out)))).mono ?_); rintro e w3 ⟨v3, rfl, ho3, hg3, hr3⟩; obtain ⟨p3, q3, rfl⟩ := ho3.form; have HX3 := four_kept hg3 HOn2.out hA2 HX2; obtain ⟨N3, hN3⟩ : ∃ N3, (L ++ formN n ++ formN t ++ formE (key, l)).length = N3 := ⟨_, rfl⟩; rw [hN3] at ho3 hr3 ⊢; have HO3 := Lib.hid ho3; have HG3 := Lib.hid (grown_then HG2.out hg3 HR2.out); have HR3 := Lib.hid (row_then (Nat.le_trans hs1 hs2) HR2.out hr3); clear ho3 hg3 hr3 hN3))
  go_wp2_with fail
  go_ret
  refine PutB.behind HB0.out ⟨_, rfl, ?_, grown_drew HG3.out, HR3.out⟩
  rw [show formI (n, t, key, l) = formN n ++ (formN t ++ formE (key, l)) from rfl]
  have h := HO3.out
  rw [List.append_assoc, List.append_assoc] at h
  exact h
end Go.Proofs.YtkfheodcmhodpaaGreat.Gm
