/- The document's PutEvent and Size. -/
import Derived.Test.YtkfheodcmhodpaaVc
import Derived.Test.YtkfheodcmhodpaaEr
set_option linter.unusedSimpArgs false
set_option linter.unusedVariables false
namespace Go.Proofs.Ytkfheodcmhodpaa.Gm
open Go Go.RowKit
attribute [local go_sem ↓] Go.wp_at_zero Go.wp_at_succ

/-- What a Put leaves: the form, and whether there is one. -/
def PutR (S : Option (List UInt8)) (w : World) (e : Ending) (w' : World) : Prop :=
  ∃ v, e = .returned (.tuple #[v, .int .i64 (if S.isSome then 0 else 30)]) ∧ OwnB w' w.heap.size v (S.getD []) ∧ Below w.heap.size w w'
/-- The form of an event, if it may be. -/
def putE (e : Ev) : Option (List UInt8) := if mayE e.1 e.2 = true then some (formE e) else none
/-- What may be is what is read, where its numbers fit. -/
theorem mayB_wf {k n : Int} {s : ByteArray} {b : Bool} (h : mayB k n s b = true) (hn : FitsI n) : WfV ⟨k, n, s, b⟩ ∧ k ≠ 0 := by
  unfold mayB at h
  by_cases h1 : k = 1
  · rw [if_pos h1] at h
    simp only [Bool.and_eq_true, List.isEmpty_iff, Bool.not_eq_true'] at h
    refine ⟨.inr (.inl ⟨h1, hn, ?_, h.2⟩), by omega⟩
    have : s.data.toList = [] := by rw [← toList_data]; exact h.1
    exact bytes_eq this
  rw [if_neg h1] at h
  by_cases h2 : k = 2
  · rw [if_pos h2] at h
    simp only [Bool.and_eq_true, decide_eq_true_eq, beq_iff_eq, Bool.not_eq_true'] at h
    exact ⟨.inr (.inr (.inl ⟨h2, h.2.1, h.1, h.2.2⟩)), by omega⟩
  rw [if_neg h2] at h
  by_cases h3 : k = 3
  · rw [if_pos h3] at h
    simp only [Bool.and_eq_true, beq_iff_eq, List.isEmpty_iff] at h
    have : s.data.toList = [] := by rw [← toList_data]; exact h.2
    exact ⟨.inr (.inr (.inr ⟨h3, h.1, bytes_eq this⟩)), by omega⟩
  · rw [if_neg h3] at h; cases h
theorem may_parts_e {key : ByteArray} {l : List Attr} (h : mayE key l = true) : key.size ≤ 16 ∧ l.length ≤ 8 ∧ ∀ a ∈ l, okA a = true := by
  simp only [mayE, Bool.and_eq_true, decide_eq_true_eq, List.all_eq_true, List.mem_range] at h
  refine ⟨h.1.1, h.1.2, fun a ha => ?_⟩
  obtain ⟨i, hi, rfl⟩ := List.getElem_of_mem ha
  have := h.2 i hi
  simp only [okAt, Bool.and_eq_true] at this
  have e : l.getD i default = l[i] := by rw [List.getD_eq_getElem?_getD, List.getElem?_eq_getElem hi]; rfl
  rw [e] at this
  exact this.1
theorem may_wfe {key : ByteArray} {l : List Attr} (h : mayE key l = true) (hr : ∀ a ∈ l, FitsI a.n) : WfE (key, l) ∧ ∀ a ∈ l, a.k ≠ 0 := by
  obtain ⟨h1, h2, h3⟩ := may_parts_e h
  have hh : ∀ a ∈ l, WfA a ∧ a.k ≠ 0 := fun a ha => by
    have := h3 a ha
    simp only [okA, Bool.and_eq_true, nameB, decide_eq_true_eq] at this
    obtain ⟨a1, a2⟩ := mayB_wf this.2 (hr a ha)
    exact ⟨⟨this.1.2.2, a1⟩, a2⟩
  exact ⟨⟨h1, h2, fun a ha => (hh a ha).1⟩, fun a ha => (hh a ha).2⟩
set_option maxHeartbeats 4000000 in
set_option maxRecDepth 20000 in
theorem qputevent_any (key : ByteArray) (u : Value) (l : List Attr) (w : World) (hS : Sl w u l) (hR : Room l) : Calls Try.prog 12 #[.agg #[.string key, u]] w (PutR (putE (key, l)) w) := by
  have HM := Lib.hid (fun W (h : Below w.heap.size w W) => rmay_any key u l W (hS.below h) hR)
  have HS := Lib.hid hS
  obtain ⟨p, cap, b, o, hv, _⟩ := hS
  subst hv
  have HB0 := Lib.hid (below_one w (.cells #[.string key, .slice p l.length cap] 24))
  have HK0 := Lib.hid (Blk.new w 24 #[.string key, .slice p l.length cap])
  have HP : Hid (putE (key, l) = if mayE key l = true then some (formE (key, l)) else none) := Lib.hid rfl
  cases hm : mayE key l
  · rw [hm] at HM HP
    have HP2 : Hid (putE (key, l) = none) := Lib.hid HP.out
    clear hm HP hR
    go_enter Try.func12, Try.ntmps12
    go_wp2_with fail
    refine (HM.out _ HB0.out).mono ?_; rintro e w1 ⟨rfl, b1⟩
    have HB1 := Lib.hid (then_ HB0.out b1)
    clear b1
    go_wp2_with fail
    go_ret2
    exact ⟨_, by rw [HP2.out]; rfl, by rw [HP2.out]; exact OwnB.nil _ _, HB1.out⟩
  · rw [hm] at HM HP
    have HP2 : Hid (putE (key, l) = some (formE (key, l))) := Lib.hid HP.out
    have HW := Lib.hid (may_wfe hm (fun a ha => (hR a ha).1))
    clear hm HP hR
    go_enter Try.func12, Try.ntmps12
    go_wp2_with fail
    refine (HM.out _ HB0.out).mono ?_; rintro e w1 ⟨rfl, b1⟩
    have HB1 := Lib.hid (then_ HB0.out b1)
    have HK1 := Lib.hid (HK0.out.later b1)
    have c0 := HK1.out.cell 0 (u := .string key) rfl
    have c1 := HK1.out.cell 1 (u := .slice p l.length cap) rfl
    clear b1
    go_wp2_with fail
    refine (qevent_any w.heap.size (.slice none 0 0) [] key _ l HW.out.1 HW.out.2 w1 (OwnB.nil _ _) HB1.out.size ((SlB.of HS.out).below HB1.out) (by simp)).mono ?_; rintro e w2 ⟨v2, rfl, ho2, hg2, hr2⟩
    have HB2 := Lib.hid (HB1.out.trans (grown_old (base := w.heap.size) hg2 HB1.out.size (fun g hg => by simp [Value.ownBlock] at hg)))
    obtain ⟨p2, c2, rfl⟩ := ho2.form
    obtain ⟨N, hN⟩ : ∃ N, ([] ++ formE (key, l)).length = N := ⟨_, rfl⟩
    rw [hN] at ho2 ⊢
    have HO2 : Hid (OwnB w2 w.heap.size (.slice p2 N c2) (formE (key, l))) := Lib.hid ho2
    clear ho2 hg2 hr2 c0 c1 hN
    go_wp2_with fail
    go_ret2
    exact ⟨_, by rw [HP2.out]; rfl, by rw [HP2.out]; exact HO2.out, HB2.out⟩
end Go.Proofs.Ytkfheodcmhodpaa.Gm
