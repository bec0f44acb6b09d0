/- Layer 10: the 512 files of the closed statement, plainly. -/
import Derived.Test.YtnohgfjmfgeccaaDkze
set_option linter.unusedSimpArgs false
set_option linter.unusedVariables false
namespace Go.Proofs.Ytnohgfjmfgeccaa.Gm
open Go Go.RowKit Go.Maps
def nameK (k : Nat) : Nm := [102, UInt8.ofNat (97 + k % 26), UInt8.ofNat (97 + k / 26)]
theorem nameK_may : ∀ k, k < 512 → mayNm (nameK k) = true := by decide +kernel
theorem nameK_inj {i j : Nat} (hi : i < 512) (hj : j < 512) (h : nameK i = nameK j) : i = j := by
  unfold nameK at h
  simp only [List.cons.injEq, and_true, true_and] at h
  obtain ⟨h1, h2⟩ := h
  have e1 := congrArg UInt8.toNat h1
  have e2 := congrArg UInt8.toNat h2
  rw [UInt8.toNat_ofNat', UInt8.toNat_ofNat'] at e1 e2
  omega
theorem pickV_is (V : View) (n : Nm) : (pickV V n).isSome = true ↔ ∃ e ∈ V, e.1 = n := by
  unfold pickV
  rw [Option.isSome_map, List.find?_isSome]
  simp
theorem pickV_no {V : View} {n : Nm} (h : ∀ e ∈ V, e.1 ≠ n) : (pickV V n).isSome = false := by
  rw [Bool.eq_false_iff]
  intro hh
  obtain ⟨e, he, hn⟩ := (pickV_is V n).1 hh
  exact h e he hn
theorem mem_putV {V : View} {e x : Nm × List UInt8 × Nat} : x ∈ putV V e ↔ x = e ∨ (x ∈ V ∧ x.1 ≠ e.1) := by
  unfold putV
  rw [List.mem_append, List.mem_cons, List.mem_filter, List.mem_filter]
  simp only [decide_eq_true_eq]
  constructor
  · rintro (⟨h1, h2⟩ | rfl | ⟨h1, h2⟩)
    · exact .inr ⟨h1, fun he => by rw [he] at h2; exact absurd h2 (List.lt_irrefl _)⟩
    · exact .inl rfl
    · exact .inr ⟨h1, fun he => by rw [he] at h2; exact absurd h2 (List.lt_irrefl _)⟩
  · rintro (rfl | ⟨h1, h2⟩)
    · exact .inr (.inl rfl)
    · rcases lt_or h2 with h3 | h3
      · exact .inl ⟨h1, h3⟩
      · exact .inr (.inr ⟨h1, h3⟩)
theorem mem_delV {V : View} {n : Nm} {x : Nm × List UInt8 × Nat} : x ∈ delV V n ↔ x ∈ V ∧ x.1 ≠ n := by
  unfold delV; rw [List.mem_filter]; simp
theorem parts_len (V : View) (n : Nm) : (V.filter fun a => decide (a.1 < n)).length + (V.filter fun a => decide (n < a.1)).length + (V.filter fun a => decide (a.1 = n)).length = V.length := by
  induction V with
  | nil => rfl
  | cons a V ih =>
    simp only [List.filter_cons, List.length_cons]
    by_cases h : a.1 = n
    · have h1 : ¬ a.1 < n := by rw [h]; exact List.lt_irrefl _
      have h2 : ¬ n < n := List.lt_irrefl _
      simp only [h2, h, decide_false, decide_true, Bool.false_eq_true, if_false, if_true, List.length_cons]
      omega
    · rcases lt_or h with h3 | h3
      · have h4 : ¬ n < a.1 := List.not_lt.2 (List.le_of_lt h3)
        simp only [h3, h4, h, decide_false, decide_true, Bool.false_eq_true, if_false, if_true, List.length_cons]
        omega
      · have h4 : ¬ a.1 < n := List.not_lt.2 (List.le_of_lt h3)
        simp only [h3, h4, h, decide_false, decide_true, Bool.false_eq_true, if_false, if_true, List.length_cons]
        omega
theorem putV_len (V : View) (e : Nm × List UInt8 × Nat) : (putV V e).length + (V.filter fun a => decide (a.1 = e.1)).length = V.length + 1 := by
  have := parts_len V e.1
  unfold putV
  rw [List.length_append, List.length_cons]
  omega
theorem delV_len (V : View) (n : Nm) : (delV V n).length + (V.filter fun a => decide (a.1 = n)).length = V.length := by
  unfold delV
  induction V with
  | nil => rfl
  | cons a V ih =>
    simp only [List.filter_cons, List.length_cons]
    by_cases h : a.1 = n
    · simp only [h, decide_true, Bool.not_true, Bool.false_eq_true, if_false, if_true, List.length_cons]; omega
    · simp only [h, decide_false, Bool.not_false, Bool.false_eq_true, if_false, if_true, List.length_cons]; omega
theorem same_none {V : View} {n : Nm} (h : ∀ e ∈ V, e.1 ≠ n) : (V.filter fun a => decide (a.1 = n)).length = 0 := by
  rw [List.length_eq_zero_iff, List.filter_eq_nil_iff]
  intro a ha
  simpa using h a ha
theorem same_some {V : View} {n : Nm} (h : ∃ e ∈ V, e.1 = n) : 1 ≤ (V.filter fun a => decide (a.1 = n)).length := by
  obtain ⟨e, he, hn⟩ := h
  exact List.length_pos_of_mem (List.mem_filter.2 ⟨he, by simpa using hn⟩)
/-- The disk behind k of the files. -/
structure Knw (k : Nat) (V : View) : Prop where
  len : V.length = k
  mem : ∀ e ∈ V, ∃ j, j < k ∧ e = (nameK j, [], 0)
  has : ∀ j, j < k → (nameK j, [], 0) ∈ V
theorem Knw.zero : Knw 0 [] := ⟨rfl, fun e he => by simp at he, fun j hj => by omega⟩
theorem Knw.fresh {k : Nat} {V : View} (h : Knw k V) (hk : k < 512) : ∀ e ∈ V, e.1 ≠ nameK k := fun e he hn => by
  obtain ⟨j, hj, rfl⟩ := h.mem e he
  have := nameK_inj (by omega) hk hn
  omega
theorem Knw.code {k : Nat} {V : View} (h : Knw k V) (hk : k < 512) : createC V (nameK k) = 0 := by
  unfold createC
  rw [nameK_may k hk, pickV_no (h.fresh hk), h.len, if_neg (by simp), if_neg (by simp), if_neg (by omega)]
theorem Knw.next {k : Nat} {V : View} (h : Knw k V) (hk : k < 512) : Knw (k + 1) (putV V (nameK k, [], 0)) := by
  refine ⟨?_, fun e he => ?_, fun j hj => ?_⟩
  · have h1 := putV_len V (nameK k, [], 0)
    rw [same_none (h.fresh hk), h.len] at h1
    omega
  · rcases mem_putV.1 he with rfl | ⟨he, _⟩
    · exact ⟨k, by omega, rfl⟩
    · obtain ⟨j, hj, e1⟩ := h.mem e he
      exact ⟨j, by omega, e1⟩
  · rw [mem_putV]
    by_cases hjk : j = k
    · subst hjk; exact .inl rfl
    · exact .inr ⟨h.has j (by omega), h.fresh hk _ (h.has j (by omega))⟩
/-- No file has bytes. -/
def Void (V : View) : Prop := ∀ e ∈ V, e.2 = ([], 0)
theorem Void.file {V : View} (h : Void V) (n : Nm) : fileOf V n = ([], 0) := by
  unfold fileOf pickV
  cases hf : V.find? fun e => decide (e.1 = n) with
  | none => rfl
  | some e => exact h e (List.mem_of_find?_eq_some hf)
theorem Void.tot {V : View} (h : Void V) : totV V = 0 := by
  induction V with
  | nil => rfl
  | cons a V ih =>
    have h1 := h a List.mem_cons_self
    have h2 := ih (fun e he => h e (List.mem_cons_of_mem _ he))
    unfold totV at h2 ⊢
    rw [List.map_cons, List.sum_cons, h1, h2]
    rfl
theorem Knw.void {k : Nat} {V : View} (h : Knw k V) : Void V := fun e he => by
  obtain ⟨j, _, rfl⟩ := h.mem e he
  rfl
def more : Nm := [109, 111, 114, 101]
def faa : Nm := [102, 97, 97]
def fba : Nm := [102, 98, 97]
/-- Behind the renaming, and behind the last file. -/
structure Kmo (V : View) : Prop where
  void : Void V
  noFaa : ∀ e ∈ V, e.1 ≠ faa
  hasM : ∃ e ∈ V, e.1 = more
theorem Knw.no_more {V : View} (h : Knw 512 V) : ∀ e ∈ V, e.1 ≠ more := fun e he hn => by
  obtain ⟨j, _, rfl⟩ := h.mem e he
  have := congrArg List.length hn
  simp [nameK, more] at this
def v1 (V : View) : View := putV (delV V faa) (fba, fileOf V faa)
def v2 (V : View) : View := putV (v1 V) (more, [], 0)
theorem Knw.full {V : View} (h : Knw 512 V) (fu : Int) (hf : fu = -1) : offV V fu false (runV V fu (createC V more) (putV V (more, [], 0))) = ⟨7, V, -1, false⟩ := by
  subst hf
  have : createC V more = 7 := by
    unfold createC
    rw [show mayNm more = true from by decide, pickV_no h.no_more, h.len]
    simp
  rw [this]; rfl
theorem Knw.renames {V : View} (h : Knw 512 V) : offV V (-1) false (runV V (-1) (renameC V faa fba) (putV (delV V faa) (fba, fileOf V faa))) = ⟨0, v1 V, -1, false⟩ := by
  have : renameC V faa fba = 0 := by
    unfold renameC
    rw [show mayNm faa = true from by decide, show mayNm fba = true from by decide, (pickV_is V faa).2 ⟨_, h.has 0 (by omega), by decide⟩]
    simp
  rw [this]; rfl
theorem Knw.v1_facts {V : View} (h : Knw 512 V) : Void (v1 V) ∧ (∀ e ∈ v1 V, e.1 ≠ faa) ∧ (∀ e ∈ v1 V, e.1 ≠ more) ∧ (v1 V).length < 512 := by
  have hmem : ∀ e ∈ v1 V, e = (fba, [], 0) ∨ (e ∈ V ∧ e.1 ≠ faa) := fun e he => by
    rcases mem_putV.1 he with rfl | ⟨he, _⟩
    · left; rw [h.void.file]
    · exact .inr (mem_delV.1 he)
  refine ⟨fun e he => ?_, fun e he => ?_, fun e he => ?_, ?_⟩
  · rcases hmem e he with rfl | ⟨he, _⟩
    · rfl
    · exact h.void e he
  · rcases hmem e he with rfl | ⟨_, h1⟩
    · decide
    · exact h1
  · rcases hmem e he with rfl | ⟨he, _⟩
    · decide
    · exact h.no_more e he
  · have h1 := putV_len (delV V faa) (fba, fileOf V faa)
    have h2 := delV_len V faa
    have h3 := same_some (V := V) (n := faa) ⟨_, h.has 0 (by omega), by decide⟩
    have h4 := same_some (V := delV V faa) (n := fba) ⟨_, mem_delV.2 ⟨h.has 1 (by omega), by decide⟩, by decide⟩
    have h5 := h.len
    unfold v1
    simp only at h1
    omega
theorem Knw.makes {V : View} (h : Knw 512 V) : offV (v1 V) (-1) false (runV (v1 V) (-1) (createC (v1 V) more) (putV (v1 V) (more, [], 0))) = ⟨0, v2 V, -1, false⟩ := by
  obtain ⟨_, _, h3, h4⟩ := h.v1_facts
  have : createC (v1 V) more = 0 := by
    unfold createC
    rw [show mayNm more = true from by decide, pickV_no h3, if_neg (by simp), if_neg (by simp), if_neg (by omega)]
  rw [this]; rfl
theorem Knw.kmo {V : View} (h : Knw 512 V) : Kmo (v2 V) := by
  obtain ⟨h1, h2, h3, h4⟩ := h.v1_facts
  refine ⟨fun e he => ?_, fun e he => ?_, ⟨_, mem_putV.2 (.inl rfl), rfl⟩⟩
  · rcases mem_putV.1 he with rfl | ⟨he, _⟩
    · rfl
    · exact h1 e he
  · rcases mem_putV.1 he with rfl | ⟨he, _⟩
    · decide
    · exact h2 e he
theorem cut2_any (V X : View) : offV V (-1) false (runV V (-1) (truncC V more (-1)) X) = ⟨1, V, -1, false⟩ := by
  have : truncC V more (-1) = 1 := by unfold truncC; rw [if_pos (.inr (.inl (by decide)))]
  rw [this]; rfl
section
variable {V : View} (h : Kmo V)
include h
theorem Kmo.there : (pickV V more).isSome = true := (pickV_is V more).2 h.hasM
theorem Kmo.again (X : View) : offV V (-1) false (runV V (-1) (createC V more) X) = ⟨9, V, -1, false⟩ := by
  have : createC V more = 9 := by unfold createC; rw [show mayNm more = true from by decide, h.there]; simp
  rw [this]; rfl
theorem Kmo.cut1 (X : View) : offV V (-1) false (runV V (-1) (truncC V more 1) X) = ⟨1, V, -1, false⟩ := by
  have : truncC V more 1 = 1 := by unfold truncC; rw [h.void.file, h.there]; simp
  rw [this]; rfl
theorem Kmo.gone (X : View) : offV V (-1) false (runV V (-1) (lackC V faa) X) = ⟨6, V, -1, false⟩ := by
  have : lackC V faa = 6 := by unfold lackC; rw [show mayNm faa = true from by decide, pickV_no h.noFaa]; simp
  rw [this]; rfl
theorem Kmo.same_set : setV V more ((fileOf V more).1 ++ []) (fileOf V more).2 = V := by
  unfold setV
  rw [h.void.file]
  conv => rhs; rw [← List.map_id V]
  apply List.map_congr_left
  intro e he
  have := h.void e he
  by_cases hn : e.1 = more
  · rw [if_pos hn, id_eq, ← hn]
    obtain ⟨a, b⟩ := e
    simp only at this
    rw [this]; rfl
  · rw [if_neg hn, id_eq]
theorem Kmo.adds : offV V (-1) false (runV V (-1) (appendC V more ([] : List UInt8).length 0) (setV V more ((fileOf V more).1 ++ []) (fileOf V more).2)) = ⟨0, V, -1, false⟩ := by
  have : appendC V more ([] : List UInt8).length 0 = 0 := by unfold appendC; rw [show mayNm more = true from by decide, h.there, h.void.tot]; simp
  rw [this, h.same_set]; rfl
theorem Kmo.full (X : View) (len : Nat) (hl : len = 1) : offV V (-1) false (runV V (-1) (appendC V more len 0) X) = ⟨7, V, -1, false⟩ := by
  subst hl
  have : appendC V more 1 0 = 7 := by unfold appendC; rw [show mayNm more = true from by decide, h.there, h.void.tot]; simp
  rw [this]; rfl
theorem Kmo.goes (X : View) : offV V 0 false (runV V 0 (lackC V more) X) = ⟨8, V, -1, true⟩ := by
  have : lackC V more = 0 := by unfold lackC; rw [show mayNm more = true from by decide, h.there]; simp
  rw [this]; rfl
end
end Go.Proofs.Ytnohgfjmfgeccaa.Gm
