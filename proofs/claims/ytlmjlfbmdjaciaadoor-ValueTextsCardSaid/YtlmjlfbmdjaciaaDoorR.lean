/- The contracts of the document's own answers: which values may be, and their order. -/
import Derived.Test.YtlmjlfbmdjaciaaDoorE
set_option linter.unusedSimpArgs false
set_option linter.unusedVariables false
namespace Go.Proofs.YtlmjlfbmdjaciaaDoor
open Go.RowKit

theorem mayB_1 (n : Int) (s : ByteArray) (b : Bool) : mayB 1 n s b = (s.toList.isEmpty && !b) := by simp [mayB]
theorem mayB_2 (n : Int) (s : ByteArray) (b : Bool) : mayB 2 n s b = (decide (s.size ≤ 32) && (n == 0 && !b)) := by simp [mayB]
theorem mayB_3 (n : Int) (s : ByteArray) (b : Bool) : mayB 3 n s b = (n == 0 && s.toList.isEmpty) := by simp [mayB]

set_option maxHeartbeats 1000000 in
set_option maxRecDepth 20000 in
theorem refmay_1 (n : Int) (s : ByteArray) (b : Bool) (w : World) : Calls Tryd.prog 11 #[val 1 n s b] w (Gives (.bool (mayB 1 n s b)) w) := by
  rw [mayB_1]
  cases he : s.toList.isEmpty <;> cases b
  all_goals
    go_enter Tryd.func11, Tryd.ntmps11
    go_wp2
    go_ret
    exact ⟨rfl, (Below.refl _ _).alloc (Nat.le_refl _) _⟩
set_option maxHeartbeats 1000000 in
set_option maxRecDepth 20000 in
theorem refmay_2 (n : Int) (s : ByteArray) (b : Bool) (w : World) : Calls Tryd.prog 11 #[val 2 n s b] w (Gives (.bool (mayB 2 n s b)) w) := by
  rw [mayB_2]
  by_cases h : s.size ≤ 32
  · rw [decide_eq_true h]
    have hd : decide ((s.size : Int) ≤ 32) = true := by simp; omega
    cases hn : (n == 0) <;> cases b
    all_goals
      go_enter Tryd.func11, Tryd.ntmps11
      go_wp2
      go_ret
      exact ⟨rfl, (Below.refl _ _).alloc (Nat.le_refl _) _⟩
  · rw [decide_eq_false h]
    have hd : decide ((s.size : Int) ≤ 32) = false := by simp; omega
    cases hn : (n == 0) <;> cases b
    all_goals
      go_enter Tryd.func11, Tryd.ntmps11
      go_wp2
      go_ret
      exact ⟨rfl, (Below.refl _ _).alloc (Nat.le_refl _) _⟩
set_option maxHeartbeats 1000000 in
set_option maxRecDepth 20000 in
theorem refmay_3 (n : Int) (s : ByteArray) (b : Bool) (w : World) : Calls Tryd.prog 11 #[val 3 n s b] w (Gives (.bool (mayB 3 n s b)) w) := by
  rw [mayB_3]
  cases he : s.toList.isEmpty <;> cases hn : (n == 0)
  all_goals
    go_enter Tryd.func11, Tryd.ntmps11
    go_wp2
    go_ret
    exact ⟨rfl, (Below.refl _ _).alloc (Nat.le_refl _) _⟩
set_option maxHeartbeats 1000000 in
set_option maxRecDepth 20000 in
theorem refmay_none (k n : Int) (s : ByteArray) (b : Bool) (w : World) (h1 : (k == 1) = false) (h2 : (k == 2) = false) (h3 : (k == 3) = false) : Calls Tryd.prog 11 #[val k n s b] w (Gives (.bool false) w) := by
  go_enter Tryd.func11, Tryd.ntmps11
  go_wp2
  go_ret
  exact ⟨rfl, (Below.refl _ _).alloc (Nat.le_refl _) _⟩
theorem refmay_any (k n : Int) (s : ByteArray) (b : Bool) (w : World) : Calls Tryd.prog 11 #[val k n s b] w (Gives (.bool (mayB k n s b)) w) := by
  by_cases h1 : k = 1
  · subst h1; exact refmay_1 n s b w
  by_cases h2 : k = 2
  · subst h2; exact refmay_2 n s b w
  by_cases h3 : k = 3
  · subst h3; exact refmay_3 n s b w
  · have := refmay_none k n s b w (by simpa using h1) (by simpa using h2) (by simpa using h3)
    rwa [show mayB k n s b = false by simp [mayB, h1, h2, h3]]

/-! ### The order of texts: two ways to say it -/
theorem same_of {a b : UInt8} (h : ¬ a < b) (h2 : ¬ b < a) : a = b := by
  have h3 : ¬ a.toNat < b.toNat := fun e => h (UInt8.lt_iff_toNat_lt.2 e)
  have h4 : ¬ b.toNat < a.toNat := fun e => h2 (UInt8.lt_iff_toNat_lt.2 e)
  exact UInt8.toNat_inj.1 (by omega)
theorem less_iff : ∀ (x y : List UInt8), Op.bytesLess x y = (Lib.compareBytes x y == -1)
  | [], [] => rfl
  | [], _ :: _ => rfl
  | _ :: _, [] => rfl
  | a :: x, b :: y => by
    simp only [Op.bytesLess, Lib.compareBytes]
    rw [less_iff x y]
    by_cases h : a < b
    · simp [h]
    · by_cases h2 : b < a
      · have : ¬ a = b := fun e => h (e ▸ (e ▸ h2 : a < a))
        simp [h, h2, this]
      · have : a = b := same_of h h2
        subst this
        simp [h]
theorem compareBytes_neg : ∀ (x y : List UInt8), Lib.compareBytes y x = - Lib.compareBytes x y
  | [], [] => rfl
  | [], _ :: _ => rfl
  | _ :: _, [] => rfl
  | a :: x, b :: y => by
    simp only [Lib.compareBytes]
    by_cases h : a < b
    · have h2 : ¬ b < a := by have := UInt8.lt_iff_toNat_lt.1 h; intro h2; have := UInt8.lt_iff_toNat_lt.1 h2; omega
      simp [h, h2]
    · by_cases h2 : b < a
      · simp [h, h2]
      · simp [h, h2, compareBytes_neg x y]
theorem compareBytes_three : ∀ (x y : List UInt8), Lib.compareBytes x y = -1 ∨ (Lib.compareBytes x y = 0 ∧ x = y) ∨ Lib.compareBytes x y = 1
  | [], [] => .inr (.inl ⟨rfl, rfl⟩)
  | [], _ :: _ => .inl rfl
  | _ :: _, [] => .inr (.inr rfl)
  | a :: x, b :: y => by
    simp only [Lib.compareBytes]
    by_cases h : a < b
    · simp [h]
    · by_cases h2 : b < a
      · simp [h, h2]
      · have e : a = b := same_of h h2
        subst e
        simp only [h, if_false, List.cons.injEq, true_and]
        exact compareBytes_three x y
theorem compareBytes_self (x : List UInt8) : Lib.compareBytes x x = 0 := by
  have := compareBytes_neg x x
  omega

set_option maxHeartbeats 1000000 in
set_option maxRecDepth 20000 in
theorem refcmp_apart (k n : Int) (s : ByteArray) (b : Bool) (k' n' : Int) (s' : ByteArray) (b' : Bool) (w : World) (h : (k == k') = false) : Calls Tryd.prog 13 #[val k n s b, val k' n' s' b'] w (Gives (.int .i64 (cmpI k k')) w) := by
  by_cases hl : k < k'
  · rw [show cmpI k k' = -1 by simp [cmpI, hl]]
    go_enter Tryd.func13, Tryd.ntmps13
    go_wp2
    go_ret
    exact ⟨rfl, ((Below.refl _ _).alloc (Nat.le_refl _) _).alloc (by simp) _⟩
  · have hg : k' < k := by have : ¬ k = k' := by simpa using h
                           omega
    rw [show cmpI k k' = 1 by simp [cmpI, hl, hg]]
    clear hg
    go_enter Tryd.func13, Tryd.ntmps13
    go_wp2
    go_ret
    exact ⟨rfl, ((Below.refl _ _).alloc (Nat.le_refl _) _).alloc (by simp) _⟩
set_option maxHeartbeats 1000000 in
set_option maxRecDepth 20000 in
theorem refcmp_int (n : Int) (s : ByteArray) (b : Bool) (n' : Int) (s' : ByteArray) (b' : Bool) (w : World) : Calls Tryd.prog 13 #[val 1 n s b, val 1 n' s' b'] w (Gives (.int .i64 (cmpI n n')) w) := by
  rcases Int.lt_trichotomy n n' with h | h | h
  · rw [show cmpI n n' = -1 by simp [cmpI, h]]
    go_enter Tryd.func13, Tryd.ntmps13
    go_wp2
    go_ret
    exact ⟨rfl, ((Below.refl _ _).alloc (Nat.le_refl _) _).alloc (by simp) _⟩
  · subst h
    rw [show cmpI n n = 0 by simp [cmpI]]
    go_enter Tryd.func13, Tryd.ntmps13
    go_wp2
    go_ret
    exact ⟨rfl, ((Below.refl _ _).alloc (Nat.le_refl _) _).alloc (by simp) _⟩
  · rw [show cmpI n n' = 1 by simp [cmpI, h]; omega]
    go_enter Tryd.func13, Tryd.ntmps13
    go_wp2
    go_ret
    exact ⟨rfl, ((Below.refl _ _).alloc (Nat.le_refl _) _).alloc (by simp) _⟩
set_option maxHeartbeats 1000000 in
set_option maxRecDepth 20000 in
theorem refcmp_str (n : Int) (s : ByteArray) (b : Bool) (n' : Int) (s' : ByteArray) (b' : Bool) (w : World) : Calls Tryd.prog 13 #[val 2 n s b, val 2 n' s' b'] w (Gives (.int .i64 (Lib.compareBytes s.data.toList s'.data.toList)) w) := by
  have hl : Op.bytesLess s.toList s'.toList = (Lib.compareBytes s.data.toList s'.data.toList == -1) := by rw [less_iff, toList_data, toList_data]
  have he : (s.toList == s'.toList) = (Lib.compareBytes s.data.toList s'.data.toList == 0) := by
    rw [toList_data, toList_data]
    rcases compareBytes_three s.data.toList s'.data.toList with h | ⟨h, h'⟩ | h
    · rw [h]; simp only [beq_eq_false_iff_ne, ne_eq, show ((-1 : Int) == 0) = false from rfl]
      intro e; rw [e, compareBytes_self] at h; omega
    · rw [h, h']; simp
    · rw [h]; simp only [beq_eq_false_iff_ne, ne_eq, show ((1 : Int) == 0) = false from rfl]
      intro e; rw [e, compareBytes_self] at h; omega
  rcases compareBytes_three s.data.toList s'.data.toList with h | ⟨h, _⟩ | h
  all_goals
    rw [h] at hl he ⊢
    replace hl := hl.trans (by rfl : _ = (_ : Bool))
    simp only [show ((-1 : Int) == -1) = true from rfl, show ((0 : Int) == -1) = false from rfl, show ((1 : Int) == -1) = false from rfl, show ((-1 : Int) == 0) = false from rfl, show ((0 : Int) == 0) = true from rfl, show ((1 : Int) == 0) = false from rfl] at hl he
    clear h
    go_enter Tryd.func13, Tryd.ntmps13
    go_wp2
    go_ret
    exact ⟨rfl, ((Below.refl _ _).alloc (Nat.le_refl _) _).alloc (by simp) _⟩
set_option maxHeartbeats 1000000 in
set_option maxRecDepth 20000 in
theorem refcmp_bool (n : Int) (s : ByteArray) (b : Bool) (n' : Int) (s' : ByteArray) (b' : Bool) (w : World) : Calls Tryd.prog 13 #[val 3 n s b, val 3 n' s' b'] w (Gives (.int .i64 (cmpB b b')) w) := by
  cases b <;> cases b'
  all_goals
    go_enter Tryd.func13, Tryd.ntmps13
    go_wp2
    go_ret
    exact ⟨rfl, ((Below.refl _ _).alloc (Nat.le_refl _) _).alloc (by simp) _⟩
set_option maxHeartbeats 1000000 in
set_option maxRecDepth 20000 in
theorem refcmp_other (k n : Int) (s : ByteArray) (b : Bool) (n' : Int) (s' : ByteArray) (b' : Bool) (w : World) (h1 : (k == 1) = false) (h2 : (k == 2) = false) (h3 : (k == 3) = false) : Calls Tryd.prog 13 #[val k n s b, val k n' s' b'] w (Gives (.int .i64 0) w) := by
  go_enter Tryd.func13, Tryd.ntmps13
  go_wp2
  go_ret
  exact ⟨rfl, ((Below.refl _ _).alloc (Nat.le_refl _) _).alloc (by simp) _⟩

theorem refcmp_any (k n : Int) (s : ByteArray) (b : Bool) (k' n' : Int) (s' : ByteArray) (b' : Bool) (w : World) : Calls Tryd.prog 13 #[val k n s b, val k' n' s' b'] w (Gives (.int .i64 (cmpV k n s b k' n' s' b')) w) := by
  by_cases hk : k = k'
  · subst hk
    by_cases h1 : k = 1
    · subst h1; simpa [cmpV] using refcmp_int n s b n' s' b' w
    by_cases h2 : k = 2
    · subst h2; simpa [cmpV] using refcmp_str n s b n' s' b' w
    by_cases h3 : k = 3
    · subst h3; simpa [cmpV] using refcmp_bool n s b n' s' b' w
    · simpa [cmpV, h1, h2, h3] using refcmp_other k n s b n' s' b' w (by simpa using h1) (by simpa using h2) (by simpa using h3)
  · simpa [cmpV, hk] using refcmp_apart k n s b k' n' s' b' w (by simpa using hk)
end Go.Proofs.YtlmjlfbmdjaciaaDoor
