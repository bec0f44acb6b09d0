/- The contracts of the document's own answers: which values may be; their order. -/
import Derived.Test.YtaplgoachembdaaGreatKb0
import Derived.Test.YtaplgoachembdaaGreatKap
import Derived.Test.YtaplgoachembdaaGreatPo
set_option linter.unusedSimpArgs false
set_option linter.unusedVariables false
namespace Go.Proofs.YtaplgoachembdaaGreat
open Go.RowKit

set_option maxHeartbeats 1000000 in
set_option maxRecDepth 20000 in
theorem refmay_1 (n : Int) (s : ByteArray) (b : Bool) (w : World) : Calls Tryz.prog 105 #[val 1 n s b] w (Gives (.bool (mayB 1 n s b)) w) := by
  rw [mayB_1]
  cases he : s.toList.isEmpty <;> cases b
  all_goals
    go_enter Tryz.func105, Tryz.ntmps105
    go_wp2
    go_ret
    exact ⟨rfl, (Below.refl _ _).alloc (Nat.le_refl _) _⟩
set_option maxHeartbeats 1000000 in
set_option maxRecDepth 20000 in
theorem refmay_2 (n : Int) (s : ByteArray) (b : Bool) (w : World) : Calls Tryz.prog 105 #[val 2 n s b] w (Gives (.bool (mayB 2 n s b)) w) := by
  rw [mayB_2]
  by_cases h : s.size ≤ 32
  · rw [decide_eq_true h]
    have hd : decide ((s.size : Int) ≤ 32) = true := by simp; omega
    cases hn : (n == 0) <;> cases b
    all_goals
      go_enter Tryz.func105, Tryz.ntmps105
      go_wp2
      go_ret
      exact ⟨rfl, (Below.refl _ _).alloc (Nat.le_refl _) _⟩
  · rw [decide_eq_false h]
    have hd : decide ((s.size : Int) ≤ 32) = false := by simp; omega
    cases hn : (n == 0) <;> cases b
    all_goals
      go_enter Tryz.func105, Tryz.ntmps105
      go_wp2
      go_ret
      exact ⟨rfl, (Below.refl _ _).alloc (Nat.le_refl _) _⟩
set_option maxHeartbeats 1000000 in
set_option maxRecDepth 20000 in
theorem refmay_3 (n : Int) (s : ByteArray) (b : Bool) (w : World) : Calls Tryz.prog 105 #[val 3 n s b] w (Gives (.bool (mayB 3 n s b)) w) := by
  rw [mayB_3]
  cases he : s.toList.isEmpty <;> cases hn : (n == 0)
  all_goals
    go_enter Tryz.func105, Tryz.ntmps105
    go_wp2
    go_ret
    exact ⟨rfl, (Below.refl _ _).alloc (Nat.le_refl _) _⟩
set_option maxHeartbeats 1000000 in
set_option maxRecDepth 20000 in
theorem refmay_none (k n : Int) (s : ByteArray) (b : Bool) (w : World) (h1 : (k == 1) = false) (h2 : (k == 2) = false) (h3 : (k == 3) = false) : Calls Tryz.prog 105 #[val k n s b] w (Gives (.bool false) w) := by
  go_enter Tryz.func105, Tryz.ntmps105
  go_wp2
  go_ret
  exact ⟨rfl, (Below.refl _ _).alloc (Nat.le_refl _) _⟩
theorem refmay_any (k n : Int) (s : ByteArray) (b : Bool) (w : World) : Calls Tryz.prog 105 #[val k n s b] w (Gives (.bool (mayB k n s b)) w) := by
  by_cases h1 : k = 1
  · subst h1; exact refmay_1 n s b w
  by_cases h2 : k = 2
  · subst h2; exact refmay_2 n s b w
  by_cases h3 : k = 3
  · subst h3; exact refmay_3 n s b w
  · have := refmay_none k n s b w (by simpa using h1) (by simpa using h2) (by simpa using h3)
    rwa [show mayB k n s b = false by simp [mayB, h1, h2, h3]]
set_option maxHeartbeats 1000000 in
set_option maxRecDepth 20000 in
theorem refcmp_apart (k n : Int) (s : ByteArray) (b : Bool) (k' n' : Int) (s' : ByteArray) (b' : Bool) (w : World) (h : (k == k') = false) : Calls Tryz.prog 66 #[val k n s b, val k' n' s' b'] w (Gives (.int .i64 (cmpI k k')) w) := by
  by_cases hl : k < k'
  · rw [show cmpI k k' = -1 by simp [cmpI, hl]]
    go_enter Tryz.func66, Tryz.ntmps66
    go_wp2
    go_ret
    exact ⟨rfl, ((Below.refl _ _).alloc (Nat.le_refl _) _).alloc (by simp) _⟩
  · have hg : k' < k := by have : ¬ k = k' := by simpa using h
                           omega
    rw [show cmpI k k' = 1 by simp [cmpI, hl, hg]]
    clear hg
    go_enter Tryz.func66, Tryz.ntmps66
    go_wp2
    go_ret
    exact ⟨rfl, ((Below.refl _ _).alloc (Nat.le_refl _) _).alloc (by simp) _⟩
set_option maxHeartbeats 1000000 in
set_option maxRecDepth 20000 in
theorem refcmp_int (n : Int) (s : ByteArray) (b : Bool) (n' : Int) (s' : ByteArray) (b' : Bool) (w : World) : Calls Tryz.prog 66 #[val 1 n s b, val 1 n' s' b'] w (Gives (.int .i64 (cmpI n n')) w) := by
  rcases Int.lt_trichotomy n n' with h | h | h
  · rw [show cmpI n n' = -1 by simp [cmpI, h]]
    go_enter Tryz.func66, Tryz.ntmps66
    go_wp2
    go_ret
    exact ⟨rfl, ((Below.refl _ _).alloc (Nat.le_refl _) _).alloc (by simp) _⟩
  · subst h
    rw [show cmpI n n = 0 by simp [cmpI]]
    go_enter Tryz.func66, Tryz.ntmps66
    go_wp2
    go_ret
    exact ⟨rfl, ((Below.refl _ _).alloc (Nat.le_refl _) _).alloc (by simp) _⟩
  · rw [show cmpI n n' = 1 by simp [cmpI, h]; omega]
    go_enter Tryz.func66, Tryz.ntmps66
    go_wp2
    go_ret
    exact ⟨rfl, ((Below.refl _ _).alloc (Nat.le_refl _) _).alloc (by simp) _⟩
set_option maxHeartbeats 1000000 in
set_option maxRecDepth 20000 in
theorem refcmp_str (n : Int) (s : ByteArray) (b : Bool) (n' : Int) (s' : ByteArray) (b' : Bool) (w : World) : Calls Tryz.prog 66 #[val 2 n s b, val 2 n' s' b'] w (Gives (.int .i64 (Lib.compareBytes s.data.toList s'.data.toList)) w) := by
  have hl : Op.bytesLess s.toList s'.toList = (Lib.compareBytes s.data.toList s'.data.toList == -1) := by rw [less_iff, toList_data, toList_data]
  have he : (s.toList == s'.toList) = (Lib.compareBytes s.data.toList s'.data.toList == 0) := by
    rw [toList_data, toList_data]
    rcases compareBytes_three s.data.toList s'.data.toList with h | ⟨h, h'⟩ | h
    · rw [h]; simp only [beq_eq_false_iff_ne, ne_eq, show ((-1 : Int) == 0) = false from rfl]
      intro e; rw [e, compareBytes_self] at h; omega
    · rw [h, h']; simp
    · rw [h]; simp only [beq_eq_false_iff_ne, ne_eq, show ((1 : Int) == 0) = false from rfl]
      intro e; rw [e, compareBytes_self] at h; omega
  rcases compareBytes_three s.data.toList s'.data.toList with h | ⟨h, _⟩ | h
  all_goals
    rw [h] at hl he ⊢
    replace hl := hl.trans (by rfl : _ = (_ : Bool))
    simp only [show ((-1 : Int) == -1) = true from rfl, show ((0 : Int) == -1) = false from rfl, show ((1 : Int) == -1) = false from rfl, show ((-1 : Int) == 0) = false from rfl, show ((0 : Int) == 0) = true from rfl, show ((1 : Int) == 0) = false from rfl] at hl he
    clear h
    go_enter Tryz.func66, Tryz.ntmps66
    go_wp2
    go_ret
    exact ⟨rfl, ((Below.refl _ _).alloc (Nat.le_refl _) _).alloc (by simp) _⟩
set_option maxHeartbeats 1000000 in
set_option maxRecDepth 20000 in
theorem refcmp_bool (n : Int) (s : ByteArray) (b : Bool) (n' : Int) (s' : ByteArray) (b' : Bool) (w : World) : Calls Tryz.prog 66 #[val 3 n s b, val 3 n' s' b'] w (Gives (.int .i64 (cmpB b b')) w) := by
  cases b <;> cases b'
  all_goals
    go_enter Tryz.func66, Tryz.ntmps66
    go_wp2
    go_ret
    exact ⟨rfl, ((Below.refl _ _).alloc (Nat.le_refl _) _).alloc (by simp) _⟩
set_option maxHeartbeats 1000000 in
set_option maxRecDepth 20000 in
theorem refcmp_other (k n : Int) (s : ByteArray) (b : Bool) (n' : Int) (s' : ByteArray) (b' : Bool) (w : World) (h1 : (k == 1) = false) (h2 : (k == 2) = false) (h3 : (k == 3) = false) : Calls Tryz.prog 66 #[val k n s b, val k n' s' b'] w (Gives (.int .i64 0) w) := by
  go_enter Tryz.func66, Tryz.ntmps66
  go_wp2
  go_ret
  exact ⟨rfl, ((Below.refl _ _).alloc (Nat.le_refl _) _).alloc (by simp) _⟩

theorem refcmp_any (k n : Int) (s : ByteArray) (b : Bool) (k' n' : Int) (s' : ByteArray) (b' : Bool) (w : World) : Calls Tryz.prog 66 #[val k n s b, val k' n' s' b'] w (Gives (.int .i64 (cmpV k n s b k' n' s' b')) w) := by
  by_cases hk : k = k'
  · subst hk
    by_cases h1 : k = 1
    · subst h1; simpa [cmpV] using refcmp_int n s b n' s' b' w
    by_cases h2 : k = 2
    · subst h2; simpa [cmpV] using refcmp_str n s b n' s' b' w
    by_cases h3 : k = 3
    · subst h3; simpa [cmpV] using refcmp_bool n s b n' s' b' w
    · simpa [cmpV, h1, h2, h3] using refcmp_other k n s b n' s' b' w (by simpa using h1) (by simpa using h2) (by simpa using h3)
  · simpa [cmpV, hk] using refcmp_apart k n s b k' n' s' b' w (by simpa using hk)
end Go.Proofs.YtaplgoachembdaaGreat
