/- The contract of the document's May of values. -/
import Derived.Test.YtnolpglgabemfaaA
import Derived.Test.YtnolpglgabemfaaKb0
import Derived.Test.YtnolpglgabemfaaGm
set_option linter.unusedSimpArgs false
set_option linter.unusedVariables false
namespace Go.Proofs.Ytnolpglgabemfaa.Gm
open Go Go.RowKit
attribute [local go_sem ↓] Go.wp_at_zero Go.wp_at_succ

set_option maxHeartbeats 1000000 in
set_option maxRecDepth 20000 in
theorem refmay_1 (n : Int) (s : ByteArray) (b : Bool) (w : World) : Calls Try.prog 80 #[val 1 n s b] w (Gives (.bool (mayB 1 n s b)) w) := by
  rw [mayB_1]
  cases he : s.toList.isEmpty <;> cases b
  all_goals
    go_enter Try.func80, Try.ntmps80
    go_wp2
    go_ret
    exact ⟨rfl, (Below.refl _ _).alloc (Nat.le_refl _) _⟩
set_option maxHeartbeats 1000000 in
set_option maxRecDepth 20000 in
theorem refmay_2 (n : Int) (s : ByteArray) (b : Bool) (w : World) : Calls Try.prog 80 #[val 2 n s b] w (Gives (.bool (mayB 2 n s b)) w) := by
  rw [mayB_2]
  by_cases h : s.size ≤ 32
  · rw [decide_eq_true h]
    have hd : decide ((s.size : Int) ≤ 32) = true := by simp; omega
    cases hn : (n == 0) <;> cases b
    all_goals
      go_enter Try.func80, Try.ntmps80
      go_wp2
      go_ret
      exact ⟨rfl, (Below.refl _ _).alloc (Nat.le_refl _) _⟩
  · rw [decide_eq_false h]
    have hd : decide ((s.size : Int) ≤ 32) = false := by simp; omega
    cases hn : (n == 0) <;> cases b
    all_goals
      go_enter Try.func80, Try.ntmps80
      go_wp2
      go_ret
      exact ⟨rfl, (Below.refl _ _).alloc (Nat.le_refl _) _⟩
set_option maxHeartbeats 1000000 in
set_option maxRecDepth 20000 in
theorem refmay_3 (n : Int) (s : ByteArray) (b : Bool) (w : World) : Calls Try.prog 80 #[val 3 n s b] w (Gives (.bool (mayB 3 n s b)) w) := by
  rw [mayB_3]
  cases he : s.toList.isEmpty <;> cases hn : (n == 0)
  all_goals
    go_enter Try.func80, Try.ntmps80
    go_wp2
    go_ret
    exact ⟨rfl, (Below.refl _ _).alloc (Nat.le_refl _) _⟩
set_option maxHeartbeats 1000000 in
set_option maxRecDepth 20000 in
theorem refmay_none (k n : Int) (s : ByteArray) (b : Bool) (w : World) (h1 : (k == 1) = false) (h2 : (k == 2) = false) (h3 : (k == 3) = false) : Calls Try.prog 80 #[val k n s b] w (Gives (.bool false) w) := by
  go_enter Try.func80, Try.ntmps80
  go_wp2
  go_ret
  exact ⟨rfl, (Below.refl _ _).alloc (Nat.le_refl _) _⟩
theorem refmay_any (k n : Int) (s : ByteArray) (b : Bool) (w : World) : Calls Try.prog 80 #[val k n s b] w (Gives (.bool (mayB k n s b)) w) := by
  by_cases h1 : k = 1
  · subst h1; exact refmay_1 n s b w
  by_cases h2 : k = 2
  · subst h2; exact refmay_2 n s b w
  by_cases h3 : k = 3
  · subst h3; exact refmay_3 n s b w
  · have := refmay_none k n s b w (by simpa using h1) (by simpa using h2) (by simpa using h3)
    rwa [show mayB k n s b = false by simp [mayB, h1, h2, h3]]
end Go.Proofs.Ytnolpglgabemfaa.Gm
