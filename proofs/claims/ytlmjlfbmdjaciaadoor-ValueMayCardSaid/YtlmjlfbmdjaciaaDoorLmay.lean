/- The walk of ValueMay: for any two values the statement's function returns true, and writes nothing that was there. -/
import Derived.Test.YtlmjlfbmdjaciaaDoorR
set_option linter.unusedSimpArgs false
set_option linter.unusedVariables false
namespace Go.Proofs.YtlmjlfbmdjaciaaDoor
open Go.RowKit
attribute [local go_sem ↓] Go.wp_at_zero Go.wp_at_succ
attribute [local go_sem ↓] run_eql_val run_guard_val

set_option maxHeartbeats 2000000 in
set_option maxRecDepth 100000 in
theorem law_may (k n : Int) (s : ByteArray) (b : Bool) (k' n' : Int) (s' : ByteArray) (b' : Bool) (w : World) (hE : Env w) : Calls Tryd.prog 3 #[val k n s b, val k' n' s' b'] w (Gives (.bool true) w) := by
  have e1 : (mayB k n s b == mayB k n s b) = true := by simp
  have e2 : (cmpV k n s b k' n' s' b' == cmpV k n s b k' n' s' b') = true := by simp
  have hO := (At4.new w k n s b).alloc (.cells #[.int .i64 k', .int .i64 n', .string s', .bool b'] 23)
  have hO' := two_new w k n s b k' n' s' b'
  have hE2 := ((hE.alloc (.cells #[.int .i64 k, .int .i64 n, .string s, .bool b] 23)).alloc (.cells #[.int .i64 k', .int .i64 n', .string s', .bool b'] 23)).drew
  clear hE
  go_enter Tryd.func3, Tryd.ntmps3
  go_wp2_with fail
  go_region_held3 (fun w' => w'.cell? ⟨w.heap.size, 0, none⟩ = some (.int .i64 k) ∧ w'.cell? ⟨w.heap.size, 1, none⟩ = some (.int .i64 n) ∧ w'.cell? ⟨w.heap.size, 2, none⟩ = some (.string s) ∧ w'.cell? ⟨w.heap.size, 3, none⟩ = some (.bool b) ∧
      w'.cell? ⟨w.heap.size + 1, 0, none⟩ = some (.int .i64 k') ∧ w'.cell? ⟨w.heap.size + 1, 1, none⟩ = some (.int .i64 n') ∧ w'.cell? ⟨w.heap.size + 1, 2, none⟩ = some (.string s') ∧ w'.cell? ⟨w.heap.size + 1, 3, none⟩ = some (.bool b'))
    (first | exact ⟨hO.1, hO.2.1, hO.2.2.1, hO.2.2.2, hO'.1, hO'.2.1, hO'.2.2.1, hO'.2.2.2⟩ | (repeat' apply And.intro) <;> (refine cell_later (by assumption) ?_; first | assumption | simp [*]))
    (first | (go_at_call 9; refine (awake_any _ hE2).mono ?_; rintro e w1 ⟨rfl, b1⟩) | (go_at_call 10; refine (may_any k n s b _).mono ?_; rintro e w2 ⟨rfl, b2⟩) | (go_at_call 11; refine (refmay_any k n s b _).mono ?_; rintro e w3 ⟨rfl, b3⟩) | (go_at_call 12; refine (compare_any k n s b k' n' s' b' _).mono ?_; rintro e w4 ⟨rfl, b4⟩) | (go_at_call 13; refine (refcmp_any k n s b k' n' s' b' _).mono ?_; rintro e w5 ⟨rfl, b5⟩))
  go_wp2
  go_ret
  exact ⟨rfl, then_ (below_new (below_new (then_ ((Below.refl _ _).drew) b1))) (then_ b2 (then_ b3 (then_ b4 b5)))⟩
end Go.Proofs.YtlmjlfbmdjaciaaDoor
