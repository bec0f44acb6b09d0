/- Layer 10: what a call's errors come to: ask, for each closure. -/
import Derived.Test.YtnhdnmlclnndoaaDkf
set_option linter.unusedSimpArgs false
set_option linter.unusedVariables false
namespace Go.Proofs.Ytnhdnmlclnndoaa.Gm
open Go Go.RowKit Go.Maps
attribute [local go_sem ↓] Go.wp_at_zero Go.wp_at_succ

/-- The first error that is there. -/
def firstE (ans : Int → Bool) : Int := if ans 1 then 1 else if ans 6 then 6 else if ans 9 then 9 else if ans 7 then 7 else 0
/-- Those ahead of the k-th are not there. -/
def preE (ans : Int → Bool) (k : Nat) : Prop := (1 ≤ k → ans 1 = false) ∧ (2 ≤ k → ans 6 = false) ∧ (3 ≤ k → ans 9 = false) ∧ (4 ≤ k → ans 7 = false)
theorem idx_err (W : World) : (∀ (_ : Unit), (Instr.index 95 (.agg #[.int .i64 1, .int .i64 6, .int .i64 9, .int .i64 7]) (.int .i64 0)).run Try.prog W = .ok (.int .i64 1) W) ∧ ((Instr.index 95 (.agg #[.int .i64 1, .int .i64 6, .int .i64 9, .int .i64 7]) (.int .i64 1)).run Try.prog W = .ok (.int .i64 6) W) ∧ ((Instr.index 95 (.agg #[.int .i64 1, .int .i64 6, .int .i64 9, .int .i64 7]) (.int .i64 2)).run Try.prog W = .ok (.int .i64 9) W) ∧ ((Instr.index 95 (.agg #[.int .i64 1, .int .i64 6, .int .i64 9, .int .i64 7]) (.int .i64 3)).run Try.prog W = .ok (.int .i64 7) W) := ⟨fun _ => by kernel_rfl, by kernel_rfl, by kernel_rfl, by kernel_rfl⟩
theorem ask_nil (cl : Value) (w : World) : Calls Try.prog 48 #[.pointer none, cl] w (Gives (.int .i64 2) w) := by
  have HM := Lib.hid (fun W => dmade_none W)
  go_enter Try.func48, Try.ntmps48
  go_wp2_with fail
  refine (HM.out _).mono ?_; rintro e w1 ⟨rfl, b1⟩
  have HB := Lib.hid b1
  clear b1
  go_wp2_with fail
  go_ret
  exact ⟨rfl, HB.out⟩
theorem ask_off (g bm : Nat) (q fu : Int) (cl : Value) (w : World) (h : Blk w g 65 #[.map (some bm), .int .i64 q, .int .i64 fu, .bool true]) : Calls Try.prog 48 #[.pointer (some ⟨g, 0, none⟩), cl] w (Gives (.int .i64 8) w) := by
  have HM := Lib.hid (dmade_yes g bm q fu true w h)
  have HH := Lib.hid h
  clear h
  go_enter Try.func48, Try.ntmps48
  go_wp2_with fail
  refine HM.out.mono ?_; rintro e w1 ⟨rfl, b1⟩
  have h3 := (HH.out.later b1).cell 3 rfl
  have hl := (HH.out.later b1).lt
  have HB := Lib.hid b1
  clear b1
  go_wp2_with fail
  go_ret
  exact ⟨rfl, HB.out⟩
end Go.Proofs.Ytnhdnmlclnndoaa.Gm
