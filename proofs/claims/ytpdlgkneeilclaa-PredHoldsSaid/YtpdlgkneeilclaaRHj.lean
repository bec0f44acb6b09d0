/- The document's Holds, Prefix: a value that is no text. -/
import Derived.Test.YtpdlgkneeilclaaRHp
set_option linter.unusedSimpArgs false
set_option linter.unusedVariables false
namespace Go.Proofs.Ytpdlgkneeilclaa.Gm
open Go Go.RowKit
attribute [local go_sem ↓] Go.wp_at_zero Go.wp_at_succ

set_option maxHeartbeats 8000000 in
set_option maxRecDepth 100000 in
theorem rholds_8a (nm : ByteArray) (v : Vl) (sp : Option Addr) (m sc : Nat) (w : World) (x : Vl) (ek : (x.k != v.k) = false) (h2 : (x.k == 2) = false) : Calls Try.prog 23 #[.agg #[.string nm, .int .i64 8, .int .i64 v.k, .int .i64 v.n, .string v.s, .bool v.b, .slice sp m sc], vv x] w (Gives (.bool false) w) := by
  have HC := Lib.hid (fun W => refcmp_any x.k x.n x.s x.b v.k v.n v.s v.b W)
  generalize cmpV x.k x.n x.s x.b v.k v.n v.s v.b = r at HC
  go_enter Try.func23, Try.ntmps23
  go_wp2_with fail
  refine (HC.out _).mono ?_; rintro e w1 ⟨rfl, b1⟩
  obtain ⟨k1, k2, hb⟩ := two_boxes nm v sp m sc w x b1
  have q1 := k1.cell 1 rfl
  have q4 := k1.cell 4 rfl
  have HB := Lib.hid hb
  go_wp2_with fail
  have e4 := k2.cell 0 rfl
  have e5 := k2.cell 2 rfl
  clear b1 k1 k2 hb
  go_quiet (fail)
  have HBz := Lib.hid (bel_drewN HB.out nq)
  go_wp2_with fail
  go_ret
  exact ⟨rfl, HBz.out⟩
end Go.Proofs.Ytpdlgkneeilclaa.Gm
