/- The walk of the statement PredNormal where the predicate may not be. -/
import Derived.Test.YtpdlgkneeilclaaKN
import Derived.Test.YtpdlgkneeilclaaKL
set_option linter.unusedSimpArgs false
set_option linter.unusedVariables false
namespace Go.Proofs.Ytpdlgkneeilclaa.Gm
open Go Go.RowKit
attribute [local go_sem ↓] Go.wp_at_zero Go.wp_at_succ

set_option maxHeartbeats 8000000 in
set_option maxRecDepth 100000 in
theorem pnormal_no (vp : Value) (p : List Cn) (key : ByteArray) (sl : Value) (attrs : List At) (w : World) (hP : Cs w vp p) (hE : Es w sl attrs) (hm : mayPr p = false) :
    Calls Try.prog 5 #[vp, .agg #[.string key, sl]] w (Gives (.bool true) w) := by
  obtain ⟨p0, c0, rfl⟩ := hP.1.form
  obtain ⟨pe, ce, rfl⟩ := hE.1.form
  have hA := below_one w (.cells #[.string key, .slice pe attrs.length ce] 43)
  have HN := Lib.hid (normal_no _ p _ (hP.later hA) hm)
  have HM := Lib.hid (fun W (h : Below w.heap.size w W) => maypred_any _ p W (hP.later h))
  rw [hm] at HM
  have HA := Lib.hid hA
  clear hP hE hm hA
  go_enter Try.func5, Try.ntmps5
  go_wp2_with fail
  refine HN.out.mono ?_; rintro e w1 ⟨rfl, b1⟩
  have HB1 := Lib.hid (then_ HA.out b1)
  clear b1
  go_wp2_with fail
  refine (awake_any _).mono ?_; rintro e w2 ⟨rfl, b2⟩
  have HB2 := Lib.hid (then_ HB1.out b2)
  clear b2
  go_wp2_with fail
  refine (HM.out _ HB2.out).mono ?_; rintro e w3 ⟨rfl, b3⟩
  have HB3 := Lib.hid (then_ HB2.out b3)
  clear b3
  go_wp2_with fail
  go_ret
  exact ⟨rfl, HB3.out⟩
end Go.Proofs.Ytpdlgkneeilclaa.Gm
