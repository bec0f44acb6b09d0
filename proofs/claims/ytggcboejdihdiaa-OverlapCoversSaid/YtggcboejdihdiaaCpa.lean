/- The contract of package cover's Asked. -/
import Derived.Test.YtggcboejdihdiaaCp
set_option linter.unusedSimpArgs false
set_option linter.unusedVariables false
namespace Go.Proofs.Ytggcboejdihdiaa.Gm
open Go Go.RowKit
attribute [local go_sem ↓] Go.wp_at_zero Go.wp_at_succ

set_option maxHeartbeats 16000000 in
set_option maxRecDepth 100000 in
theorem Asked_any (v : Value) (p : List Cn) (nm : ByteArray) (w : World) (hA : Cs w v p) (hr : ∀ c ∈ p, RvC c) : Calls Try.prog 13 #[v, .string nm] w (RetE (mayPr p) (askedR p nm.data.toList) w) := by
  have HZ0 := Lib.hid (Blk.new w 39 zRg)
  have HB0 := Lib.hid (below_one w (.cells zRg 39))
  have HM := Lib.hid (fun W (h : Below w.heap.size w W) => maypred_any v p W (hA.later h))
  obtain ⟨sp, cap, hv⟩ := hA.1.form
  cases hm : mayPr p
  · rw [hm] at HM
    subst hv
    clear hm hA hr
    go_enter Try.func13, Try.ntmps13
    go_wp2_with fail
    refine (HM.out _ HB0.out).mono ?_; rintro e w1 ⟨rfl, b1⟩
    have HB1 := Lib.hid (then_ HB0.out b1)
    have HZ1 := Lib.hid (HZ0.out.later b1)
    clear b1
    have z0 := HZ1.out.cell 0 rfl
    have z1 := HZ1.out.cell 1 rfl
    have z2 := HZ1.out.cell 2 rfl
    have z3 := HZ1.out.cell 3 rfl
    have f0 := HZ1.out.free 0
    have f1 := HZ1.out.free 1
    have f2 := HZ1.out.free 2
    have f3 := HZ1.out.free 3
    go_wp2_with fail
    exact post_re (m := ⟨none, 0, none, 0, none, 0⟩) (r := zeroR) (i := 30) HZ1.out (fun W hW => by have e0 := hW.cell 0 rfl; have e1 := hW.cell 1 rfl; have e2 := hW.cell 2 rfl; have e3 := hW.cell 3 rfl; clear HZ0 HB0 HM HB1 HZ1 z0 z1 z2 z3 f0 f1 f2 f3; simp [results, Try.results13, go_sem, e0, e1, e2, e3]) rfl ⟨⟨none, 0, none, 0, none, 0⟩, rfl, rg_own0 _, (same4 _ _ _ _).below HB1.out HB1.out.size (by omega)⟩
  · rw [hm] at HM
    have HC := Lib.hid (fun W (h : Below w.heap.size w W) => asked_any v p nm W (hA.later h) (mp_of hm hr))
    subst hv
    clear hm hA hr
    go_enter Try.func13, Try.ntmps13
    go_wp2_with fail
    refine (HM.out _ HB0.out).mono ?_; rintro e w1 ⟨rfl, b1⟩
    have HB1 := Lib.hid (then_ HB0.out b1)
    have HZ1 := Lib.hid (HZ0.out.later b1)
    clear b1
    go_wp2_with fail
    refine (HC.out _ HB1.out).mono ?_; rintro e w2 ⟨k2, rfl, ho, b2⟩
    have HO2 := Lib.hid ho
    have HB2 := Lib.hid (then_ HB1.out b2)
    have HZ2 := Lib.hid (HZ1.out.later b2)
    clear b2 ho
    have z0 := HZ2.out.cell 0 rfl
    have z1 := HZ2.out.cell 1 rfl
    have z2 := HZ2.out.cell 2 rfl
    have z3 := HZ2.out.cell 3 rfl
    have f0 := HZ2.out.free 0
    have f1 := HZ2.out.free 1
    have f2 := HZ2.out.free 2
    have f3 := HZ2.out.free 3
    go_wp2_with fail
    exact post_re (m := k2) (r := askedR p nm.data.toList) (i := 0) HZ2.out (fun W hW => by have e0 := hW.cell 0 rfl; have e1 := hW.cell 1 rfl; have e2 := hW.cell 2 rfl; have e3 := hW.cell 3 rfl; clear HZ0 HB0 HM HB1 HZ1 HC HO2 HB2 HZ2 z0 z1 z2 z3 f0 f1 f2 f3; simp [results, Try.results13, go_sem, e0, e1, e2, e3]) rfl ⟨k2, rfl, HO2.out.put4 HZ2.out, (same4 _ _ _ _).below HB2.out HB2.out.size (by omega)⟩
end Go.Proofs.Ytggcboejdihdiaa.Gm
