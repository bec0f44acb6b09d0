/- The contract of the program's reader: Left. -/
import Derived.Test.YtelocbohiddpgaaDoorWy
import Derived.Deep.RegionWith
set_option linter.unusedSimpArgs false
set_option linter.unusedVariables false
namespace Go.Proofs.YtelocbohiddpgaaDoor
open Go.RowKit Gm
attribute [local go_sem ↓] Go.wp_at_zero Go.wp_at_succ

theorem wleft_any (F : List Nat) (r : Value) (L : List UInt8) (w : World) (hR : RdW w F r L) : Calls Tryd.prog 56 #[r] w (Gives (.int .i64 (L.length : Nat)) w) := by
  obtain ⟨R, b, v, rfl, hF, h1, h2, h3, h4, h5, h6⟩ := hR
  obtain ⟨p, cap, rfl⟩ := h2.form
  have HIs := Lib.hid (wis_any R _ _ h1)
  have c1 := h1.cell 1 (u := .slice p L.length cap) rfl
  clear h1 h2 h3 h4 h5
  go_enter Tryd.func56, Tryd.ntmps56
  go_wp2_with fail
  refine HIs.out.mono ?_; rintro e w1 ⟨rfl, rfl⟩
  go_wp2_with fail
  go_ret
  exact ⟨rfl, Below.refl _ _⟩
end Go.Proofs.YtelocbohiddpgaaDoor
