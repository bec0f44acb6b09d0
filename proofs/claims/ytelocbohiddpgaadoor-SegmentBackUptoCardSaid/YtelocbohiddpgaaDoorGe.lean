/- bytes.Equal. -/
import Derived.Test.YtelocbohiddpgaaDoorGd
set_option linter.unusedSimpArgs false
set_option linter.unusedVariables false
namespace Go.Proofs.YtelocbohiddpgaaDoor.Gm
open Go Go.RowKit
attribute [local go_sem ↓] Go.wp_at_zero Go.wp_at_succ

theorem equal_any (v u : Value) (L S : List UInt8) (w : World) (hB : Bs w v L) (hS : Bs w u S) : Calls Tryd.prog 17 #[v, u] w (Quits (.bool (L == S)) w) := by
  have h1 := conv_bs hB 9 Tryd.underlying9
  have h2 := conv_bs hS 9 Tryd.underlying9
  obtain ⟨p, cap, rfl⟩ := hB.form
  obtain ⟨q, capq, rfl⟩ := hS.form
  clear hB hS
  go_enter Tryd.func17, Tryd.ntmps17
  go_wp2_with fail
  go_ret
  exact ⟨rfl, rfl⟩
end Go.Proofs.YtelocbohiddpgaaDoor.Gm
