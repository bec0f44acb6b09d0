/- The document's Own: a row of bytes of its own. -/
import Derived.Test.YtelocbohiddpgaaGreatDoorGb
set_option linter.unusedSimpArgs false
set_option linter.unusedVariables false
namespace Go.Proofs.YtelocbohiddpgaaGreatDoor
open Go.RowKit Gm
attribute [local go_sem ↓] Go.wp_at_zero Go.wp_at_succ

theorem rown_any (v : Value) (L : List UInt8) (w : World) (hB : Bs w v L) (hL : L.length ≤ 140737488355328) : Calls Tryz.prog 6 #[v] w (MadeB L w) := by
  obtain ⟨i0, ii, iz0, iz1, iz2⟩ := info_parts infoB
  have HSrc := Lib.hid hB.src
  obtain ⟨p, cap, rfl⟩ := hB.form
  clear hB
  go_enter Tryz.func6, Tryz.ntmps6
  go_wp2_with (at_builtin; refine wpList_append_src rfl _ _ 23 rfl w.heap.size 5 i0 (.int .u8 0) 1 1 Tryz.underlying23 ii iz0 iz1 iz2 rfl (by decide) (.slice none 0 0) 0 [] rfl (World.ownsRow_nil _ _ _ _) _ L.length (cellsB L) rfl HSrc.out L.length (by omega) (by unfold maxLen; omega) (by omega) (Nat.le_refl _) ?_; intro pA capA w1 hown hgrow)
  go_ret
  exact ⟨_, rfl, hown, (Below.refl _ _).grown hgrow (Nat.le_refl _) (fun j hj => by simp [Value.ownBlock] at hj)⟩

end Go.Proofs.YtelocbohiddpgaaGreatDoor
