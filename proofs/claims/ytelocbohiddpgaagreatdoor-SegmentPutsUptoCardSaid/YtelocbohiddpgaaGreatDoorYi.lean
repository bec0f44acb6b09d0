/- The document's Take. -/
import Derived.Test.YtelocbohiddpgaaGreatDoorYh
import Derived.Test.YtelocbohiddpgaaGreatDoorGc
set_option linter.unusedSimpArgs false
set_option linter.unusedVariables false
namespace Go.Proofs.YtelocbohiddpgaaGreatDoor.Crc
open Go Go.RowKit Gm
attribute [local go_sem ↓] Go.wp_at_zero Go.wp_at_succ

theorem str_ne (A B : List UInt8) : ((⟨A.toArray⟩ : ByteArray).toList == (⟨B.toArray⟩ : ByteArray).toList) = decide (A = B) := by
  rw [ByteArray.toList_eq, ByteArray.toList_eq, Bool.eq_iff_iff]
  simp
theorem put_split (H : List UInt8) (a b c d : UInt8) : decide (putL H = H ++ [a, b, c, d]) = decide (le4 (sumL H) = [a, b, c, d]) := by
  unfold putL
  rw [decide_eq_decide]
  simp
end Go.Proofs.YtelocbohiddpgaaGreatDoor.Crc
