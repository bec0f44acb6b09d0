/- Small facts on bytes and on which values may be. -/
import Derived.Test.YtmbfhmjcphoddaaGreatDoorA
set_option linter.unusedSimpArgs false
set_option linter.unusedVariables false
namespace Go.Proofs.YtmbfhmjcphoddaaGreatDoor
open Go.RowKit

theorem toList_data (s : ByteArray) : s.toList = s.data.toList := ByteArray.toList_eq s
theorem bytes_eq {a b : ByteArray} (h : a.data.toList = b.data.toList) : a = b := by
  obtain ⟨⟨l⟩⟩ := a; obtain ⟨⟨m⟩⟩ := b
  simp only at h
  subst h; rfl
theorem mayB_1 (n : Int) (s : ByteArray) (b : Bool) : mayB 1 n s b = (s.toList.isEmpty && !b) := by simp [mayB]
theorem mayB_2 (n : Int) (s : ByteArray) (b : Bool) : mayB 2 n s b = (decide (s.size ≤ 32) && (n == 0 && !b)) := by simp [mayB]
theorem mayB_3 (n : Int) (s : ByteArray) (b : Bool) : mayB 3 n s b = (n == 0 && s.toList.isEmpty) := by simp [mayB]
end Go.Proofs.YtmbfhmjcphoddaaGreatDoor
