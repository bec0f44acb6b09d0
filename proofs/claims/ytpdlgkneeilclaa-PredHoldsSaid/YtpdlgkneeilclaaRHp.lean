/- The document's Holds, Prefix: plain facts on the beginnings of texts. -/
import Derived.Test.YtpdlgkneeilclaaRHa
set_option linter.unusedSimpArgs false
set_option linter.unusedVariables false
namespace Go.Proofs.Ytpdlgkneeilclaa.Gm
open Go Go.RowKit
attribute [local go_sem ↓] Go.wp_at_zero Go.wp_at_succ

theorem take_is (x : ByteArray) (n : Nat) : (x.extract 0 n).data.toList = x.data.toList.take n := by
  simp [ByteArray.data_extract, Array.toList_extract, List.extract]
theorem prefix_is (x own : ByteArray) : ((x.extract 0 own.size).toList == own.toList) = Lib.hasPrefix x.data.toList own.data.toList := by
  rw [toList_data, toList_data, take_is, Lib.size_eq]
  unfold Lib.hasPrefix
  rw [Bool.eq_iff_iff, beq_iff_eq, List.isPrefixOf_iff_prefix, List.prefix_iff_eq_take, eq_comm]
theorem prefix_no (x own : ByteArray) (h : ¬ own.size ≤ x.size) : Lib.hasPrefix x.data.toList own.data.toList = false := by
  unfold Lib.hasPrefix
  rw [Bool.eq_false_iff, ne_eq, List.isPrefixOf_iff_prefix]
  intro hp
  have := hp.length_le
  rw [← Lib.size_eq, ← Lib.size_eq] at this
  exact h this
theorem slice_str (s t : ByteArray) (h : t.size ≤ s.size) (W : World) : (Instr.slice 9 (.string s) none (some (.int .i64 (t.size : Int))) none).run Try.prog W = .ok (.string (s.extract 0 t.size)) W := by
  go_simp
end Go.Proofs.Ytpdlgkneeilclaa.Gm
