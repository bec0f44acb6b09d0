/- Attributes in memory; the contracts of package event's small calls: what a name is. -/
import Derived.Test.YtgjniopcaahgfaaGreatDoorMa
set_option linter.unusedSimpArgs false
set_option linter.unusedVariables false
namespace Go.Proofs.YtgjniopcaahgfaaGreatDoor
open Go.RowKit
attribute [local go_sem ↓] Go.wp_at_zero Go.wp_at_succ

set_option maxHeartbeats 1000000 in
set_option maxRecDepth 20000 in
theorem named_any (c : UInt8) (w : World) : Calls Tryz.prog 42 #[bval c] w fun e w' => e = .returned (.bool (namedB c)) ∧ w' = w := by
  go_enter Tryz.func42, Tryz.ntmps42
  go_wp2
  all_goals
    go_ret
    refine ⟨congrArg (fun b => Ending.returned (.bool b)) ?_, rfl⟩
    rw [Bool.eq_iff_iff]
    simp [namedB]
    omega

/-- Bytes up to a place, all named. -/
theorem named_take {s : ByteArray} {k : Nat} (h : k < s.size) : (s.data.toList.take (k + 1)).all namedB = ((s.data.toList.take k).all namedB && namedB s[k]) := by
  rw [List.take_succ_eq_append_getElem (by simpa using h), List.all_append]
  simp
  rfl
set_option maxHeartbeats 1000000 in
set_option maxRecDepth 20000 in
theorem name_any (s : ByteArray) (hs : s.size ≤ 140737488351232) (w : World) : Calls Tryz.prog 23 #[.string s] w fun e w' => e = .returned (.bool (nameB s)) ∧ w' = w := by
  go_enter Tryz.func23, Tryz.ntmps23
  go_wp2
  go_loopw [6] (fun i wr => ∃ k : Nat, k ≤ s.size ∧ i = .int .i64 k ∧ (s.data.toList.take k).all namedB = true ∧ wr = w) (fun i _ => s.size - (intOf i).toNat)
  case atStart => exact ⟨0, Nat.zero_le _, rfl, rfl, rfl⟩
  case round =>
    obtain ⟨k, hk, rfl, hall, rfl⟩ := hrel
    have HA := Lib.hid hall
    clear hall
    by_cases hkl : k < s.size
    · have hst := Lib.hid (named_take hkl)
      cases hb : namedB s[k] with
      | true =>
        go_wp2_with (go_at_call 42; refine (named_any s[k] _).mono ?_; rintro e w1 ⟨rfl, rfl⟩)
        go_roundw
        case rel => exact ⟨k + 1, by omega, by simp, by rw [hst.out, HA.out, hb]; rfl, trivial⟩
        case measure => simp [intOf]; omega
      | false =>
        have hn : nameB s = false := by
          have h2 : s.data.toList.all namedB = false := by
            rw [← List.take_append_drop (k + 1) s.data.toList, List.all_append, hst.out, hb]; simp
          simp [nameB, h2]
        have HN := Lib.hid hn
        clear hn
        go_wp2_with (go_at_call 42; refine (named_any s[k] _).mono ?_; rintro e w1 ⟨rfl, rfl⟩)
        go_ret
        exact ⟨by rw [HN.out]; rfl, rfl⟩
    · have hke : s.data.toList.take k = s.data.toList := List.take_of_length_le (by simp; omega)
      have HB : Hid (s.data.toList.all namedB = true) := Lib.hid (by rw [← hke]; exact HA.out)
      clear hke
      go_wp2
      all_goals
        go_ret
        refine ⟨congrArg (fun b => Ending.returned (.bool b)) ?_, rfl⟩
        rw [Bool.eq_iff_iff]
        simp [nameB, HB.out]
        try omega
end Go.Proofs.YtgjniopcaahgfaaGreatDoor
