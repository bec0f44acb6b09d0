/- The walk of FramePuts. -/
import Derived.Test.YtelocbohiddpgaaGreatDoorFmk
import Derived.Test.YtelocbohiddpgaaGreatDoorFmi
import Derived.Test.YtelocbohiddpgaaGreatDoorYua
set_option linter.unusedSimpArgs false
set_option linter.unusedVariables false
namespace Go.Proofs.YtelocbohiddpgaaGreatDoor.Crc
open Go Go.RowKit Gm
attribute [local go_sem ↓] Go.wp_at_zero Go.wp_at_succ

theorem ow11 {w : World} {base : Nat} {p : Option Addr} {n c : Nat} {L : List UInt8} (h : w.ownsRow base 5 1 (.slice p n c) n ([] ++ cellsB L)) (hn : L.length = n) : OwnB w base (.slice p n c) L := by
  subst hn; unfold OwnB; simpa using h
theorem putB_le (L : List UInt8) : (putB L).length ≤ 2056 := by
  unfold putB
  cases h : mayR L with
  | true => have := (mayR_iff L).1 h; rw [if_pos rfl, frm_length]; omega
  | false => simp
end Go.Proofs.YtelocbohiddpgaaGreatDoor.Crc
