/- A slice of bytes as a string. -/
import Derived.Test.YtmbfhmjcphoddaaGreatDoorGb
import Derived.Laws.BytesArg
set_option linter.unusedSimpArgs false
set_option linter.unusedVariables false
namespace Go.Proofs.YtmbfhmjcphoddaaGreatDoor.Gm
open Go Go.RowKit
attribute [local go_sem ↓] Go.wp_at_zero Go.wp_at_succ

theorem conv_bs {w : World} {v : Value} {L : List UInt8} (h : Bs w v L) : ∀ dst, Tryz.prog.underlying dst = some .string → (convert 25 dst v).run Tryz.prog w = .ok (.string ⟨L.toArray⟩) w := by
  intro dst hd
  by_cases hl : L = []
  · subst hl
    obtain ⟨p, cap, rfl⟩ := h.form
    rw [run_convert_bytes_string w 25 dst 5 p _ cap Tryz.underlying25 Tryz.underlying5 hd]
    cases p <;> simp [Conv.bytesToString, loadCells]
    all_goals rfl
  · rcases h with ⟨_, h2⟩ | ⟨a, cap, rfl, h2, h3⟩
    · exact absurd h2 hl
    · obtain ⟨b, o, rfl, hb, hc⟩ := h3 hl
      have := run_convert_bytes_arg (P := Tryz.prog) (w := w) 25 5 Tryz.underlying25 Tryz.underlying5 b o L.length cap (L.map fun c => (c.toNat : Int)) (by simp) (fun i hi => by
        rw [hc i hi]
        simp [List.getD_eq_getElem?_getD, List.getElem?_eq_getElem hi, byteV]) dst hd
      rw [this]
      simp [strOfNums, Function.comp_def]
end Go.Proofs.YtmbfhmjcphoddaaGreatDoor.Gm
