/- Bytes of a constant. -/
import Derived.Test.YtmbfhmjcphoddaaGreatDoorGc
import Derived.Lib.SlBytesConst
set_option linter.unusedSimpArgs false
set_option linter.unusedVariables false
namespace Go.Proofs.YtmbfhmjcphoddaaGreatDoor.Gm
open Go Go.RowKit
attribute [local go_sem ↓] Go.wp_at_zero Go.wp_at_succ

/-- '[]byte(..)' of a constant: its bytes, in a block that bears the run-time's mark. -/
theorem bs_const (w : World) (L : List UInt8) (cs : Array Value) (n : Nat) (fr : Nat × Nat) (hc : cs = (cellsB L).toArray) (hn : L.length = n) : Bs (w.alloc (.cells cs 5 fr)) (.slice (some ⟨w.heap.size, 0, none⟩) n n) L := by
  subst hc hn
  refine .inr ⟨⟨w.heap.size, 0, none⟩, L.length, rfl, Nat.le_refl _, fun _ => ⟨w.heap.size, 0, rfl, by simp, fun i hi => ?_⟩⟩
  have h := World.cell?_alloc_mark w (cellsB L).toArray 5 fr (0 + i)
  rw [h, Nat.zero_add]
  rw [← cellsB_at hi]; simp
theorem conv_const (w : World) (C : Array Value) (n c : Nat) : (convert 25 25 (.slice (some ⟨w.heap.size, 0, none⟩) n c)).run Tryz.prog (w.alloc (.cells C 5)) = .ok (.slice (some ⟨w.heap.size, 0, none⟩) n c) (w.alloc (.cells C 5 (C.size, C.size + 1))) := Lib.run_convert_bytes_const (P := Tryz.prog) w 25 5 C n c Tryz.underlying25 Tryz.underlying5
end Go.Proofs.YtmbfhmjcphoddaaGreatDoor.Gm
