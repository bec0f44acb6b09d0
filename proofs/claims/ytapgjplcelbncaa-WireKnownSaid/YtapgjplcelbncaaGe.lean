/- bytes.Equal; a slice of bytes as a string. -/
import Derived.Test.YtapgjplcelbncaaGb
import Derived.Laws.BytesArg
import Derived.Lib.SlBytesConst
set_option linter.unusedSimpArgs false
set_option linter.unusedVariables false
namespace Go.Proofs.Ytapgjplcelbncaa.Gm
open Go Go.RowKit
attribute [local go_sem ↓] Go.wp_at_zero Go.wp_at_succ

theorem conv_bs {w : World} {v : Value} {L : List UInt8} (h : Bs w v L) : ∀ dst, Try.prog.underlying dst = some .string → (convert 22 dst v).run Try.prog w = .ok (.string ⟨L.toArray⟩) w := by
  intro dst hd
  by_cases hl : L = []
  · subst hl
    obtain ⟨p, cap, rfl⟩ := h.form
    rw [run_convert_bytes_string w 22 dst 5 p _ cap Try.underlying22 Try.underlying5 hd]
    cases p <;> simp [Conv.bytesToString, loadCells]
    all_goals rfl
  · rcases h with ⟨_, h2⟩ | ⟨a, cap, rfl, h2, h3⟩
    · exact absurd h2 hl
    · obtain ⟨b, o, rfl, hb, hc⟩ := h3 hl
      have := run_convert_bytes_arg (P := Try.prog) (w := w) 22 5 Try.underlying22 Try.underlying5 b o L.length cap (L.map fun c => (c.toNat : Int)) (by simp) (fun i hi => by
        rw [hc i hi]
        simp [List.getD_eq_getElem?_getD, List.getElem?_eq_getElem hi, byteV]) dst hd
      rw [this]
      simp [strOfNums, Function.comp_def]
/-- '[]byte(..)' of a constant: its bytes, in a block that bears the run-time's mark. -/
theorem bs_const (w : World) (L : List UInt8) (cs : Array Value) (n : Nat) (fr : Nat × Nat) (hc : cs = (cellsB L).toArray) (hn : L.length = n) : Bs (w.alloc (.cells cs 5 fr)) (.slice (some ⟨w.heap.size, 0, none⟩) n n) L := by
  subst hc hn
  refine .inr ⟨⟨w.heap.size, 0, none⟩, L.length, rfl, Nat.le_refl _, fun _ => ⟨w.heap.size, 0, rfl, by simp, fun i hi => ?_⟩⟩
  have h := World.cell?_alloc_mark w (cellsB L).toArray 5 fr (0 + i)
  rw [h, Nat.zero_add]
  rw [← cellsB_at hi]; simp
theorem conv_const (w : World) (C : Array Value) (n c : Nat) : (convert 22 22 (.slice (some ⟨w.heap.size, 0, none⟩) n c)).run Try.prog (w.alloc (.cells C 5)) = .ok (.slice (some ⟨w.heap.size, 0, none⟩) n c) (w.alloc (.cells C 5 (C.size, C.size + 1))) := Lib.run_convert_bytes_const (P := Try.prog) w 22 5 C n c Try.underlying22 Try.underlying5
theorem equal_any (v u : Value) (L S : List UInt8) (w : World) (hB : Bs w v L) (hS : Bs w u S) : Calls Try.prog 12 #[v, u] w (Quits (.bool (L == S)) w) := by
  have h1 := conv_bs hB 9 Try.underlying9
  have h2 := conv_bs hS 9 Try.underlying9
  obtain ⟨p, cap, rfl⟩ := hB.form
  obtain ⟨q, capq, rfl⟩ := hS.form
  clear hB hS
  go_enter Try.func12, Try.ntmps12
  go_wp2_with fail
  go_ret
  exact ⟨rfl, rfl⟩
end Go.Proofs.Ytapgjplcelbncaa.Gm
