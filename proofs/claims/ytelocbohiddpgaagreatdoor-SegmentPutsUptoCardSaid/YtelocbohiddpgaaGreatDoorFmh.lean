/- Layer 11: rows of records in memory; the document's Put, Size, Same. -/
import Derived.Test.YtelocbohiddpgaaGreatDoorFmg
import Derived.Test.YtelocbohiddpgaaGreatDoorYi
import Derived.BigQuiet
set_option linter.unusedSimpArgs false
set_option linter.unusedVariables false
namespace Go.Proofs.YtelocbohiddpgaaGreatDoor.Crc
open Go Go.RowKit Gm
attribute [local go_sem ↓] Go.wp_at_zero Go.wp_at_succ

/-- A row of records in memory, to be read. -/
def RowR (w : World) (v : Value) (l : List (List UInt8)) : Prop := ∃ p cap, v = .slice p l.length cap ∧ ∀ k, k < l.length → ∃ b o vj, p = some ⟨b, o, none⟩ ∧ b < w.heap.size ∧ w.cell? ⟨b, o + k, none⟩ = some vj ∧ Bs w vj (l.getD k [])
theorem RowR.later {w w' : World} {v : Value} {l : List (List UInt8)} (h : RowR w v l) (hb : Below w.heap.size w w') : RowR w' v l := by
  obtain ⟨p, cap, e, hc⟩ := h
  refine ⟨p, cap, e, fun k hk => ?_⟩
  obtain ⟨b, o, vj, h1, h2, h3, h4⟩ := hc k hk
  exact ⟨b, o, vj, h1, Nat.lt_of_lt_of_le h2 hb.size, (hb.cell (p := ⟨b, o + k, none⟩) h2).trans h3, h4.below hb⟩
theorem RowR.form {w : World} {v : Value} {l : List (List UInt8)} (h : RowR w v l) : ∃ p cap, v = .slice p l.length cap := by
  obtain ⟨p, cap, e, _⟩ := h
  exact ⟨p, cap, e⟩
theorem RowR.nil (w : World) : RowR w (.slice none 0 0) [] := ⟨none, 0, rfl, fun k hk => absurd hk (Nat.not_lt_zero k)⟩
theorem getD_at11 {α : Type} {l : List α} {k : Nat} {d : α} (h : k < l.length) : l.getD k d = l[k] := by rw [List.getD_eq_getElem?_getD, List.getElem?_eq_getElem h]; rfl
/-- Of an own row, whose slices read. -/
theorem rowR_own {w : World} {base : Nat} {v : Value} {xs : List Fx} (h : w.ownsRow base 23 1 v xs.length (xs.map Fx.v)) (hr : ∀ x ∈ xs, Bs w x.v x.r) : RowR w v (xs.map Fx.r) := by
  obtain ⟨p, c, rfl⟩ := own_shape h
  refine ⟨p, c, by rw [List.length_map], fun k hk => ?_⟩
  rw [List.length_map] at hk
  rcases h.2 with ⟨e, h0⟩ | ⟨gn, cap, cur, e, hbb, hh, _⟩
  · omega
  · simp only [Value.slice.injEq] at e
    obtain ⟨rfl, _, rfl⟩ := e
    refine ⟨gn, 0, xs[k].v, rfl, lt_of_block hh, ?_, ?_⟩
    · rw [Nat.zero_add, World.ownsRow.cellAt h k (by omega), List.getElem?_map, List.getElem?_eq_getElem hk]; rfl
    · rw [getD_at11 (by rw [List.length_map]; exact hk), List.getElem_map]
      exact hr _ (List.getElem_mem hk)
theorem idx_r (p : Option Addr) (b o n cap k : Nat) (hp : p = some ⟨b, o, none⟩) (hk : k < n) (W : World) : (Instr.indexAt 74 (.slice p n cap) (.int .i64 (k : Int))).run Tryz.prog W = .ok (.pointer (some ⟨b, o + k, none⟩)) W := by subst hp; go_simp
theorem same_recs {l m : List (List UInt8)} (hl : l.length = m.length) (h : ∀ k, k < l.length → l.getD k [] = m.getD k []) : l = m := by
  apply List.ext_getElem hl
  intro k h1 h2
  have := h k h1
  rwa [getD_at11 h1, getD_at11 h2] at this
end Go.Proofs.YtelocbohiddpgaaGreatDoor.Crc
