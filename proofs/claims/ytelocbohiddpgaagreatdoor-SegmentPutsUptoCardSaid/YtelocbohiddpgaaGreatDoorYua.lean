/- Rows of bytes of one's own that are written through. -/
import Derived.Test.YtelocbohiddpgaaGreatDoorYg
set_option linter.unusedSimpArgs false
set_option linter.unusedVariables false
namespace Go.Proofs.YtelocbohiddpgaaGreatDoor.Crc
open Go Go.RowKit Gm
theorem flip_byte (c : UInt8) : ∃ d : UInt8, bits .xor .u8 (c.toNat : Int) 1 = (d.toNat : Int) := by
  refine ⟨c ^^^ 1, ?_⟩
  have := u8_xor_nat c.toNat 1 c.toNat_lt (by decide)
  rw [show ((1 : Nat) : Int) = 1 from rfl] at this
  rw [this, UInt8.toNat_xor]; rfl
/-- A slice that may be written through, whatever its bytes are; its block lies from base on. -/
def WrS (w : World) (base : Nat) (p : Option Addr) (n : Nat) : Prop := n = 0 ∨ ∃ g, p = some ⟨g, 0, none⟩ ∧ base ≤ g ∧ g < w.heap.size ∧ Wr8 w g n
theorem WrS.of {w : World} {base : Nat} {p : Option Addr} {n c : Nat} {L : List UInt8} (h : OwnB w base (.slice p n c) L) : WrS w base p n := by
  obtain ⟨p1, c1, e⟩ := h.form
  simp only [Value.slice.injEq] at e
  obtain ⟨-, e2, -⟩ := e
  by_cases hl : L = []
  · left; rw [e2, hl]; rfl
  · obtain ⟨g, cap, hv, hb, hlt, hw⟩ := h.row hl
    simp only [Value.slice.injEq] at hv
    obtain ⟨rfl, rfl, -⟩ := hv
    exact .inr ⟨g, rfl, hb, hlt, hw⟩
theorem WrS.set {w : World} {base : Nat} {p : Option Addr} {n : Nat} (h : WrS w base p n) (b j : Nat) (c : UInt8) : WrS (w.setCell ⟨b, j, none⟩ (byteV c)) base p n := by
  rcases h with h | ⟨g, h1, h2, h3, h4⟩
  · exact .inl h
  · exact .inr ⟨g, h1, h2, by simpa using h3, h4.set b j c⟩
theorem WrS.below {w w' : World} {base : Nat} {p : Option Addr} {n : Nat} (h : WrS w base p n) (hb : Below w.heap.size w w') : WrS w' base p n := by
  rcases h with h | ⟨g, h1, h2, h3, h4⟩
  · exact .inl h
  · exact .inr ⟨g, h1, h2, Nat.lt_of_lt_of_le h3 hb.size, h4.below h3 hb⟩
theorem set_below {w0 w : World} {B g i : Nat} (h : Below B w0 w) (hg : B ≤ g) (u : Value) : Below B w0 (w.setCell ⟨g, i, none⟩ u) := by
  refine ⟨h.os, h.tape, h.output, by have := h.size; simpa using this, fun k hk => ?_⟩
  rw [Below.heap_setCell _ _ _ _ (by rintro rfl; exact absurd hk (Nat.not_lt.2 hg))]
  exact h.block k hk
end Go.Proofs.YtelocbohiddpgaaGreatDoor.Crc
