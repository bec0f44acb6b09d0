/- Items, gaps and pages in memory; rows that a call only reads. -/
import Derived.Test.YtkfheodcmhodpaaTa
set_option linter.unusedSimpArgs false
set_option linter.unusedVariables false
namespace Go.Proofs.Ytkfheodcmhodpaa.Gm
open Go Go.RowKit

/-- A row that lies ahead of base: elements of n cells each, as enc lays them. -/
def RowL {α : Type} [Inhabited α] (enc : α → List Value) (n base : Nat) (w : World) (v : Value) (l : List α) : Prop :=
  ∃ (p : Option Addr) (cap b o : Nat), v = .slice p l.length cap ∧ (l ≠ [] → p = some ⟨b, o, none⟩ ∧ b < base) ∧ ∀ i, i < l.length → ∀ j u, (enc (l.getD i default))[j]? = some u → w.cell? ⟨b, o + i * n + j, none⟩ = some u
theorem rowL_in {α : Type} [Inhabited α] {enc : α → List Value} {n : Nat} {w : World} {v : Value} {l : List α} (h : RowIn enc n w v l) : RowL enc n w.heap.size w v l := by
  obtain ⟨p, cap, b, o, h1, _, h3, _, h5⟩ := h
  exact ⟨p, cap, b, o, h1, h3, h5⟩
theorem rowL_sl {w : World} {v : Value} {l : List Attr} (h : Sl w v l) : RowL encA 5 w.heap.size w v l := by
  obtain ⟨p, cap, b, o, h1, h2, h3, _⟩ := h
  exact ⟨p, cap, b, o, h1, h2, h3⟩
theorem RowL.below {α : Type} [Inhabited α] {enc : α → List Value} {n base : Nat} {w w' : World} {v : Value} {l : List α} (h : RowL enc n base w v l) (hb : Below base w w') : RowL enc n base w' v l := by
  obtain ⟨p, cap, b, o, h1, h2, h3⟩ := h
  refine ⟨p, cap, b, o, h1, h2, fun i hi j u hu => ?_⟩
  have hl : l ≠ [] := by rintro rfl; simp at hi
  rw [hb.cell (p := ⟨b, o + i * n + j, none⟩) (h2 hl).2]
  exact h3 i hi j u hu
theorem flat_next {α : Type} [Inhabited α] (form : α → List UInt8) {l : List α} {k : Nat} (h : k < l.length) : (l.take (k + 1)).flatMap form = (l.take k).flatMap form ++ form (l.getD k default) := by
  rw [List.take_succ_eq_append_getElem h, List.flatMap_append, List.getD_eq_getElem?_getD, List.getElem?_eq_getElem h]
  simp
theorem fits_next {α : Type} [Inhabited α] {form : α → List UInt8} {l : List α} {k : Nat} (h : k < l.length) {L : List UInt8} (hF : Fits L (formN l.length ++ l.flatMap form)) : Fits (L ++ (formN l.length ++ (l.take k).flatMap form)) (form (l.getD k default)) := by
  have e : l.flatMap form = (l.take (k + 1)).flatMap form ++ (l.drop (k + 1)).flatMap form := by rw [← List.flatMap_append, List.take_append_drop]
  rw [flat_next form h] at e
  unfold Fits at *
  rw [e] at hF
  simp only [List.length_append] at *
  omega
theorem WrC.form {w : World} {base : Nat} {q : Value} {L : List UInt8} (h : WrC w base q L) : ∃ g, q = .pointer (some ⟨g, 0, none⟩) := by
  obtain ⟨g, v, h1, _⟩ := h
  exact ⟨g, h1⟩

/-- An item, its attributes as they lie in memory. -/
structure Im where
  n : Nat
  t : Nat
  key : ByteArray
  ap : Option Addr
  ac : Nat
  at_ : List Attr
instance : Inhabited Im := ⟨⟨0, 0, ⟨#[]⟩, none, 0, []⟩⟩
abbrev Im.av (x : Im) : Value := .slice x.ap x.at_.length x.ac
def encI (x : Im) : List Value := [.int .u64 x.n, .int .u64 x.t, .string x.key, .slice x.ap x.at_.length x.ac]
abbrev ii (x : Im) : Value := .agg #[.int .u64 x.n, .int .u64 x.t, .string x.key, .slice x.ap x.at_.length x.ac]
/-- What an item is, wherever its attributes lie. -/
def toIt (x : Im) : It := (x.n, x.t, (x.key, x.at_))
def encG (g : Gp) : List Value := [.int .u64 g.1, .int .u64 g.2]
abbrev gg (g : Gp) : Value := .agg #[.int .u64 g.1, .int .u64 g.2]
theorem encI_length (x : Im) : (encI x).length = 4 := rfl
theorem encG_length (x : Gp) : (encG x).length = 2 := rfl
theorem encI_one (x : Im) : ∀ u ∈ encI x, u.oneCell' = true := by
  intro u hu
  simp only [encI, List.mem_cons, List.not_mem_nil, or_false] at hu
  rcases hu with rfl | rfl | rfl | rfl <;> rfl
theorem encG_one (x : Gp) : ∀ u ∈ encG x, u.oneCell' = true := by
  intro u hu
  simp only [encG, List.mem_cons, List.not_mem_nil, or_false] at hu
  rcases hu with rfl | rfl <;> rfl
/-- A constraint, wherever its Set lies. -/
def toCz (c : Cn) : Cz := ((c.nm, c.op.toNat), c.v, c.set)
end Go.Proofs.Ytkfheodcmhodpaa.Gm
