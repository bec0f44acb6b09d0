/- Blocks of several cells; rows of attributes that a call owns. -/
import Derived.Test.YtgjniopcaahgfaaGreatDoorMg
set_option linter.unusedSimpArgs false
set_option linter.unusedVariables false
namespace Go.Proofs.YtgjniopcaahgfaaGreatDoor
open Go.RowKit

/-- Block g holds these cells. -/
def Blk (w : World) (g : Nat) (t : TypeId) (cs : Array Value) : Prop := w.heap[g]? = some (.cells cs t (0, 0))
section
variable {w w' : World} {g : Nat} {t : TypeId} {cs : Array Value}
theorem Blk.cell (h : Blk w g t cs) (i : Nat) {u : Value} (hi : cs[i]? = some u) : w.cell? ⟨g, i, none⟩ = some u := by
  unfold Blk at h
  simp [World.cell?, h, hi]
theorem Blk.free (h : Blk w g t cs) (i : Nat) : w.frozen? ⟨g, i, none⟩ = false := by
  unfold Blk at h
  simp [World.frozen?, h]
theorem Blk.lt (h : Blk w g t cs) : g < w.heap.size := lt_of_block h
theorem Blk.alloc (h : Blk w g t cs) (o : Obj) : Blk (w.alloc o) g t cs := (Below.heap_alloc w o g h.lt).trans h
theorem Blk.below {B : Nat} (h : Blk w g t cs) (hb : Below B w w') (hg : g < B) : Blk w' g t cs := (hb.block g hg).trans h
theorem Blk.grown {row : Option Nat} (h : Blk w g t cs) (hg : w.grownBy w' row) (hr : row ≠ some g) : Blk w' g t cs := (hg.block g h.lt (fun e => hr e.symm)).trans h
theorem Blk.new (w : World) (t : TypeId) (cs : Array Value) : Blk (w.alloc (.cells cs t)) w.heap.size t cs := heap_alloc_new w _
theorem Blk.other (h : Blk w g t cs) {b i : Nat} (hb : g ≠ b) (u : Value) : Blk (w.setCell ⟨b, i, none⟩ u) g t cs := (Below.heap_setCell _ _ _ _ hb).trans h
theorem Blk.apart {base : Nat} {e : TypeId} {size n : Nat} {u : Value} {xs : List Value} (hb : Blk w g t cs) (h : w.ownsRow base e size u n xs) (hne : e ≠ t) : u.ownBlock ≠ some g := by
  rcases h.2 with ⟨rfl, _⟩ | ⟨g', cap, cur, rfl, _, hh, _⟩
  · simp [Value.ownBlock]
  · intro he
    have : g' = g := by simpa [Value.ownBlock] using he
    subst this
    unfold Blk at hb
    rw [hh] at hb
    injection hb with hb
    injection hb with _ ht
    exact hne ht
end
theorem Blk.set1 {w : World} {g : Nat} {t : TypeId} {a b : Value} (h : Blk w g t #[a, b]) (u : Value) : Blk (w.setCell ⟨g, 1, none⟩ u) g t #[a, u] := by
  have hlt := h.lt
  have h' : w.heap[g] = .cells #[a, b] t (0, 0) := by
    have := h; unfold Blk at this; rw [Array.getElem?_eq_getElem hlt] at this; exact Option.some.inj this
  show (w.heap.modify g _)[g]? = _
  rw [Array.getElem?_eq_getElem (by simpa using hlt), Array.getElem_modify_self, h']
  rfl
theorem Blk.set0 {w : World} {g : Nat} {t : TypeId} {a b : Value} (h : Blk w g t #[a, b]) (u : Value) : Blk (w.setCell ⟨g, 0, none⟩ u) g t #[u, b] := by
  have hlt := h.lt
  have h' : w.heap[g] = .cells #[a, b] t (0, 0) := by
    have := h; unfold Blk at this; rw [Array.getElem?_eq_getElem hlt] at this; exact Option.some.inj this
  show (w.heap.modify g _)[g]? = _
  rw [Array.getElem?_eq_getElem (by simpa using hlt), Array.getElem_modify_self, h']
  rfl

theorem info34 : (Tryz.prog.info? 43).map (fun i => (i.zero, i.size, i.bytes)) = some (some (.agg #[.string ⟨#[]⟩, .int .i64 0, .int .i64 0, .string ⟨#[]⟩, .bool false]), 5, 56) := by kernel_rfl

/-- The cells of a row of attributes. -/
def cellsA (l : List Attr) : List Value := l.flatMap encA
theorem encA_length (a : Attr) : (encA a).length = 5 := rfl
theorem encA_one (a : Attr) : ∀ u ∈ encA a, u.oneCell' = true := by
  intro u hu
  simp only [encA, List.mem_cons, List.not_mem_nil, or_false] at hu
  rcases hu with rfl | rfl | rfl | rfl | rfl <;> rfl
theorem cellsA_length (l : List Attr) : (cellsA l).length = l.length * 5 := by
  induction l with
  | nil => rfl
  | cons a l ih => simp only [cellsA, List.flatMap_cons, List.length_append, List.length_cons] at *; rw [ih, encA_length]; omega
theorem cellsA_append (l r : List Attr) : cellsA (l ++ r) = cellsA l ++ cellsA r := by simp [cellsA]
theorem cellsA_one (l : List Attr) : ∀ u ∈ cellsA l, u.oneCell' = true := by
  intro u hu
  obtain ⟨a, _, h⟩ := List.mem_flatMap.1 hu
  exact encA_one a u h
theorem cellsA_at : ∀ (l : List Attr) (i j : Nat) (u : Value), i < l.length → (encA (l.getD i default))[j]? = some u → (cellsA l)[i * 5 + j]? = some u
  | [], i, j, u, h, _ => by simp at h
  | a :: l, 0, j, u, _, h => by
    have hj : j < 5 := by
      have := (List.getElem?_eq_some_iff.1 h).1
      simpa [encA] using this
    show (encA a ++ cellsA l)[0 * 5 + j]? = some u
    rw [Nat.zero_mul, Nat.zero_add, List.getElem?_append_left (by rw [encA_length]; exact hj)]
    simpa using h
  | a :: l, i + 1, j, u, hi, h => by
    show (encA a ++ cellsA l)[(i + 1) * 5 + j]? = some u
    rw [List.getElem?_append_right (by rw [encA_length]; omega), encA_length, show (i + 1) * 5 + j - 5 = i * 5 + j by omega]
    exact cellsA_at l i j u (by simpa using hi) (by simpa using h)

/-- A row that the call owns, as a slice of attributes. -/
def Own (w : World) (base : Nat) (v : Value) (l : List Attr) : Prop := w.ownsRow base 43 5 v l.length (cellsA l)
theorem Own.sl {w : World} {base : Nat} {v : Value} {l : List Attr} (h : Own w base v l) (hl : l.length ≤ 140737488355328) : Sl w v l := by
  rcases h.2 with ⟨rfl, h0⟩ | ⟨g, cap, cur, rfl, hb, hh, r⟩
  · have : l = [] := List.eq_nil_of_length_eq_zero h0
    subst this
    exact ⟨none, 0, 0, 0, rfl, fun h => absurd rfl h, fun i hi => by simp at hi, by simp⟩
  · refine ⟨some ⟨g, 0, none⟩, cap, g, 0, rfl, fun _ => ⟨rfl, lt_of_block hh⟩, fun i hi j u hu => ?_, hl⟩
    have h1 := cellsA_at l i j u hi hu
    have hj : i * 5 + j < l.length * 5 := by
      have := (List.getElem?_eq_some_iff.1 h1).1
      rwa [cellsA_length] at this
    have h2 := World.ownsRow.cellAt h (i * 5 + j) hj
    rw [show 0 + i * 5 + j = i * 5 + j by omega, h2, h1]
theorem Own.base {w : World} {base base' : Nat} {v : Value} {l : List Attr} (h : Own w base v l) (hb : base' ≤ base) : Own w base' v l := by
  refine ⟨h.1, ?_⟩
  rcases h.2 with h0 | ⟨g, cap, cur, hv, hg, r⟩
  · exact .inl h0
  · exact .inr ⟨g, cap, cur, hv, by omega, r⟩
theorem Own.below {w w' : World} {base : Nat} {v : Value} {l : List Attr} (h : Own w base v l) (hb : Below w.heap.size w w') : Own w' base v l := by
  refine ⟨h.1, ?_⟩
  rcases h.2 with h0 | ⟨g, cap, cur, hv, hg, hh, r⟩
  · exact .inl h0
  · exact .inr ⟨g, cap, cur, hv, hg, (hb.block g (lt_of_block hh)).trans hh, r⟩
theorem Own.nil (w : World) (base : Nat) : Own w base (.slice none 0 0) [] := World.ownsRow_nil _ _ _ _
end Go.Proofs.YtgjniopcaahgfaaGreatDoor
