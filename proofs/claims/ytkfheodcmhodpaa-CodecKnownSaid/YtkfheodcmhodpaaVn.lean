/- Rows of attributes that a call owns. -/
import Derived.Test.YtkfheodcmhodpaaVk
/- The document's reader: done. -/
set_option linter.unusedSimpArgs false
set_option linter.unusedVariables false
namespace Go.Proofs.Ytkfheodcmhodpaa.Gm
open Go Go.RowKit
attribute [local go_sem ↓] Go.wp_at_zero Go.wp_at_succ

/-- Was all read, and nothing is left? -/
def doneR : Option (List UInt8) → Bool
  | some L => L.isEmpty
  | none => false
set_option maxHeartbeats 4000000 in
set_option maxRecDepth 20000 in
theorem rdoneX (R b : Nat) (o : Option (List UInt8)) (w : World) (hS : Rx w R b o) : Calls Try.prog 44 #[.pointer (some ⟨R, 0, none⟩)] w fun e w' => e = .returned (.bool (doneR o)) ∧ w' = w := by
  cases o with
  | none =>
    obtain ⟨p, n, c, h⟩ := hS
    have c0 := h.cell 0 (u := .slice p n c) rfl
    have c1 := h.cell 1 (u := .bool true) rfl
    clear h
    go_enter Try.func44, Try.ntmps44
    go_wp2_with fail
    go_ret
    exact ⟨rfl, rfl⟩
  | some L =>
    obtain ⟨v, h⟩ := hS
    obtain ⟨p, cap, rfl⟩ := h.bs.form
    have c0 := h.rq.cell 0 (u := .slice p L.length cap) rfl
    have c1 := h.rq.cell 1 (u := .bool false) rfl
    have hd : Hid (doneR (some L) = ((L.length : Int) == 0)) := Lib.hid (by cases L with
      | nil => rfl
      | cons c L =>
        rw [show doneR (some (c :: L)) = false from rfl]
        symm
        rw [beq_eq_false_iff_ne, List.length_cons]
        omega)
    clear h
    obtain ⟨N, hN⟩ : ∃ N, L.length = N := ⟨_, rfl⟩
    rw [hN] at hd c0
    go_enter Try.func44, Try.ntmps44
    go_wp2_with fail
    go_ret
    exact ⟨by rw [hd.out]; first | rfl | simp, rfl⟩
end Go.Proofs.Ytkfheodcmhodpaa.Gm
set_option linter.unusedSimpArgs false
set_option linter.unusedVariables false
namespace Go.Proofs.Ytkfheodcmhodpaa.Gm
open Go Go.RowKit
attribute [local go_sem ↓] Go.wp_at_zero Go.wp_at_succ

theorem Blk.set1 {w : World} {g : Nat} {t : TypeId} {a b : Value} (h : Blk w g t #[a, b]) (u : Value) : Blk (w.setCell ⟨g, 1, none⟩ u) g t #[a, u] := by
  have hlt := h.lt
  have h' : w.heap[g] = .cells #[a, b] t (0, 0) := by
    have := h; unfold Blk at this; rw [Array.getElem?_eq_getElem hlt] at this; exact Option.some.inj this
  show (w.heap.modify g _)[g]? = _
  rw [Array.getElem?_eq_getElem (by simpa using hlt), Array.getElem_modify_self, h']
  rfl
theorem Blk.set0 {w : World} {g : Nat} {t : TypeId} {a b : Value} (h : Blk w g t #[a, b]) (u : Value) : Blk (w.setCell ⟨g, 0, none⟩ u) g t #[u, b] := by
  have hlt := h.lt
  have h' : w.heap[g] = .cells #[a, b] t (0, 0) := by
    have := h; unfold Blk at this; rw [Array.getElem?_eq_getElem hlt] at this; exact Option.some.inj this
  show (w.heap.modify g _)[g]? = _
  rw [Array.getElem?_eq_getElem (by simpa using hlt), Array.getElem_modify_self, h']
  rfl

theorem info34 : (Try.prog.info? 81).map (fun i => (i.zero, i.size, i.bytes)) = some (some (.agg #[.string ⟨#[]⟩, .int .i64 0, .int .i64 0, .string ⟨#[]⟩, .bool false]), 5, 56) := by kernel_rfl

/-- The cells of a row of attributes. -/
def cellsA (l : List Attr) : List Value := l.flatMap encA
theorem encA_length (a : Attr) : (encA a).length = 5 := rfl
theorem encA_one (a : Attr) : ∀ u ∈ encA a, u.oneCell' = true := by
  intro u hu
  simp only [encA, List.mem_cons, List.not_mem_nil, or_false] at hu
  rcases hu with rfl | rfl | rfl | rfl | rfl <;> rfl
theorem cellsA_length (l : List Attr) : (cellsA l).length = l.length * 5 := by
  induction l with
  | nil => rfl
  | cons a l ih => simp only [cellsA, List.flatMap_cons, List.length_append, List.length_cons] at *; rw [ih, encA_length]; omega
theorem cellsA_append (l r : List Attr) : cellsA (l ++ r) = cellsA l ++ cellsA r := by simp [cellsA]
theorem cellsA_one (l : List Attr) : ∀ u ∈ cellsA l, u.oneCell' = true := by
  intro u hu
  obtain ⟨a, _, h⟩ := List.mem_flatMap.1 hu
  exact encA_one a u h
theorem cellsA_at : ∀ (l : List Attr) (i j : Nat) (u : Value), i < l.length → (encA (l.getD i default))[j]? = some u → (cellsA l)[i * 5 + j]? = some u
  | [], i, j, u, h, _ => by simp at h
  | a :: l, 0, j, u, _, h => by
    have hj : j < 5 := by
      have := (List.getElem?_eq_some_iff.1 h).1
      simpa [encA] using this
    show (encA a ++ cellsA l)[0 * 5 + j]? = some u
    rw [Nat.zero_mul, Nat.zero_add, List.getElem?_append_left (by rw [encA_length]; exact hj)]
    simpa using h
  | a :: l, i + 1, j, u, hi, h => by
    show (encA a ++ cellsA l)[(i + 1) * 5 + j]? = some u
    rw [List.getElem?_append_right (by rw [encA_length]; omega), encA_length, show (i + 1) * 5 + j - 5 = i * 5 + j by omega]
    exact cellsA_at l i j u (by simpa using hi) (by simpa using h)

/-- A row that the call owns, as a slice of attributes. -/
def Own (w : World) (base : Nat) (v : Value) (l : List Attr) : Prop := w.ownsRow base 81 5 v l.length (cellsA l)
theorem Own.sl {w : World} {base : Nat} {v : Value} {l : List Attr} (h : Own w base v l) (hl : l.length ≤ 140737488355328) : Sl w v l := by
  rcases h.2 with ⟨rfl, h0⟩ | ⟨g, cap, cur, rfl, hb, hh, r⟩
  · have : l = [] := List.eq_nil_of_length_eq_zero h0
    subst this
    exact ⟨none, 0, 0, 0, rfl, fun h => absurd rfl h, fun i hi => by simp at hi, by simp⟩
  · refine ⟨some ⟨g, 0, none⟩, cap, g, 0, rfl, fun _ => ⟨rfl, lt_of_block hh⟩, fun i hi j u hu => ?_, hl⟩
    have h1 := cellsA_at l i j u hi hu
    have hj : i * 5 + j < l.length * 5 := by
      have := (List.getElem?_eq_some_iff.1 h1).1
      rwa [cellsA_length] at this
    have h2 := World.ownsRow.cellAt h (i * 5 + j) hj
    rw [show 0 + i * 5 + j = i * 5 + j by omega, h2, h1]
theorem Own.base {w : World} {base base' : Nat} {v : Value} {l : List Attr} (h : Own w base v l) (hb : base' ≤ base) : Own w base' v l := by
  refine ⟨h.1, ?_⟩
  rcases h.2 with h0 | ⟨g, cap, cur, hv, hg, r⟩
  · exact .inl h0
  · exact .inr ⟨g, cap, cur, hv, by omega, r⟩
theorem Own.below {w w' : World} {base : Nat} {v : Value} {l : List Attr} (h : Own w base v l) (hb : Below w.heap.size w w') : Own w' base v l := by
  refine ⟨h.1, ?_⟩
  rcases h.2 with h0 | ⟨g, cap, cur, hv, hg, hh, r⟩
  · exact .inl h0
  · exact .inr ⟨g, cap, cur, hv, hg, (hb.block g (lt_of_block hh)).trans hh, r⟩
theorem Own.nil (w : World) (base : Nat) : Own w base (.slice none 0 0) [] := World.ownsRow_nil _ _ _ _
theorem own_form {w : World} {base : Nat} {v : Value} {l : List Attr} (h : Own w base v l) : ∃ p cap, v = .slice p l.length cap := by
  rcases h.2 with ⟨rfl, h0⟩ | ⟨g, cap, cur, rfl, _⟩
  · exact ⟨none, 0, by rw [h0]⟩
  · exact ⟨_, _, rfl⟩
theorem own_setCell {w : World} {base : Nat} {v : Value} {l : List Attr} {g i : Nat} {t : TypeId} {cs : Array Value} (h : Own w base v l) (hb : Blk w g t cs) (ht : 81 ≠ t) (u : Value) : Own (w.setCell ⟨g, i, none⟩ u) base v l :=
  ownsRow_setCell_other h (hb.apart h ht) u
theorem news5 (w : World) (t : TypeId) (H : Nat) (hH : w.heap.size = H) (a : Attr) : ∀ (j : Nat) (u : Value), (encA a)[j]? = some u → (w.alloc (.cells #[.string a.nm, .int .i64 a.k, .int .i64 a.n, .string a.s, .bool a.b] t)).cell? ((⟨H, 0, none⟩ : Addr).add j) = some u := by
  subst hH
  exact World.news_of_block (cs := #[.string a.nm, .int .i64 a.k, .int .i64 a.n, .string a.s, .bool a.b]) (heap_alloc_new w _)
end Go.Proofs.Ytkfheodcmhodpaa.Gm
