/- Rows of values and of constraints in memory: those that come in, those that the call owns. -/
import Derived.Test.YtmbfhmjcphoddaaGreatDoorVl
set_option linter.unusedSimpArgs false
set_option linter.unusedVariables false
namespace Go.Proofs.YtmbfhmjcphoddaaGreatDoor.Gm
open Go Go.RowKit

section
variable {α : Type} {enc : α → List Value} {n : Nat}
theorem flat_length (hn : ∀ x, (enc x).length = n) : ∀ l : List α, (l.flatMap enc).length = l.length * n
  | [] => by simp
  | a :: l => by simp only [List.flatMap_cons, List.length_append, List.length_cons]; rw [flat_length hn l, hn, Nat.add_mul]; omega
theorem flat_one (h1 : ∀ x, ∀ u ∈ enc x, u.oneCell' = true) (l : List α) : ∀ u ∈ l.flatMap enc, u.oneCell' = true := by
  intro u hu
  obtain ⟨a, _, h⟩ := List.mem_flatMap.1 hu
  exact h1 a u h
theorem flat_take (hn : ∀ x, (enc x).length = n) (l : List α) (k : Nat) (hk : k ≤ l.length) : (l.flatMap enc).take (k * n) = (l.take k).flatMap enc := by
  have e : l.flatMap enc = (l.take k).flatMap enc ++ (l.drop k).flatMap enc := by rw [← List.flatMap_append, List.take_append_drop]
  have h2 : ((l.take k).flatMap enc).length = k * n := by rw [flat_length hn, List.length_take, Nat.min_eq_left hk]
  rw [e, ← h2, List.take_left']
  rfl
theorem flat_drop (hn : ∀ x, (enc x).length = n) (l : List α) (k : Nat) (hk : k ≤ l.length) : (l.flatMap enc).drop (k * n) = (l.drop k).flatMap enc := by
  have e : l.flatMap enc = (l.take k).flatMap enc ++ (l.drop k).flatMap enc := by rw [← List.flatMap_append, List.take_append_drop]
  have h2 : ((l.take k).flatMap enc).length = k * n := by rw [flat_length hn, List.length_take, Nat.min_eq_left hk]
  rw [e, ← h2, List.drop_left']
  rfl
end

section
variable {α : Type} [Inhabited α] {enc : α → List Value} {n : Nat} {w w' : World} {v : Value} {l : List α}
theorem RowIn.later (h : RowIn enc n w v l) (hb : Below w.heap.size w w') : RowIn enc n w' v l := by
  obtain ⟨p, cap, b, o, h1, h2, h3, h4, h5⟩ := h
  refine ⟨p, cap, b, o, h1, h2, fun hl => ⟨(h3 hl).1, Nat.lt_of_lt_of_le (h3 hl).2 hb.size⟩, h4, fun i hi j u hu => ?_⟩
  have hl : l ≠ [] := by rintro rfl; simp at hi
  rw [hb.cell (p := ⟨b, o + i * n + j, none⟩) (h3 hl).2]
  exact h5 i hi j u hu
theorem RowIn.form (h : RowIn enc n w v l) : ∃ p cap, v = .slice p l.length cap := by
  obtain ⟨p, cap, b, o, h1, _⟩ := h
  exact ⟨p, cap, h1⟩
theorem flat_at (hn : ∀ x, (enc x).length = n) : ∀ (l : List α) (i j : Nat) (u : Value), i < l.length → (enc (l.getD i default))[j]? = some u → (l.flatMap enc)[i * n + j]? = some u
  | [], i, j, u, h, _ => by simp at h
  | a :: l, 0, j, u, _, h => by
    have hj : j < n := by
      have := (List.getElem?_eq_some_iff.1 h).1
      simpa [hn] using this
    rw [List.flatMap_cons, Nat.zero_mul, Nat.zero_add, List.getElem?_append_left (by rw [hn]; exact hj)]
    simpa using h
  | a :: l, i + 1, j, u, hi, h => by
    rw [List.flatMap_cons, List.getElem?_append_right (by rw [hn, Nat.add_mul]; omega), hn, show (i + 1) * n + j - n = i * n + j by rw [Nat.add_mul]; omega]
    exact flat_at hn l i j u (by simpa using hi) (by simpa using h)
/-- A row that the call owns reads as a row. -/
theorem row_of_own {base : Nat} {e : TypeId} (hn : ∀ x, (enc x).length = n) (h : w.ownsRow base e n v l.length (l.flatMap enc)) : RowIn enc n w v l := by
  rcases h.2 with ⟨rfl, h0⟩ | ⟨g, cap, cur, rfl, hb, hh, hc, r⟩
  · have : l = [] := List.eq_nil_of_length_eq_zero h0
    subst this
    exact ⟨none, 0, 0, 0, rfl, by simp, fun h => absurd rfl h, fun _ _ => rfl, fun i hi => by simp at hi⟩
  · refine ⟨some ⟨g, 0, none⟩, cap, g, 0, rfl, hc, fun _ => ⟨rfl, lt_of_block hh⟩, fun _ h => (by cases h), fun i hi j u hu => ?_⟩
    have h1 := flat_at hn l i j u hi hu
    have hj : i * n + j < l.length * n := by
      have := (List.getElem?_eq_some_iff.1 h1).1
      rwa [flat_length hn] at this
    have h2 := World.ownsRow.cellAt h (i * n + j) hj
    rw [show 0 + i * n + j = i * n + j by omega, h2, h1]
theorem own_later {base : Nat} {e : TypeId} {xs : List Value} {m : Nat} (h : w.ownsRow base e n v m xs) (hb : Below w.heap.size w w') : w'.ownsRow base e n v m xs := by
  refine ⟨h.1, ?_⟩
  rcases h.2 with h0 | ⟨g, cap, cur, hv, hg, hh, r⟩
  · exact .inl h0
  · exact .inr ⟨g, cap, cur, hv, hg, (hb.block g (lt_of_block hh)).trans hh, r⟩
theorem own_base {base base' : Nat} {e : TypeId} {xs : List Value} {m : Nat} (h : w.ownsRow base e n v m xs) (hb : base' ≤ base) : w.ownsRow base' e n v m xs := by
  refine ⟨h.1, ?_⟩
  rcases h.2 with h0 | ⟨g, cap, cur, hv, hg, r⟩
  · exact .inl h0
  · exact .inr ⟨g, cap, cur, hv, by omega, r⟩
/-- Rows of unlike types never share a block. -/
theorem own_apart {base base' : Nat} {e e' : TypeId} {n' m m' : Nat} {v' : Value} {xs xs' : List Value} (h : w.ownsRow base e n v m xs) (h' : w.ownsRow base' e' n' v' m' xs') (hne : e ≠ e') : v.ownBlock = none ∨ v.ownBlock ≠ v'.ownBlock := by
  rcases h.2 with ⟨rfl, _⟩ | ⟨g, cap, cur, rfl, _, hh, _⟩
  · exact .inl rfl
  · right
    rcases h'.2 with ⟨rfl, _⟩ | ⟨g', cap', cur', rfl, _, hh', _⟩
    · simp [Value.ownBlock]
    · intro he
      have : g = g' := by simpa [Value.ownBlock] using he
      subst this
      rw [hh] at hh'
      injection hh' with hh'
      injection hh' with _ ht
      exact hne ht
end

/-- Values in memory. -/
def Vs (w : World) (v : Value) (l : List Vl) : Prop := RowIn encV 4 w v l ∧ l.length ≤ 3518437208883
/-- Constraints in memory, and their Sets. -/
def Cs (w : World) (v : Value) (l : List Cn) : Prop := RowIn encC 7 w v l ∧ l.length ≤ 1599289640401 ∧ ∀ c ∈ l, Vs w c.sv c.set
theorem Vs.later {w w' : World} {v : Value} {l : List Vl} (h : Vs w v l) (hb : Below w.heap.size w w') : Vs w' v l := ⟨h.1.later hb, h.2⟩
theorem Cs.later {w w' : World} {v : Value} {l : List Cn} (h : Cs w v l) (hb : Below w.heap.size w w') : Cs w' v l := ⟨h.1.later hb, h.2.1, fun c hc => (h.2.2 c hc).later hb⟩
theorem Cs.at {w : World} {v : Value} {l : List Cn} (h : Cs w v l) {i : Nat} (hi : i < l.length) : Vs w (l.getD i default).sv (l.getD i default).set := by
  rw [List.getD_eq_getElem?_getD, List.getElem?_eq_getElem hi]
  exact h.2.2 _ (List.getElem_mem hi)
/-- Rows that the call owns. -/
def OwnV (w : World) (base : Nat) (v : Value) (l : List Vl) : Prop := w.ownsRow base 98 4 v l.length (l.flatMap encV)
theorem OwnV.vs {w : World} {base : Nat} {v : Value} {l : List Vl} (h : OwnV w base v l) (hl : l.length ≤ 3518437208883) : Vs w v l := ⟨row_of_own encV_length h, hl⟩
theorem OwnV.later {w w' : World} {base : Nat} {v : Value} {l : List Vl} (h : OwnV w base v l) (hb : Below w.heap.size w w') : OwnV w' base v l := own_later h hb
theorem OwnV.base {w : World} {base base' : Nat} {v : Value} {l : List Vl} (h : OwnV w base v l) (hb : base' ≤ base) : OwnV w base' v l := own_base h hb
theorem OwnV.nil (w : World) (base : Nat) : OwnV w base (.slice none 0 0) [] := World.ownsRow_nil _ _ _ _
/-- The cells of element i. -/
def Four (w : World) (b o : Nat) (x : Vl) : Prop := w.cell? ⟨b, o, none⟩ = some (.int .i64 x.k) ∧ w.cell? ⟨b, o + 1, none⟩ = some (.int .i64 x.n) ∧ w.cell? ⟨b, o + 2, none⟩ = some (.string x.s) ∧ w.cell? ⟨b, o + 3, none⟩ = some (.bool x.b)
def Seven (w : World) (b o : Nat) (c : Cn) : Prop :=
  w.cell? ⟨b, o, none⟩ = some (.string c.nm) ∧ w.cell? ⟨b, o + 1, none⟩ = some (.int .i64 c.op) ∧ w.cell? ⟨b, o + 2, none⟩ = some (.int .i64 c.v.k) ∧ w.cell? ⟨b, o + 3, none⟩ = some (.int .i64 c.v.n) ∧
  w.cell? ⟨b, o + 4, none⟩ = some (.string c.v.s) ∧ w.cell? ⟨b, o + 5, none⟩ = some (.bool c.v.b) ∧ w.cell? ⟨b, o + 6, none⟩ = some (.slice c.sp c.set.length c.sc)
theorem four_at {w : World} {v : Value} {l : List Vl} (h : RowIn encV 4 w v l) {i : Nat} (hi : i < l.length) : ∃ p cap b o, v = .slice p l.length cap ∧ p = some ⟨b, o, none⟩ ∧ b < w.heap.size ∧ Four w b (o + i * 4) (l.getD i default) := by
  obtain ⟨p, cap, b, o, h1, _, h3, _, h5⟩ := h
  have hl : l ≠ [] := by rintro rfl; simp at hi
  exact ⟨p, cap, b, o, h1, (h3 hl).1, (h3 hl).2, h5 i hi 0 _ rfl, h5 i hi 1 _ rfl, h5 i hi 2 _ rfl, h5 i hi 3 _ rfl⟩
theorem seven_at {w : World} {v : Value} {l : List Cn} (h : RowIn encC 7 w v l) {i : Nat} (hi : i < l.length) : ∃ p cap b o, v = .slice p l.length cap ∧ p = some ⟨b, o, none⟩ ∧ b < w.heap.size ∧ Seven w b (o + i * 7) (l.getD i default) := by
  obtain ⟨p, cap, b, o, h1, _, h3, _, h5⟩ := h
  have hl : l ≠ [] := by rintro rfl; simp at hi
  exact ⟨p, cap, b, o, h1, (h3 hl).1, (h3 hl).2, h5 i hi 0 _ rfl, h5 i hi 1 _ rfl, h5 i hi 2 _ rfl, h5 i hi 3 _ rfl, h5 i hi 4 _ rfl, h5 i hi 5 _ rfl, h5 i hi 6 _ rfl⟩
theorem Four.later {w w' : World} {b o : Nat} {x : Vl} (h : Four w b o x) (hb : Below w.heap.size w w') : Four w' b o x :=
  ⟨cell_later hb h.1, cell_later hb h.2.1, cell_later hb h.2.2.1, cell_later hb h.2.2.2⟩
theorem Seven.later {w w' : World} {b o : Nat} {c : Cn} (h : Seven w b o c) (hb : Below w.heap.size w w') : Seven w' b o c :=
  ⟨cell_later hb h.1, cell_later hb h.2.1, cell_later hb h.2.2.1, cell_later hb h.2.2.2.1, cell_later hb h.2.2.2.2.1, cell_later hb h.2.2.2.2.2.1, cell_later hb h.2.2.2.2.2.2⟩
theorem infoV : (Tryz.prog.info? 98).map (fun i => (i.zero, i.size, i.bytes)) = some (some (.agg #[.int .i64 0, .int .i64 0, .string ⟨#[]⟩, .bool false]), 4, 40) := by kernel_rfl
end Go.Proofs.YtmbfhmjcphoddaaGreatDoor.Gm
