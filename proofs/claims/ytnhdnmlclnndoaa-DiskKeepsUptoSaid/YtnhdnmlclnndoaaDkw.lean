/- Layer 10: slices.DeleteFunc of names. -/
import Derived.Test.YtnhdnmlclnndoaaDkv
import Derived.Laws.IdiomCopy
set_option linter.unusedSimpArgs false
set_option linter.unusedVariables false
namespace Go.Proofs.Ytnhdnmlclnndoaa.Gm
open Go Go.RowKit Go.Maps
attribute [local go_sem ↓] Go.wp_at_zero Go.wp_at_succ
variable {B : Nat}
theorem setCells_heap (g : Nat) (t : TypeId) : ∀ (vs : List Value) (o : Nat) (w : World) (cur : Array Value), w.heap[g]? = some (.cells cur t (0, 0)) → o + vs.length ≤ cur.size →
    ∃ cur', (w.setCells g o vs).heap[g]? = some (.cells cur' t (0, 0)) ∧ cur'.size = cur.size ∧ ∀ j, cur'[j]? = if o ≤ j ∧ j < o + vs.length then vs[j - o]? else cur[j]?
  | [], o, w, cur, h, _ => ⟨cur, h, rfl, fun j => by rw [if_neg (by simp only [List.length_nil]; omega)]⟩
  | v :: r, o, w, cur, h, hl => by
    simp only [List.length_cons] at hl
    have h1 := Joins.block_setCell (i := o) h v
    obtain ⟨cur', h2, h3, h4⟩ := setCells_heap g t r (o + 1) (w.setCell ⟨g, o, none⟩ v) (cur.setIfInBounds o v) h1 (by rw [Array.size_setIfInBounds]; omega)
    refine ⟨cur', h2, by rw [h3, Array.size_setIfInBounds], fun j => ?_⟩
    rw [h4 j]
    simp only [List.length_cons]
    by_cases hj : j = o
    · subst hj
      rw [if_neg (by omega), if_pos (by omega), Array.getElem?_setIfInBounds_self_of_lt (by omega)]
      simp
    · by_cases hj2 : o + 1 ≤ j ∧ j < o + 1 + r.length
      · rw [if_pos hj2, if_pos (by omega), show j - o = (j - (o + 1)) + 1 by omega]; simp
      · rw [if_neg hj2, if_neg (by omega), Array.getElem?_setIfInBounds_ne (by omega)]
theorem setCells_grown8 (g : Nat) : ∀ (vs : List Value) (o : Nat) (w : World), w.grownBy (w.setCells g o vs) (some g)
  | [], o, w => World.grownBy.refl _ _
  | v :: r, o, w => (grown_set (World.grownBy.refl w (some g)) v).trans (setCells_grown8 g r (o + 1) (w.setCell ⟨g, o, none⟩ v))
abbrev keptS (p : Nm → Bool) (L : List Nm) : List Nm := L.filter fun o => !p o
/-- A row in work: its first i names are those that are kept of the first j; from j on it is as it was. -/
def DelAt (p : Nm → Bool) (L : List Nm) (g cap i j : Nat) (w : World) : Prop :=
  ∃ cur, w.heap[g]? = some (.cells cur 9 (0, 0)) ∧ cur.size = cap ∧ i = (keptS p (L.take j)).length ∧ cur.toList.take i = (keptS p (L.take j)).map encStr ∧ ∀ t, j ≤ t → t < L.length → cur[t]? = (L.map encStr)[t]?
theorem DelAt.later {p : Nm → Bool} {L : List Nm} {g cap i j : Nat} {w w' : World} (h : DelAt p L g cap i j w) (hb : Below w.heap.size w w') : DelAt p L g cap i j w' := by
  obtain ⟨cur, h1, r⟩ := h
  exact ⟨cur, (hb.block g (lt_of_block h1)).trans h1, r⟩
theorem DelAt.le {p : Nm → Bool} {L : List Nm} {g cap i j : Nat} {w : World} (h : DelAt p L g cap i j w) : i ≤ j := by
  obtain ⟨cur, _, _, rfl, _⟩ := h
  exact Nat.le_trans (List.length_filter_le _ _) (by rw [List.length_take]; omega)
theorem kept_take (p : Nm → Bool) (L : List Nm) {j : Nat} (hj : j < L.length) : keptS p (L.take (j + 1)) = keptS p (L.take j) ++ if p (L.getD j []) then [] else [L.getD j []] := by
  unfold keptS
  rw [List.take_add_one, List.getElem?_eq_getElem hj, List.filter_append, getD_at hj]
  congr 1
  generalize L[j] = o
  cases h : p o <;> simp [h]
theorem DelAt.start {p : Nm → Bool} {L : List Nm} {g cap : Nat} {w : World} (h : OwnS w B (.slice (some ⟨g, 0, none⟩) L.length cap) L) (hf : firstOf p L < L.length) : DelAt p L g cap (firstOf p L) (firstOf p L + 1) w := by
  have h0 := h.1
  have hx := h.2
  rcases hx with h | ⟨g', cap', cur, e, _, hh, hn, _, hs, ht⟩
  · cases h.1
  · simp only [Value.slice.injEq, Option.some.injEq, Addr.mk.injEq, and_true, true_and] at e
    obtain ⟨rfl, rfl⟩ := e
    simp only [Nat.mul_one] at hs ht
    have hall : ∀ k (hk : k < firstOf p L), p (L.getD k []) = false := fun k hk => by
      have := List.not_of_lt_findIdx (p := p) (xs := L) hk
      rw [getD_at (by unfold firstOf at hk hf; omega)]
      simpa using this
    have hlast : p (L.getD (firstOf p L) []) = true := by
      have h9 : p (L[firstOf p L]) = true := List.findIdx_getElem (p := p) (xs := L) (w := hf)
      rw [getD_at hf]
      exact h9
    have hk : ∀ k, k ≤ firstOf p L → keptS p (L.take k) = L.take k := by
      intro k hk
      unfold keptS
      rw [List.filter_eq_self]
      intro o ho
      obtain ⟨j, hj, rfl⟩ := List.getElem_of_mem ho
      rw [List.length_take] at hj
      rw [List.getElem_take]
      have := hall j (by omega)
      rw [getD_at (by omega)] at this
      simp [this]
    have he : keptS p (L.take (firstOf p L + 1)) = L.take (firstOf p L) := by
      rw [kept_take p L hf, if_pos hlast, List.append_nil, hk _ (Nat.le_refl _)]
    refine ⟨cur, hh, hs, by rw [he, List.length_take]; omega, ?_, fun t h1 h2 => ?_⟩
    · rw [he, List.map_take, ← ht, List.take_take]
      congr 1; omega
    · rw [← ht, List.getElem?_take_of_lt h2, Array.getElem?_toList]
theorem DelAt.skip {p : Nm → Bool} {L : List Nm} {g cap i j : Nat} {w : World} (h : DelAt p L g cap i j w) (hj : j < L.length) (hy : p (L.getD j []) = true) : DelAt p L g cap i (j + 1) w := by
  obtain ⟨cur, h1, h2, h3, h4, h5⟩ := h
  refine ⟨cur, h1, h2, ?_, ?_, fun t ht => h5 t (by omega)⟩
  · rw [kept_take p L hj, if_pos hy, List.append_nil]; exact h3
  · rw [kept_take p L hj, if_pos hy, List.append_nil]; exact h4
theorem DelAt.keep {p : Nm → Bool} {L : List Nm} {g cap i j : Nat} {w : World} (h : DelAt p L g cap i j w) (hj : j < L.length) (hc : L.length ≤ cap) (hn : p (L.getD j []) = false) : DelAt p L g cap (i + 1) (j + 1) (w.setCell ⟨g, i, none⟩ (encStr (L.getD j []))) := by
  have hij := h.le
  obtain ⟨cur, h1, h2, h3, h4, h5⟩ := h
  have a1 := Joins.block_setCell (i := i) h1 (encStr (L.getD j []))
  have hk := kept_take p L hj
  rw [hn] at hk
  simp only [Bool.false_eq_true, if_false] at hk
  refine ⟨_, a1, by rw [Array.size_setIfInBounds]; exact h2, by rw [hk, List.length_append, ← h3]; rfl, ?_, fun t ht1 ht2 => ?_⟩
  · rw [hk, List.map_append, ← h4]
    apply List.ext_getElem?
    intro t
    have hlt : (cur.toList.take i).length = i := by rw [List.length_take, Array.length_toList, h2]; omega
    by_cases ht : t < i + 1
    · rw [List.getElem?_take_of_lt ht, Array.getElem?_toList]
      by_cases ht2 : t = i
      · subst ht2
        rw [Array.getElem?_setIfInBounds_self_of_lt (by omega), List.getElem?_append_right (by omega), hlt]
        simp
      · rw [Array.getElem?_setIfInBounds_ne (by omega), List.getElem?_append_left (by omega), List.getElem?_take_of_lt (by omega), Array.getElem?_toList]
    · rw [List.getElem?_eq_none (by rw [List.length_take]; omega), List.getElem?_eq_none (by rw [List.length_append, hlt]; simp; omega)]
  · rw [Array.getElem?_setIfInBounds_ne (by omega)]
    exact h5 t (by omega) ht2
theorem DelAt.at {p : Nm → Bool} {L : List Nm} {g cap i j : Nat} {w : World} (h : DelAt p L g cap i j w) (hj : j < L.length) : w.cell? ⟨g, j, none⟩ = some (encStr (L.getD j [])) := by
  obtain ⟨cur, h1, h2, h3, h4, h5⟩ := h
  have := h5 j (Nat.le_refl _) hj
  rw [List.getElem?_map, List.getElem?_eq_getElem hj] at this
  rw [getD_at hj]
  simp only [World.cell?, h1]
  simpa using this
theorem DelAt.free {p : Nm → Bool} {L : List Nm} {g cap i j : Nat} {w : World} (h : DelAt p L g cap i j w) {t : Nat} (ht : t < cap) : (∃ u, w.cell? ⟨g, t, none⟩ = some u) ∧ w.frozen? ⟨g, t, none⟩ = false := by
  obtain ⟨cur, h1, h2, _⟩ := h
  exact ⟨⟨cur[t]'(by omega), by simp [World.cell?, h1, show t < cur.size by omega]⟩, by simp [World.frozen?, h1]⟩
theorem DelAt.done {p : Nm → Bool} {L : List Nm} {g cap i : Nat} {w : World} (h : DelAt p L g cap i L.length w) (hc : L.length ≤ cap) (hm : cap ≤ maxLen) (hB : B ≤ g) (vs : List Value) (hv : i + vs.length ≤ cap) :
    OwnS (w.setCells g i vs) B (.slice (some ⟨g, 0, none⟩) i cap) (keptS p L) := by
  have hi := h.le
  obtain ⟨cur, h1, h2, h3, h4, h5⟩ := h
  rw [List.take_length] at h3 h4
  obtain ⟨cur', a1, a2, a3⟩ := setCells_heap g _ vs i w cur h1 (by omega)
  refine ⟨by simp, .inr ⟨g, cap, cur', by rw [← h3], hB, a1, by omega, hm, by rw [a2, h2, Nat.mul_one], ?_⟩⟩
  rw [← h3, ← h4, Nat.mul_one]
  apply List.ext_getElem?
  intro t
  by_cases ht : t < i
  · rw [List.getElem?_take_of_lt ht, List.getElem?_take_of_lt ht, Array.getElem?_toList, Array.getElem?_toList, a3 t, if_neg (by omega)]
  · rw [List.getElem?_eq_none (by rw [List.length_take]; omega), List.getElem?_eq_none (by rw [List.length_take]; omega)]
theorem slice_suf_s (g m cap k r : Nat) (hk : k < m) (hr : k + r = m) (hc : m ≤ cap) (W : World) : (Instr.slice 47 (.slice (some ⟨g, 0, none⟩) m cap) (some (.int .i64 (k : Int))) none none).run Try.prog W = .ok (.slice (some ⟨g, k, none⟩) r (cap - k)) W := by
  subst hr
  have h1 : (k : Int) ≤ (cap : Int) := by omega
  have h2 : k ≤ cap := by omega
  have h4 : ¬ ((cap : Int) = (k : Int)) := by omega
  have e : (some ((⟨g, 0, none⟩ : Addr).add k)) = some (⟨g, k, none⟩ : Addr) := by
    unfold Addr.add
    by_cases h0 : k = 0
    · subst h0; simp
    · simp [h0]
  have e2 : k + r - k = r := by omega
  have h5 : ¬ (cap = k) := by omega
  have h6 : ¬ ((k : Int) + (r : Int) < (k : Int)) := by omega
  have h7 : ¬ (cap < k + r) := by omega
  go_simp
theorem slice_pre_s (p : Option Addr) (m cap k : Nat) (hk : k ≤ m) (hc : m ≤ cap) (hp : p = none → cap = 0) (W : World) : (Instr.slice 47 (.slice p m cap) none (some (.int .i64 (k : Int))) none).run Try.prog W = .ok (.slice p k cap) W := by
  cases p with
  | none =>
    have := hp rfl
    subst this
    have : k = 0 := by omega
    subst this
    have : m = 0 := by omega
    subst this
    go_simp
  | some a =>
    have h1 : (k : Int) ≤ (cap : Int) := by omega
    have h2 : k ≤ cap := by omega
    go_simp
/-- The cells that clear lays. -/
def zeroS (n : Nat) : List Value := (Builtin.zeroCells #[.string ⟨#[]⟩] n).toList
theorem zeroS_length (n : Nat) : (zeroS n).length = n := by
  unfold zeroS Builtin.zeroCells; simp
theorem zero_str (w : World) : (zeroValue 9).run Try.prog w = .ok (.string ⟨#[]⟩) w := by kernel_rfl
theorem clear_run (w : World) (ty : TypeId) (g o n c : Nat) (hn : 0 < n) (hc : ∀ j, j < n → (w.cell? ⟨g, o + j, none⟩).isSome = true) (hf : ∀ j, j < n → w.frozen? ⟨g, o + j, none⟩ = false) :
    (Builtin.clear_ #[47] ty #[.slice (some ⟨g, o, none⟩) n c]).run Try.prog w = .ok (.tuple #[]) (w.setCells g o (zeroS n)) := by
  have h1 : ∀ v ∈ zeroS n, v.oneCell' = true := by
    intro v hv
    unfold zeroS Builtin.zeroCells at hv
    simp only [Array.toList_map, List.mem_map, Array.toList_range] at hv
    obtain ⟨j, _, rfl⟩ := hv
    show Value.oneCell' (#[Value.string ⟨#[]⟩][j % 1]!) = true
    rw [Nat.mod_one]
    rfl
  have hst := run_storeCells_cells (P := Try.prog) g o (zeroS n) 0 w (by rw [zeroS_length]; simpa using hc) (by rw [zeroS_length]; simpa using hf) h1
  simp only [Nat.add_zero] at hst
  obtain ⟨m, rfl⟩ : ∃ m, n = m + 1 := ⟨n - 1, by omega⟩
  have hz := zero_str w
  have hcells : (Value.string ⟨#[]⟩).cells = #[.string ⟨#[]⟩] := by rfl
  unfold zeroS at hst ⊢
  rw [← hcells] at hst ⊢
  simp [Builtin.clear_, run_underlying Try.underlying47, hz, hst]
theorem kept_none {p : Nm → Bool} {L : List Nm} (h : ¬ firstOf p L < L.length) : keptS p L = L := by
  unfold keptS
  rw [List.filter_eq_self]
  intro o ho
  have hl : firstOf p L = L.length := by have : firstOf p L ≤ L.length := List.findIdx_le_length; omega
  unfold firstOf at hl
  rw [List.findIdx_eq_length] at hl
  have := hl o ho
  simp [this]
end Go.Proofs.Ytnhdnmlclnndoaa.Gm
