/- Layer 8: slices.DeleteFunc of a row of constraints with numbers. -/
import Derived.Test.YtlnjmcodgdebmaaGreatHu
import Derived.Laws.IdiomCopy
import Derived.Lib.SmallJoins
import Derived.Test.YtlnjmcodgdebmaaGreatRMe
import Derived.Lib.SliceRun
/- Layer 8: rows of constraints with numbers that are written; forget's question; the first place where it is answered yes. -/
set_option linter.unusedSimpArgs false
set_option linter.unusedVariables false
namespace Go.Proofs.YtlnjmcodgdebmaaGreat.Gm
open Go Go.RowKit Go.Maps
attribute [local go_sem ↓] Go.wp_at_zero Go.wp_at_succ

theorem setCells_heap (g : Nat) (t : TypeId) : ∀ (vs : List Value) (o : Nat) (w : World) (cur : Array Value), w.heap[g]? = some (.cells cur t (0, 0)) → o + vs.length ≤ cur.size →
    ∃ cur', (w.setCells g o vs).heap[g]? = some (.cells cur' t (0, 0)) ∧ cur'.size = cur.size ∧ ∀ j, cur'[j]? = if o ≤ j ∧ j < o + vs.length then vs[j - o]? else cur[j]?
  | [], o, w, cur, h, _ => ⟨cur, h, rfl, fun j => by rw [if_neg (by simp only [List.length_nil]; omega)]⟩
  | v :: r, o, w, cur, h, hl => by
    simp only [List.length_cons] at hl
    have h1 := Joins.block_setCell (i := o) h v
    obtain ⟨cur', h2, h3, h4⟩ := setCells_heap g t r (o + 1) (w.setCell ⟨g, o, none⟩ v) (cur.setIfInBounds o v) h1 (by rw [Array.size_setIfInBounds]; omega)
    refine ⟨cur', h2, by rw [h3, Array.size_setIfInBounds], fun j => ?_⟩
    rw [h4 j]
    simp only [List.length_cons]
    by_cases hj : j = o
    · subst hj
      rw [if_neg (by omega), if_pos (by omega), Array.getElem?_setIfInBounds_self_of_lt (by omega)]
      simp
    · by_cases hj2 : o + 1 ≤ j ∧ j < o + 1 + r.length
      · rw [if_pos hj2, if_pos (by omega), show j - o = (j - (o + 1)) + 1 by omega]; simp
      · rw [if_neg hj2, if_neg (by omega), Array.getElem?_setIfInBounds_ne (by omega)]
theorem setCells_grown8 (g : Nat) : ∀ (vs : List Value) (o : Nat) (w : World), w.grownBy (w.setCells g o vs) (some g)
  | [], o, w => World.grownBy.refl _ _
  | v :: r, o, w => (grown_set (World.grownBy.refl w (some g)) v).trans (setCells_grown8 g r (o + 1) (w.setCell ⟨g, o, none⟩ v))
/-- What forget asks of a constraint. -/
theorem forget_one (gb : Nat) (id : Int) (o : Int × Cn) (w : World) (hc : w.cell? ⟨gb, 0, none⟩ = some (.int .i64 id)) (hl : gb < w.heap.size) : Calls Tryz.prog 50 #[oo o, .pointer (some ⟨gb, 0, none⟩)] w (Gives (.bool (decide (o.1 = id))) w) := by
  rw [oo_agg]
  have hk := Blk.new w 77 (ooc o)
  have c0 := hk.cell 0 rfl
  have c1 := (below_one w (.cells (ooc o) 77)).cell (p := ⟨gb, 0, none⟩) hl |>.trans hc
  have HB := Lib.hid (below_one w (.cells (ooc o) 77))
  clear hk hc hl
  go_enter Tryz.func50, Tryz.ntmps50
  go_wp2_with fail
  go_ret
  refine ⟨?_, HB.out⟩
  first
    | rfl
    | (congr 1; congr 1; rw [Bool.eq_iff_iff]; simp)
/-- Where the first of a number stands. -/
def firstOf (id : Int) (L : List (Int × Cn)) : Nat := L.findIdx fun o => decide (o.1 = id)
def firstI (id : Int) (L : List (Int × Cn)) : Int := if firstOf id L < L.length then (firstOf id L : Int) else -1
theorem getD_at {L : List (Int × Cn)} {k : Nat} (hk : k < L.length) : L.getD k default = L[k] := by simp [List.getD_eq_getElem?_getD, List.getElem?_eq_getElem hk]
set_option maxHeartbeats 4000000 in
set_option maxRecDepth 100000 in
theorem index_own (gb : Nat) (id : Int) (v : Value) (L : List (Int × Cn)) (w : World) (hc : w.cell? ⟨gb, 0, none⟩ = some (.int .i64 id)) (hl : gb < w.heap.size) (hR : RowIn encO 8 w v L) (hlen : L.length ≤ 1000000) :
    Calls Tryz.prog 67 #[v, .func (.func 50) #[] #[.pointer (some ⟨gb, 0, none⟩)]] w (Gives (.int .i64 (firstI id L)) w) := by
  obtain ⟨p, cap, rfl⟩ := hR.form
  have HR := Lib.hid hR
  have HC := Lib.hid hc
  have HL := Lib.hid hl
  clear hR hc hl
  go_enter Tryz.func67, Tryz.ntmps67
  go_wp2_with fail
  go_loopw [8] (fun i wr => ∃ k : Nat, k ≤ L.length ∧ i = .int .i64 k ∧ Hid (∀ j, j < k → (L.getD j default).1 ≠ id) ∧ Hid (Below w.heap.size w wr)) (fun i _ => L.length - (intOf i).toNat)
  case atStart => exact ⟨0, Nat.zero_le _, rfl, Lib.hid (fun j hj => absurd hj (Nat.not_lt_zero j)), Lib.hid (Below.refl _ _)⟩
  case round =>
    obtain ⟨k, hk, rfl, HN, HB⟩ := hrel
    by_cases hkl : k < L.length
    · obtain ⟨p1, cap1, b, o, hv, hp, hb, e0, e1, e2, e3, e4, e5, e6, e7⟩ := eight_at (HR.out.later HB.out) hkl
      simp only [Value.slice.injEq] at hv
      obtain ⟨rfl, -, rfl⟩ := hv
      have hidx := idx_o p b o L.length cap k hp hkl
      have HF := Lib.hid (forget_one gb id (L.getD k default) wr (cell_later HB.out HC.out) (Nat.lt_of_lt_of_le HL.out HB.out.size))
      have hfi : (∀ j, j < k → (L.getD j default).1 ≠ id) → (L.getD k default).1 = id → firstOf id L = k := fun hn hy => by
        unfold firstOf
        rw [List.findIdx_eq hkl]
        refine ⟨by rw [← getD_at hkl]; simpa using hy, fun j hj => ?_⟩
        rw [← getD_at (by omega)]
        simpa using hn j hj
      have HFI := Lib.hid hfi
      have HKL := Lib.hid hkl
      obtain ⟨q, hq⟩ : ∃ q, L.getD k default = q := ⟨_, rfl⟩
      rw [hq] at e0 e1 e2 e3 e4 e5 e6 e7 HF HFI
      have HQ := Lib.hid hq
      rw [oo_agg] at HF
      clear hp hb hq hfi
      by_cases hy : q.1 = id
      · have hd : decide (q.1 = id) = true := by simpa using hy
        rw [hd] at HF
        have HE := Lib.hid (HFI.out HN.out hy)
        clear hy hd
        go_wp2_with fail
        refine HF.out.mono ?_; rintro e w2 ⟨rfl, b2⟩
        have HB2 := Lib.hid (then_ HB.out b2)
        clear b2
        go_wp2_with fail
        go_ret
        exact ⟨by unfold firstI; rw [HE.out, if_pos HKL.out]; rfl, HB2.out⟩
      · have hd : decide (q.1 = id) = false := by simpa using hy
        rw [hd] at HF
        have HN2 : Hid (∀ j, j < k + 1 → (L.getD j default).1 ≠ id) := Lib.hid (fun j hj => by
          by_cases e : j = k
          · rw [e, HQ.out]; exact hy
          · exact HN.out j (by omega))
        clear hy hd
        go_wp2_with fail
        refine HF.out.mono ?_; rintro e w2 ⟨rfl, b2⟩
        have HB2 := Lib.hid (then_ HB.out b2)
        clear b2
        go_wp2_with fail
        go_roundw
        case rel => exact ⟨k + 1, by omega, by go_num, HN2, HB2⟩
        case measure => simp [intOf]; omega
    · have hke : k = L.length := by omega
      have HE : Hid (firstOf id L = L.length) := Lib.hid (by
        unfold firstOf
        rw [List.findIdx_eq_length]
        intro x hx
        obtain ⟨j, hj, rfl⟩ := List.getElem_of_mem hx
        have := HN.out j (by omega)
        rw [getD_at hj] at this
        simpa using this)
      subst hke
      go_wp2_with fail
      go_ret
      exact ⟨by unfold firstI; rw [HE.out, if_neg (by omega)]; rfl, HB.out⟩
end Go.Proofs.YtlnjmcodgdebmaaGreat.Gm
set_option linter.unusedSimpArgs false
set_option linter.unusedVariables false
namespace Go.Proofs.YtlnjmcodgdebmaaGreat.Gm
open Go Go.RowKit Go.Maps
variable {B : Nat}
attribute [local go_sem ↓] Go.wp_at_zero Go.wp_at_succ

abbrev kept8 (id : Int) (L : List (Int × Cn)) : List (Int × Cn) := L.filter fun o => !decide (o.1 = id)
/-- A row in work: its first i elements are those that are kept of the first j; from j on it is as it was. -/
def DelAt (id : Int) (L : List (Int × Cn)) (g cap i j : Nat) (w : World) : Prop :=
  ∃ cur, w.heap[g]? = some (.cells cur 77 (0, 0)) ∧ cur.size = cap * 8 ∧ i = (kept8 id (L.take j)).length ∧ cur.toList.take (i * 8) = (kept8 id (L.take j)).flatMap encO ∧ ∀ t, j * 8 ≤ t → t < L.length * 8 → cur[t]? = (L.flatMap encO)[t]?
theorem DelAt.later {id : Int} {L : List (Int × Cn)} {g cap i j : Nat} {w w' : World} (h : DelAt id L g cap i j w) (hb : Below w.heap.size w w') : DelAt id L g cap i j w' := by
  obtain ⟨cur, h1, r⟩ := h
  exact ⟨cur, (hb.block g (lt_of_block h1)).trans h1, r⟩
theorem DelAt.le {id : Int} {L : List (Int × Cn)} {g cap i j : Nat} {w : World} (h : DelAt id L g cap i j w) : i ≤ j := by
  obtain ⟨cur, _, _, rfl, _⟩ := h
  exact Nat.le_trans (List.length_filter_le _ _) (by rw [List.length_take]; omega)
theorem kept_take (id : Int) (L : List (Int × Cn)) {j : Nat} (hj : j < L.length) : kept8 id (L.take (j + 1)) = kept8 id (L.take j) ++ if (L.getD j default).1 = id then [] else [L.getD j default] := by
  unfold kept8
  rw [take_snoc L hj, List.filter_append]
  congr 1
  generalize L.getD j default = o
  by_cases h : o.1 = id <;> simp [List.filter, h]
/-- It begins behind the first one that goes. -/
theorem DelAt.start {id : Int} {L : List (Int × Cn)} {g cap : Nat} {w : World} (h : w.ownsRow B 77 8 (.slice (some ⟨g, 0, none⟩) L.length cap) L.length (L.flatMap encO)) (hf : firstOf id L < L.length) : DelAt id L g cap (firstOf id L) (firstOf id L + 1) w := by
  obtain ⟨h0, h | ⟨g', cap', cur, e, _, hh, hn, _, hs, ht⟩⟩ := h
  · cases h.1
  · simp only [Value.slice.injEq, Option.some.injEq, Addr.mk.injEq, and_true, true_and] at e
    obtain ⟨rfl, rfl⟩ := e
    have hfirst := hf
    have hall : ∀ k (hk : k < firstOf id L), (L.getD k default).1 ≠ id := fun k hk => by
      have := List.not_of_lt_findIdx (p := fun o : Int × Cn => decide (o.1 = id)) (xs := L) hk
      rw [getD_at (by unfold firstOf at hk hf; omega)]
      simpa using this
    have hlast : (L.getD (firstOf id L) default).1 = id := by
      have h9 : decide ((L[firstOf id L]).1 = id) = true := List.findIdx_getElem (p := fun o : Int × Cn => decide (o.1 = id)) (xs := L) (w := hf)
      rw [getD_at hf]
      exact of_decide_eq_true h9
    have hk : ∀ k, k ≤ firstOf id L → kept8 id (L.take k) = L.take k := by
      intro k hk
      unfold kept8
      rw [List.filter_eq_self]
      intro o ho
      obtain ⟨j, hj, rfl⟩ := List.getElem_of_mem ho
      rw [List.length_take] at hj
      rw [List.getElem_take]
      have := hall j (by omega)
      rw [getD_at (by omega)] at this
      simpa using this
    have he : kept8 id (L.take (firstOf id L + 1)) = L.take (firstOf id L) := by
      rw [kept_take id L hf, if_pos hlast, List.append_nil, hk _ (Nat.le_refl _)]
    refine ⟨cur, hh, hs, by rw [he, List.length_take]; omega, ?_, fun t h1 h2 => ?_⟩
    · rw [he, ← flat_take encO_length L _ (by omega), ← ht, List.take_take]
      congr 1; omega
    · rw [← ht, List.getElem?_take_of_lt h2, Array.getElem?_toList]
theorem DelAt.skip {id : Int} {L : List (Int × Cn)} {g cap i j : Nat} {w : World} (h : DelAt id L g cap i j w) (hj : j < L.length) (hy : (L.getD j default).1 = id) : DelAt id L g cap i (j + 1) w := by
  obtain ⟨cur, h1, h2, h3, h4, h5⟩ := h
  refine ⟨cur, h1, h2, ?_, ?_, fun t ht => h5 t (by omega)⟩
  · rw [kept_take id L hj, if_pos hy, List.append_nil]; exact h3
  · rw [kept_take id L hj, if_pos hy, List.append_nil]; exact h4
theorem DelAt.keep {id : Int} {L : List (Int × Cn)} {g cap i j : Nat} {w : World} (h : DelAt id L g cap i j w) (hj : j < L.length) (hc : L.length ≤ cap) (hn : (L.getD j default).1 ≠ id) : DelAt id L g cap (i + 1) (j + 1) (w.setCells g (i * 8) (encO (L.getD j default))) := by
  have hij := h.le
  obtain ⟨cur, h1, h2, h3, h4, h5⟩ := h
  obtain ⟨cur', a1, a2, a3⟩ := setCells_heap g _ (encO (L.getD j default)) (i * 8) w cur h1 (by rw [encO_length, h2]; omega)
  rw [encO_length] at a3
  have hk := kept_take id L hj
  rw [if_neg hn] at hk
  refine ⟨cur', a1, a2.trans h2, by rw [hk, List.length_append, ← h3]; rfl, ?_, fun t ht1 ht2 => ?_⟩
  · rw [hk, List.flatMap_append, ← h4]
    apply List.ext_getElem?
    intro t
    have hlt : (cur.toList.take (i * 8)).length = i * 8 := by rw [List.length_take, Array.length_toList, h2]; omega
    by_cases ht : t < (i + 1) * 8
    · rw [List.getElem?_take_of_lt ht, Array.getElem?_toList, a3 t]
      by_cases ht2 : i * 8 ≤ t
      · rw [if_pos (by omega), List.getElem?_append_right (by omega), hlt]
        simp
      · rw [if_neg (by omega), List.getElem?_append_left (by omega), List.getElem?_take_of_lt (by omega), Array.getElem?_toList]
    · rw [List.getElem?_eq_none (by rw [List.length_take]; omega), List.getElem?_eq_none (by rw [List.length_append, hlt]; simp [encO_length]; omega)]
  · rw [a3 t, if_neg (by omega)]
    exact h5 t (by omega) ht2
/-- What a row in work holds at j. -/
theorem DelAt.at {id : Int} {L : List (Int × Cn)} {g cap i j : Nat} {w : World} (h : DelAt id L g cap i j w) (hj : j < L.length) : Eight w g (j * 8) (L.getD j default) := by
  obtain ⟨cur, h1, h2, h3, h4, h5⟩ := h
  have hc : ∀ c u, (encO (L.getD j default))[c]? = some u → w.cell? ⟨g, j * 8 + c, none⟩ = some u := fun c u hu => by
    have hc8 : c < 8 := by have := (List.getElem?_eq_some_iff.1 hu).1; rwa [encO_length] at this
    have := flat_at encO_length L j c u hj hu
    rw [← h5 (j * 8 + c) (by omega) (by omega)] at this
    simp [World.cell?, h1, this]
  exact ⟨hc 0 _ rfl, hc 1 _ rfl, hc 2 _ rfl, hc 3 _ rfl, hc 4 _ rfl, hc 5 _ rfl, hc 6 _ rfl, hc 7 _ rfl⟩
/-- Its cells may be written. -/
theorem DelAt.free {id : Int} {L : List (Int × Cn)} {g cap i j : Nat} {w : World} (h : DelAt id L g cap i j w) {t : Nat} (ht : t < cap * 8) : (∃ u, w.cell? ⟨g, t, none⟩ = some u) ∧ w.frozen? ⟨g, t, none⟩ = false := by
  obtain ⟨cur, h1, h2, _⟩ := h
  exact ⟨⟨cur[t]'(by omega), by simp [World.cell?, h1, show t < cur.size by omega]⟩, by simp [World.frozen?, h1]⟩
/-- At the end, the rest cleared, the first ones are a row. -/
theorem DelAt.done {id : Int} {L : List (Int × Cn)} {g cap i : Nat} {w : World} (h : DelAt id L g cap i L.length w) (hc : L.length ≤ cap) (hm : cap ≤ maxLen) (hB : B ≤ g) (vs : List Value) (hv : i * 8 + vs.length ≤ cap * 8) :
    (w.setCells g (i * 8) vs).ownsRow B 77 8 (.slice (some ⟨g, 0, none⟩) i cap) (kept8 id L).length ((kept8 id L).flatMap encO) := by
  have hi := h.le
  obtain ⟨cur, h1, h2, h3, h4, h5⟩ := h
  rw [List.take_length] at h3 h4
  obtain ⟨cur', a1, a2, a3⟩ := setCells_heap g _ vs (i * 8) w cur h1 (by omega)
  refine ⟨by rw [flat_length encO_length], .inr ⟨g, cap, cur', by rw [← h3], hB, a1, by omega, hm, by rw [a2, h2], ?_⟩⟩
  rw [← h3, ← h4]
  apply List.ext_getElem?
  intro t
  by_cases ht : t < i * 8
  · rw [List.getElem?_take_of_lt ht, List.getElem?_take_of_lt ht, Array.getElem?_toList, Array.getElem?_toList, a3 t, if_neg (by omega)]
  · rw [List.getElem?_eq_none (by rw [List.length_take]; omega), List.getElem?_eq_none (by rw [List.length_take]; omega)]
end Go.Proofs.YtlnjmcodgdebmaaGreat.Gm
