/- Layer 10: the walk of slices.DeleteFunc at names; unsettled. -/
import Derived.Test.YtmbfhmjcphoddaaGreatDoorDku
import Derived.Lib.SliceRun
import Derived.Lib.SmallJoins
import Derived.Laws.IdiomCopy
/- Layer 10: slices.DeleteFunc of names. -/
/- Layer 10: slices.IndexFunc and slices.DeleteFunc of names, whose question is asked of the row's own names alone. -/
set_option linter.unusedSimpArgs false
set_option linter.unusedVariables false
namespace Go.Proofs.YtmbfhmjcphoddaaGreatDoor.Gm
open Go Go.RowKit Go.Maps
attribute [local go_sem ↓] Go.wp_at_zero Go.wp_at_succ
variable {B : Nat}
abbrev Nm := List UInt8
abbrev quest (bd : Nat) : Value := .func (.func 51) #[] #[.pointer (some ⟨bd, 0, none⟩)]
/-- The question has an answer for each of the row's names, whatever has been made since. -/
def Asked (bd T : Nat) (p : Nm → Bool) (L : List Nm) (w : World) : Prop := T ≤ w.heap.size ∧ ∀ W, Below T w W → ∀ n ∈ L, Calls Tryz.prog 51 #[encStr n, .pointer (some ⟨bd, 0, none⟩)] W (Gives (.bool (p n)) W)
theorem below_less {T T' : Nat} {a b : World} (h : Below T' a b) (hT : T ≤ T') : Below T a b := ⟨h.os, h.tape, h.output, h.size, fun k hk => h.block k (by omega)⟩
theorem below_then {T : Nat} {a b c : World} (h : Below T a b) (k : Below T b c) : Below T a c := ⟨k.os.trans h.os, k.tape.trans h.tape, k.output.trans h.output, Nat.le_trans h.size k.size, fun i hi => (k.block i hi).trans (h.block i hi)⟩
theorem Asked.later {bd T : Nat} {p : Nm → Bool} {L : List Nm} {w W : World} (h : Asked bd T p L w) (hb : Below T w W) : Asked bd T p L W := ⟨Nat.le_trans h.1 hb.size, fun V hV n hn => h.2 V (below_then hb hV) n hn⟩
theorem idx_s (g n cap k : Nat) (hk : k < n) (W : World) : (Instr.indexAt 69 (.slice (some ⟨g, 0, none⟩) n cap) (.int .i64 (k : Int))).run Tryz.prog W = .ok (.pointer (some ⟨g, k, none⟩)) W := by go_simp
def firstOf (p : Nm → Bool) (L : List Nm) : Nat := L.findIdx p
def firstI (p : Nm → Bool) (L : List Nm) : Int := if firstOf p L < L.length then (firstOf p L : Int) else -1
theorem getD_at {L : List Nm} {k : Nat} (hk : k < L.length) : L.getD k [] = L[k] := by simp [List.getD_eq_getElem?_getD, List.getElem?_eq_getElem hk]
theorem getD_mem {L : List Nm} {k : Nat} (hk : k < L.length) : L.getD k [] ∈ L := by rw [getD_at hk]; exact List.getElem_mem hk
theorem own_s {w : World} {v : Value} {L : List Nm} (h : OwnS w B v L) : ∃ p c, v = .slice p L.length c := by
  rcases h.2 with ⟨e, h0⟩ | ⟨g, cap, cur, e, _⟩
  · exact ⟨none, 0, by rw [e]; simp at h0; simp [h0]⟩
  · exact ⟨_, _, e⟩
theorem own_s_later {w w' : World} {v : Value} {L : List Nm} (h : OwnS w B v L) (hb : Below w.heap.size w w') : OwnS w' B v L := by
  refine ⟨h.1, ?_⟩
  rcases h.2 with h0 | ⟨gb, cap, cur, hv, h1, hh, r⟩
  · exact .inl h0
  · exact .inr ⟨gb, cap, cur, hv, h1, (hb.block gb (lt_of_block hh)).trans hh, r⟩
set_option maxHeartbeats 4000000 in
set_option maxRecDepth 100000 in
theorem index_s (bd T : Nat) (p : Nm → Bool) (v : Value) (L : List Nm) (w : World) (hA : Asked bd T p L w) (ho : OwnS w B v L) (hlen : L.length ≤ 1000000) :
    Calls Tryz.prog 63 #[v, quest bd] w (Gives (.int .i64 (firstI p L)) w) := by
  by_cases h00 : L.length = 0
  · have hv : ∃ a c, v = .slice a 0 c := by obtain ⟨a, c, e⟩ := own_s ho; exact ⟨a, c, by rw [e, h00]⟩
    obtain ⟨a, c, rfl⟩ := hv
    have HE : Hid (firstI p L = -1) := Lib.hid (by unfold firstI; rw [if_neg (by omega)])
    clear hA ho hlen h00
    go_enter Tryz.func63, Tryz.ntmps63
    go_wp2_with fail
    go_loopw [8] (fun i wr => i = .int .i64 0 ∧ Hid (Below w.heap.size w wr)) (fun i _ => 0)
    case atStart => exact ⟨rfl, Lib.hid (Below.refl _ _)⟩
    case round =>
      obtain ⟨rfl, HB⟩ := hrel
      go_wp2_with fail
      go_ret
      exact ⟨by rw [HE.out]; rfl, HB.out⟩
  · obtain ⟨a, c, rfl⟩ := own_s ho
    have hfm := World.ownsRow.form ho (by omega)
    obtain ⟨g, cap, hsl⟩ : ∃ g cap, (Value.slice a L.length c) = .slice (some ⟨g, 0, none⟩) L.length cap := by
      rcases ho.2 with ⟨e, h0⟩ | ⟨g, cap, cur, e, _⟩
      · exact absurd h0 h00
      · exact ⟨g, cap, e⟩
    simp only [Value.slice.injEq, true_and] at hsl
    obtain ⟨rfl, rfl⟩ := hsl
    clear hfm
    have hcell : ∀ k, k < L.length → w.cell? ⟨g, k, none⟩ = some (.string ⟨(L.getD k []).toArray⟩) := fun k hk => by
      rw [World.ownsRow.cellAt ho k (by omega), List.getElem?_map, getD_at hk, List.getElem?_eq_getElem hk]; rfl
    have hgl : g < w.heap.size := (World.ownsRow.lt ho g rfl).2
    have HC := Lib.hid hcell
    have HL := Lib.hid hgl
    have HA := Lib.hid hA
    clear ho hcell hgl hA h00
    go_enter Tryz.func63, Tryz.ntmps63
    go_wp2_with fail
    go_loopw [8] (fun i wr => ∃ k : Nat, k ≤ L.length ∧ i = .int .i64 k ∧ Hid (∀ j, j < k → p (L.getD j []) = false) ∧ Hid (Below w.heap.size w wr)) (fun i _ => L.length - (intOf i).toNat)
    case atStart => exact ⟨0, Nat.zero_le _, rfl, Lib.hid (fun j hj => absurd hj (Nat.not_lt_zero j)), Lib.hid (Below.refl _ _)⟩
    case round =>
      obtain ⟨k, hk, rfl, HN, HB⟩ := hrel
      by_cases hkl : k < L.length
      · have e0 := cell_later HB.out (HC.out k hkl)
        have hidx := idx_s g L.length c k hkl
        have HF := Lib.hid ((HA.out.later (below_less HB.out HA.out.1)).2 wr (Below.refl _ _) (L.getD k []) (getD_mem hkl))
        unfold encStr at HF
        have HFI : Hid ((∀ j, j < k → p (L.getD j []) = false) → p (L.getD k []) = true → firstOf p L = k) := Lib.hid (fun hn hy => by
          unfold firstOf
          rw [List.findIdx_eq hkl]
          refine ⟨by rw [← getD_at hkl]; exact hy, fun j hj => ?_⟩
          rw [← getD_at (by omega)]
          exact hn j hj)
        have HKL := Lib.hid hkl
        obtain ⟨q, hq⟩ : ∃ q, L.getD k [] = q := ⟨_, rfl⟩
        rw [hq] at e0 HF HFI
        have HQ := Lib.hid hq
        clear hq
        cases hd : p q with
        | true =>
          rw [hd] at HF
          have HE := Lib.hid (HFI.out HN.out hd)
          clear hd
          go_wp2_with fail
          refine HF.out.mono ?_; rintro e w2 ⟨rfl, b2⟩
          have HB2 := Lib.hid (then_ HB.out b2)
          clear b2
          go_wp2_with fail
          go_ret
          exact ⟨by unfold firstI; rw [HE.out, if_pos HKL.out]; rfl, HB2.out⟩
        | false =>
          rw [hd] at HF
          have HN2 : Hid (∀ j, j < k + 1 → p (L.getD j []) = false) := Lib.hid (fun j hj => by
            by_cases e : j = k
            · rw [e, HQ.out]; exact hd
            · exact HN.out j (by omega))
          clear hd
          go_wp2_with fail
          refine HF.out.mono ?_; rintro e w2 ⟨rfl, b2⟩
          have HB2 := Lib.hid (then_ HB.out b2)
          clear b2
          go_wp2_with fail
          go_roundw
          case rel => exact ⟨k + 1, by omega, by go_num, HN2, HB2⟩
          case measure => simp [intOf]; omega
      · have hke : k = L.length := by omega
        have HE : Hid (firstOf p L = L.length) := Lib.hid (by
          unfold firstOf
          rw [List.findIdx_eq_length]
          intro x hx
          obtain ⟨j, hj, rfl⟩ := List.getElem_of_mem hx
          have := HN.out j (by omega)
          rw [getD_at hj] at this
          simpa using this)
        subst hke
        go_wp2_with fail
        go_ret
        exact ⟨by unfold firstI; rw [HE.out, if_neg (by omega)]; rfl, HB.out⟩
end Go.Proofs.YtmbfhmjcphoddaaGreatDoor.Gm
set_option linter.unusedSimpArgs false
set_option linter.unusedVariables false
namespace Go.Proofs.YtmbfhmjcphoddaaGreatDoor.Gm
open Go Go.RowKit Go.Maps
attribute [local go_sem ↓] Go.wp_at_zero Go.wp_at_succ
variable {B : Nat}
theorem setCells_heap (g : Nat) (t : TypeId) : ∀ (vs : List Value) (o : Nat) (w : World) (cur : Array Value), w.heap[g]? = some (.cells cur t (0, 0)) → o + vs.length ≤ cur.size →
    ∃ cur', (w.setCells g o vs).heap[g]? = some (.cells cur' t (0, 0)) ∧ cur'.size = cur.size ∧ ∀ j, cur'[j]? = if o ≤ j ∧ j < o + vs.length then vs[j - o]? else cur[j]?
  | [], o, w, cur, h, _ => ⟨cur, h, rfl, fun j => by rw [if_neg (by simp only [List.length_nil]; omega)]⟩
  | v :: r, o, w, cur, h, hl => by
    simp only [List.length_cons] at hl
    have h1 := Joins.block_setCell (i := o) h v
    obtain ⟨cur', h2, h3, h4⟩ := setCells_heap g t r (o + 1) (w.setCell ⟨g, o, none⟩ v) (cur.setIfInBounds o v) h1 (by rw [Array.size_setIfInBounds]; omega)
    refine ⟨cur', h2, by rw [h3, Array.size_setIfInBounds], fun j => ?_⟩
    rw [h4 j]
    simp only [List.length_cons]
    by_cases hj : j = o
    · subst hj
      rw [if_neg (by omega), if_pos (by omega), Array.getElem?_setIfInBounds_self_of_lt (by omega)]
      simp
    · by_cases hj2 : o + 1 ≤ j ∧ j < o + 1 + r.length
      · rw [if_pos hj2, if_pos (by omega), show j - o = (j - (o + 1)) + 1 by omega]; simp
      · rw [if_neg hj2, if_neg (by omega), Array.getElem?_setIfInBounds_ne (by omega)]
theorem setCells_grown8 (g : Nat) : ∀ (vs : List Value) (o : Nat) (w : World), w.grownBy (w.setCells g o vs) (some g)
  | [], o, w => World.grownBy.refl _ _
  | v :: r, o, w => (grown_set (World.grownBy.refl w (some g)) v).trans (setCells_grown8 g r (o + 1) (w.setCell ⟨g, o, none⟩ v))
abbrev keptS (p : Nm → Bool) (L : List Nm) : List Nm := L.filter fun o => !p o
/-- A row in work: its first i names are those that are kept of the first j; from j on it is as it was. -/
def DelAt (p : Nm → Bool) (L : List Nm) (g cap i j : Nat) (w : World) : Prop :=
  ∃ cur, w.heap[g]? = some (.cells cur 9 (0, 0)) ∧ cur.size = cap ∧ i = (keptS p (L.take j)).length ∧ cur.toList.take i = (keptS p (L.take j)).map encStr ∧ ∀ t, j ≤ t → t < L.length → cur[t]? = (L.map encStr)[t]?
theorem DelAt.later {p : Nm → Bool} {L : List Nm} {g cap i j : Nat} {w w' : World} (h : DelAt p L g cap i j w) (hb : Below w.heap.size w w') : DelAt p L g cap i j w' := by
  obtain ⟨cur, h1, r⟩ := h
  exact ⟨cur, (hb.block g (lt_of_block h1)).trans h1, r⟩
theorem DelAt.le {p : Nm → Bool} {L : List Nm} {g cap i j : Nat} {w : World} (h : DelAt p L g cap i j w) : i ≤ j := by
  obtain ⟨cur, _, _, rfl, _⟩ := h
  exact Nat.le_trans (List.length_filter_le _ _) (by rw [List.length_take]; omega)
theorem kept_take (p : Nm → Bool) (L : List Nm) {j : Nat} (hj : j < L.length) : keptS p (L.take (j + 1)) = keptS p (L.take j) ++ if p (L.getD j []) then [] else [L.getD j []] := by
  unfold keptS
  rw [List.take_add_one, List.getElem?_eq_getElem hj, List.filter_append, getD_at hj]
  congr 1
  generalize L[j] = o
  cases h : p o <;> simp [h]
theorem DelAt.start {p : Nm → Bool} {L : List Nm} {g cap : Nat} {w : World} (h : OwnS w B (.slice (some ⟨g, 0, none⟩) L.length cap) L) (hf : firstOf p L < L.length) : DelAt p L g cap (firstOf p L) (firstOf p L + 1) w := by
  have h0 := h.1
  have hx := h.2
  rcases hx with h | ⟨g', cap', cur, e, _, hh, hn, _, hs, ht⟩
  · cases h.1
  · simp only [Value.slice.injEq, Option.some.injEq, Addr.mk.injEq, and_true, true_and] at e
    obtain ⟨rfl, rfl⟩ := e
    simp only [Nat.mul_one] at hs ht
    have hall : ∀ k (hk : k < firstOf p L), p (L.getD k []) = false := fun k hk => by
      have := List.not_of_lt_findIdx (p := p) (xs := L) hk
      rw [getD_at (by unfold firstOf at hk hf; omega)]
      simpa using this
    have hlast : p (L.getD (firstOf p L) []) = true := by
      have h9 : p (L[firstOf p L]) = true := List.findIdx_getElem (p := p) (xs := L) (w := hf)
      rw [getD_at hf]
      exact h9
    have hk : ∀ k, k ≤ firstOf p L → keptS p (L.take k) = L.take k := by
      intro k hk
      unfold keptS
      rw [List.filter_eq_self]
      intro o ho
      obtain ⟨j, hj, rfl⟩ := List.getElem_of_mem ho
      rw [List.length_take] at hj
      rw [List.getElem_take]
      have := hall j (by omega)
      rw [getD_at (by omega)] at this
      simp [this]
    have he : keptS p (L.take (firstOf p L + 1)) = L.take (firstOf p L) := by
      rw [kept_take p L hf, if_pos hlast, List.append_nil, hk _ (Nat.le_refl _)]
    refine ⟨cur, hh, hs, by rw [he, List.length_take]; omega, ?_, fun t h1 h2 => ?_⟩
    · rw [he, List.map_take, ← ht, List.take_take]
      congr 1; omega
    · rw [← ht, List.getElem?_take_of_lt h2, Array.getElem?_toList]
theorem DelAt.skip {p : Nm → Bool} {L : List Nm} {g cap i j : Nat} {w : World} (h : DelAt p L g cap i j w) (hj : j < L.length) (hy : p (L.getD j []) = true) : DelAt p L g cap i (j + 1) w := by
  obtain ⟨cur, h1, h2, h3, h4, h5⟩ := h
  refine ⟨cur, h1, h2, ?_, ?_, fun t ht => h5 t (by omega)⟩
  · rw [kept_take p L hj, if_pos hy, List.append_nil]; exact h3
  · rw [kept_take p L hj, if_pos hy, List.append_nil]; exact h4
theorem DelAt.keep {p : Nm → Bool} {L : List Nm} {g cap i j : Nat} {w : World} (h : DelAt p L g cap i j w) (hj : j < L.length) (hc : L.length ≤ cap) (hn : p (L.getD j []) = false) : DelAt p L g cap (i + 1) (j + 1) (w.setCell ⟨g, i, none⟩ (encStr (L.getD j []))) := by
  have hij := h.le
  obtain ⟨cur, h1, h2, h3, h4, h5⟩ := h
  have a1 := Joins.block_setCell (i := i) h1 (encStr (L.getD j []))
  have hk := kept_take p L hj
  rw [hn] at hk
  simp only [Bool.false_eq_true, if_false] at hk
  refine ⟨_, a1, by rw [Array.size_setIfInBounds]; exact h2, by rw [hk, List.length_append, ← h3]; rfl, ?_, fun t ht1 ht2 => ?_⟩
  · rw [hk, List.map_append, ← h4]
    apply List.ext_getElem?
    intro t
    have hlt : (cur.toList.take i).length = i := by rw [List.length_take, Array.length_toList, h2]; omega
    by_cases ht : t < i + 1
    · rw [List.getElem?_take_of_lt ht, Array.getElem?_toList]
      by_cases ht2 : t = i
      · subst ht2
        rw [Array.getElem?_setIfInBounds_self_of_lt (by omega), List.getElem?_append_right (by omega), hlt]
        simp
      · rw [Array.getElem?_setIfInBounds_ne (by omega), List.getElem?_append_left (by omega), List.getElem?_take_of_lt (by omega), Array.getElem?_toList]
    · rw [List.getElem?_eq_none (by rw [List.length_take]; omega), List.getElem?_eq_none (by rw [List.length_append, hlt]; simp; omega)]
  · rw [Array.getElem?_setIfInBounds_ne (by omega)]
    exact h5 t (by omega) ht2
theorem DelAt.at {p : Nm → Bool} {L : List Nm} {g cap i j : Nat} {w : World} (h : DelAt p L g cap i j w) (hj : j < L.length) : w.cell? ⟨g, j, none⟩ = some (encStr (L.getD j [])) := by
  obtain ⟨cur, h1, h2, h3, h4, h5⟩ := h
  have := h5 j (Nat.le_refl _) hj
  rw [List.getElem?_map, List.getElem?_eq_getElem hj] at this
  rw [getD_at hj]
  simp only [World.cell?, h1]
  simpa using this
theorem DelAt.free {p : Nm → Bool} {L : List Nm} {g cap i j : Nat} {w : World} (h : DelAt p L g cap i j w) {t : Nat} (ht : t < cap) : (∃ u, w.cell? ⟨g, t, none⟩ = some u) ∧ w.frozen? ⟨g, t, none⟩ = false := by
  obtain ⟨cur, h1, h2, _⟩ := h
  exact ⟨⟨cur[t]'(by omega), by simp [World.cell?, h1, show t < cur.size by omega]⟩, by simp [World.frozen?, h1]⟩
theorem DelAt.done {p : Nm → Bool} {L : List Nm} {g cap i : Nat} {w : World} (h : DelAt p L g cap i L.length w) (hc : L.length ≤ cap) (hm : cap ≤ maxLen) (hB : B ≤ g) (vs : List Value) (hv : i + vs.length ≤ cap) :
    OwnS (w.setCells g i vs) B (.slice (some ⟨g, 0, none⟩) i cap) (keptS p L) := by
  have hi := h.le
  obtain ⟨cur, h1, h2, h3, h4, h5⟩ := h
  rw [List.take_length] at h3 h4
  obtain ⟨cur', a1, a2, a3⟩ := setCells_heap g _ vs i w cur h1 (by omega)
  refine ⟨by simp, .inr ⟨g, cap, cur', by rw [← h3], hB, a1, by omega, hm, by rw [a2, h2, Nat.mul_one], ?_⟩⟩
  rw [← h3, ← h4, Nat.mul_one]
  apply List.ext_getElem?
  intro t
  by_cases ht : t < i
  · rw [List.getElem?_take_of_lt ht, List.getElem?_take_of_lt ht, Array.getElem?_toList, Array.getElem?_toList, a3 t, if_neg (by omega)]
  · rw [List.getElem?_eq_none (by rw [List.length_take]; omega), List.getElem?_eq_none (by rw [List.length_take]; omega)]
theorem slice_suf_s (g m cap k r : Nat) (hk : k < m) (hr : k + r = m) (hc : m ≤ cap) (W : World) : (Instr.slice 69 (.slice (some ⟨g, 0, none⟩) m cap) (some (.int .i64 (k : Int))) none none).run Tryz.prog W = .ok (.slice (some ⟨g, k, none⟩) r (cap - k)) W := by
  subst hr
  have h1 : (k : Int) ≤ (cap : Int) := by omega
  have h2 : k ≤ cap := by omega
  have h4 : ¬ ((cap : Int) = (k : Int)) := by omega
  have e : (some ((⟨g, 0, none⟩ : Addr).add k)) = some (⟨g, k, none⟩ : Addr) := by
    unfold Addr.add
    by_cases h0 : k = 0
    · subst h0; simp
    · simp [h0]
  have e2 : k + r - k = r := by omega
  have h5 : ¬ (cap = k) := by omega
  have h6 : ¬ ((k : Int) + (r : Int) < (k : Int)) := by omega
  have h7 : ¬ (cap < k + r) := by omega
  go_simp
theorem slice_pre_s (p : Option Addr) (m cap k : Nat) (hk : k ≤ m) (hc : m ≤ cap) (hp : p = none → cap = 0) (W : World) : (Instr.slice 69 (.slice p m cap) none (some (.int .i64 (k : Int))) none).run Tryz.prog W = .ok (.slice p k cap) W := by
  cases p with
  | none =>
    have := hp rfl
    subst this
    have : k = 0 := by omega
    subst this
    have : m = 0 := by omega
    subst this
    go_simp
  | some a =>
    have h1 : (k : Int) ≤ (cap : Int) := by omega
    have h2 : k ≤ cap := by omega
    go_simp
/-- The cells that clear lays. -/
def zeroS (n : Nat) : List Value := (Builtin.zeroCells #[.string ⟨#[]⟩] n).toList
theorem zeroS_length (n : Nat) : (zeroS n).length = n := by
  unfold zeroS Builtin.zeroCells; simp
theorem zero_str (w : World) : (zeroValue 9).run Tryz.prog w = .ok (.string ⟨#[]⟩) w := by kernel_rfl
theorem clear_run (w : World) (ty : TypeId) (g o n c : Nat) (hn : 0 < n) (hc : ∀ j, j < n → (w.cell? ⟨g, o + j, none⟩).isSome = true) (hf : ∀ j, j < n → w.frozen? ⟨g, o + j, none⟩ = false) :
    (Builtin.clear_ #[69] ty #[.slice (some ⟨g, o, none⟩) n c]).run Tryz.prog w = .ok (.tuple #[]) (w.setCells g o (zeroS n)) := by
  have h1 : ∀ v ∈ zeroS n, v.oneCell' = true := by
    intro v hv
    unfold zeroS Builtin.zeroCells at hv
    simp only [Array.toList_map, List.mem_map, Array.toList_range] at hv
    obtain ⟨j, _, rfl⟩ := hv
    show Value.oneCell' (#[Value.string ⟨#[]⟩][j % 1]!) = true
    rw [Nat.mod_one]
    rfl
  have hst := run_storeCells_cells (P := Tryz.prog) g o (zeroS n) 0 w (by rw [zeroS_length]; simpa using hc) (by rw [zeroS_length]; simpa using hf) h1
  simp only [Nat.add_zero] at hst
  obtain ⟨m, rfl⟩ : ∃ m, n = m + 1 := ⟨n - 1, by omega⟩
  have hz := zero_str w
  have hcells : (Value.string ⟨#[]⟩).cells = #[.string ⟨#[]⟩] := by rfl
  unfold zeroS at hst ⊢
  rw [← hcells] at hst ⊢
  simp [Builtin.clear_, run_underlying Tryz.underlying69, hz, hst]
theorem kept_none {p : Nm → Bool} {L : List Nm} (h : ¬ firstOf p L < L.length) : keptS p L = L := by
  unfold keptS
  rw [List.filter_eq_self]
  intro o ho
  have hl : firstOf p L = L.length := by have : firstOf p L ≤ L.length := List.findIdx_le_length; omega
  unfold firstOf at hl
  rw [List.findIdx_eq_length] at hl
  have := hl o ho
  simp [this]
end Go.Proofs.YtmbfhmjcphoddaaGreatDoor.Gm
set_option linter.unusedSimpArgs false
set_option linter.unusedVariables false
namespace Go.Proofs.YtmbfhmjcphoddaaGreatDoor.Gm
open Go Go.RowKit Go.Maps
attribute [local go_sem ↓] Go.wp_at_zero Go.wp_at_succ
/-- What DeleteFunc leaves of a row. -/
def DelR (B : Nat) (p : Nm → Bool) (L : List Nm) (v : Value) (w : World) (e : Ending) (w' : World) : Prop :=
  ∃ a c, e = .returned (.slice a (keptS p L).length c) ∧ OwnS w' B (.slice a (keptS p L).length c) (keptS p L) ∧ w.grownBy w' v.ownBlock
set_option maxHeartbeats 4000000 in
set_option maxRecDepth 100000 in
theorem delete_s (B bd T : Nat) (p : Nm → Bool) (v : Value) (L : List Nm) (w : World) (hA : Asked bd T p L w) (hT : T ≤ B) (ho : OwnS w B v L) (hlen : L.length ≤ 1000000) :
    Calls Tryz.prog 49 #[v, quest bd] w (DelR B p L v w) := by
  have HI := Lib.hid (index_s bd T p v L w hA ho hlen)
  by_cases hf : firstOf p L < L.length
  · obtain ⟨h0, h | ⟨g, cap, cur, rfl, hBg, hh, hn, hcm, hs, ht⟩⟩ := ho
    · exfalso; have := h.2; omega
    have ho' : OwnS w B (.slice (some ⟨g, 0, none⟩) L.length cap) L := ⟨h0, .inr ⟨g, cap, cur, rfl, hBg, hh, hn, hcm, hs, ht⟩⟩
    have HBG := Lib.hid hBg
    have HD0 := Lib.hid (DelAt.start ho' hf)
    have hI : firstI p L = (firstOf p L : Int) := by unfold firstI; rw [if_pos hf]
    rw [hI] at HI
    obtain ⟨f, hfE⟩ : ∃ f, firstOf p L = f := ⟨_, rfl⟩
    rw [hfE] at HI HD0 hf
    obtain ⟨n, hnE⟩ : ∃ n, L.length = n := ⟨_, rfl⟩
    have HNE := Lib.hid hnE
    have HA := Lib.hid hA
    have HCM := Lib.hid hcm
    have HTg : Hid (T ≤ g) := Lib.hid (Nat.le_trans hT hBg)
    rw [hnE] at hf hn hlen HI ⊢
    have hncap := hn
    have hgl : g < w.heap.size := lt_of_block hh
    have HGL := Lib.hid hgl
    clear h0 hh hn hcm hs ht ho' hBg hI hfE hgl hA hT
    have hfn : ((f : Int) == -1) = false := by rw [Bool.eq_false_iff]; intro h; rw [beq_iff_eq] at h; omega
    go_enter Tryz.func49, Tryz.ntmps49
    go_wp2_with fail
    refine HI.out.mono ?_; rintro e w1 ⟨rfl, b1⟩
    have HD1 := Lib.hid (HD0.out.later b1)
    have HG1 : Hid (w.grownBy w1 (some g)) := Lib.hid (grown_below b1 _)
    clear b1 HI HD0
    go_wp2_with fail
    go_loopw [5, 6] (fun u i wr => ∃ a j : Nat, j ≤ n ∧ a < j ∧ i = .int .i64 j ∧ u = .int .i64 a ∧ Hid (DelAt p L g cap a j wr) ∧ Hid (w.grownBy wr (some g))) (fun _ i _ => n - (intOf i).toNat)
    case atStart => exact ⟨f, f + 1, by omega, by omega, by go_num, rfl, HD1, HG1⟩
    case round =>
      obtain ⟨a, j, hj, haj, rfl, rfl, HD, HG⟩ := hrel
      clear HD1 HG1
      by_cases hjn : j < n
      · have HJ : Hid (j < L.length) := Lib.hid (by rw [HNE.out]; exact hjn)
        have e0 := HD.out.at HJ.out
        have hidx := idx_s g n cap j hjn
        have hidx2 := idx_s g n cap a (by omega)
        have HDl := Lib.hid (fun (W : World) (h : Below wr.heap.size wr W) => HD.out.later h)
        have HLC : Hid (L.length ≤ cap) := Lib.hid (by rw [HNE.out]; exact hncap)
        have hTw : Below T w wr := ⟨HG.out.os, HG.out.tape, HG.out.output, HG.out.size, fun k hk => HG.out.block k (by have := HA.out.1; omega) (by rintro he; have := Option.some.inj he; have := HTg.out; omega)⟩
        have HF := Lib.hid (HA.out.2 wr hTw (L.getD j []) (getD_mem HJ.out))
        obtain ⟨q, hq⟩ : ∃ q, L.getD j [] = q := ⟨_, rfl⟩
        rw [hq] at e0 HF
        have HQ := Lib.hid hq
        unfold encStr at HF e0
        clear hq hTw
        cases hd : p q with
        | true =>
          rw [hd] at HF
          have HY := Lib.hid hd
          clear hd
          go_wp2_with fail
          refine HF.out.mono ?_; rintro e w4 ⟨rfl, b4⟩
          have HDn := Lib.hid ((HDl.out w4 b4).skip HJ.out (by rw [HQ.out]; exact HY.out))
          have HGn : Hid (w.grownBy w4 (some g)) := Lib.hid (HG.out.trans (grown_below b4 _))
          clear b4
          go_wp2_with fail
          go_roundw
          case rel => exact ⟨a, j + 1, by omega, by omega, by go_num, rfl, HDn, HGn⟩
          case measure => simp [intOf]; omega
        | false =>
          rw [hd] at HF
          have HY := Lib.hid hd
          clear hd
          go_wp2_with fail
          refine HF.out.mono ?_; rintro e w4 ⟨rfl, b4⟩
          have HD4 := Lib.hid (HDl.out w4 b4)
          have HDn := Lib.hid (HD4.out.keep HJ.out HLC.out (by rw [HQ.out]; exact HY.out))
          rw [HQ.out] at HDn
          unfold encStr at HDn
          have HGn : Hid (w.grownBy (w4.setCell ⟨g, a, none⟩ (.string ⟨q.toArray⟩)) (some g)) := Lib.hid (grown_set (HG.out.trans (grown_below b4 _)) _)
          obtain ⟨⟨y0, c0⟩, f0⟩ := HD4.out.free (t := a) (by omega)
          clear b4 e0
          go_wp2_with fail
          go_roundw
          case rel => exact ⟨a + 1, j + 1, by omega, by omega, by go_num, by go_num, HDn, HGn⟩
          case measure => simp [intOf]; omega
      · obtain rfl : j = n := by omega
        have s1 := slice_suf_s g j cap a (j - a) haj (by omega) hncap
        have s2 := slice_pre_s (some ⟨g, 0, none⟩) j cap a (by omega) hncap (by intro h; cases h)
        have hcl := fun ty => clear_run wr ty g a (j - a) (cap - a) (by omega) (fun t ht => by obtain ⟨⟨u, hu⟩, _⟩ := HD.out.free (t := a + t) (by omega); rw [hu]; rfl) (fun t ht => (HD.out.free (t := a + t) (by omega)).2)
        have HDj : Hid (DelAt p L g cap a L.length wr) := Lib.hid (by rw [HNE.out]; exact HD.out)
        have HO := Lib.hid (HDj.out.done (by rw [HNE.out]; exact hncap) HCM.out HBG.out (zeroS (j - a)) (by rw [zeroS_length]; omega))
        have HAE : Hid (a = (keptS p L).length) := Lib.hid (by
          obtain ⟨cur, _, _, h3, _⟩ := HDj.out
          rwa [List.take_length] at h3)
        have HGn : Hid (w.grownBy (wr.setCells g a (zeroS (j - a))) (some g)) := Lib.hid (HG.out.trans (setCells_grown8 g _ _ _))
        clear hfn
        go_wp2_with fail
        go_ret
        refine ⟨some ⟨g, 0, none⟩, cap, by rw [← HAE.out]; rfl, by have h := HO.out; rw [← HAE.out]; exact h, HGn.out⟩
  · have hI : firstI p L = -1 := by unfold firstI; rw [if_neg hf]
    rw [hI] at HI
    have hk := kept_none hf
    obtain ⟨a, c, rfl⟩ := own_s ho
    have HO := Lib.hid ho
    have HK := Lib.hid hk
    clear hI hk ho hA
    go_enter Tryz.func49, Tryz.ntmps49
    go_wp2_with fail
    refine HI.out.mono ?_; rintro e w1 ⟨rfl, b1⟩
    have HB1 := Lib.hid b1
    clear b1 HI
    go_wp2_with fail
    go_ret
    refine ⟨a, c, by rw [HK.out]; rfl, by rw [HK.out]; exact own_s_later HO.out HB1.out, grown_below HB1.out _⟩
section
variable {B g bm t nn : Nat} {w : World} {D : DataW Value} {L : List Ent} {q fu : Int} {off : Bool}
/-- Whether a file of that name has no loose bytes. -/
def restE (L : List Ent) (n : Nm) : Bool := decide (looseE L n = 0)
/-- The names of the files that have loose bytes. -/
def unsE (L : List Ent) : List Nm := keptS (restE L) (L.map (·.1))
def UnsR (L : List Ent) (w : World) (e : Ending) (w' : World) : Prop := ∃ v, e = .returned v ∧ OwnS w' w.heap.size v (unsE L) ∧ Below w.heap.size w w'
set_option maxHeartbeats 1000000 in
set_option maxRecDepth 100000 in
theorem unsettled_any (h : Dsk B g bm t nn w D L q fu off) : Calls Tryz.prog 33 #[.pointer (some ⟨g, 0, none⟩)] w (UnsR L w) := by
  have hb := below_one w (.cells #[.pointer (some ⟨g, 0, none⟩)] 26)
  have hk := Blk.new w 26 #[.pointer (some ⟨g, 0, none⟩)]
  have h2 := h.later hb
  have HN := Lib.hid (names_any h2)
  have HA : Hid (Asked w.heap.size (w.heap.size + 1) (restE L) (L.map (·.1)) (w.alloc (.cells #[.pointer (some ⟨g, 0, none⟩)] 26))) := Lib.hid ⟨by simp, fun W hW n hn => by
    obtain ⟨e, he, rfl⟩ := List.mem_map.1 hn
    have hW' : Below (w.alloc (.cells #[.pointer (some ⟨g, 0, none⟩)] 26)).heap.size (w.alloc (.cells #[.pointer (some ⟨g, 0, none⟩)] 26)) W := below_less hW (by simp)
    have := settled1_any (h2.later hW') (n := e.1) (x := e.2) he w.heap.size (hk.later hW')
    have hp := pick_of h.uniq (n := e.1) (x := e.2) he
    unfold restE looseE
    rw [hp]
    exact this⟩
  have HB := Lib.hid hb
  have HL := Lib.hid (show (L.map (·.1)).length ≤ 1000000 by rw [List.length_map]; have := h.len; omega)
  have c0 := hk.cell 0 rfl
  have hl := hk.lt
  clear h h2 hb hk
  go_enter Tryz.func33, Tryz.ntmps33
  go_wp2_with fail
  refine HN.out.mono ?_; rintro e w1 ⟨v, rfl, ho, b1⟩
  have hs : (w.alloc (.cells #[.pointer (some ⟨g, 0, none⟩)] 26)).heap.size = w.heap.size + 1 := by simp
  rw [hs] at ho b1
  have hD := delete_s (w.heap.size + 1) w.heap.size (w.heap.size + 1) (restE L) v (L.map (·.1)) w1 (HA.out.later b1) (Nat.le_refl _) ho HL.out
  have HD := Lib.hid hD
  have HO := Lib.hid ho
  have HB1 := Lib.hid b1
  have HS := Lib.hid hs
  clear hD ho b1 hs
  go_wp2_with fail
  refine HD.out.mono ?_; rintro e w2 ⟨a, c, rfl, ho2, hg2⟩
  have HR : Hid (UnsR L w (.returned (.slice a (unsE L).length c)) w2) := Lib.hid ⟨_, rfl, own_low10 ho2 (Nat.le_succ _), ⟨hg2.os.trans (HB1.out.os.trans HB.out.os), hg2.tape.trans (HB1.out.tape.trans HB.out.tape), hg2.output.trans (HB1.out.output.trans HB.out.output), Nat.le_trans HB.out.size (Nat.le_trans HB1.out.size hg2.size), fun k hk => by
    have h1 := HB.out.block k hk
    have h2 := HB1.out.block k (by omega)
    have h3 := hg2.block k (by have := HB1.out.size; rw [HS.out] at this; omega) (fun e => by have := (World.ownsRow.lt HO.out k e.symm).1; omega)
    exact h3.trans (h2.trans h1)⟩⟩
  clear ho2 hg2
  unfold unsE at HR
  go_wp2_with fail
  go_ret
  exact HR.out
end
end Go.Proofs.YtmbfhmjcphoddaaGreatDoor.Gm
