/- Layer 12: parts of rows of records; bytes that are cut and turned. -/
import Derived.Test.YtelocbohiddpgaaGreatDoorSgm
import Derived.Test.YtelocbohiddpgaaGreatDoorFmh
/- Layer 12: records that may stand in one segment, and their forms: laid. -/
set_option linter.unusedSimpArgs false
set_option linter.unusedVariables false
namespace Go.Proofs.YtelocbohiddpgaaGreatDoor.Crc
open Go Go.RowKit Gm
attribute [local go_sem ↓] Go.wp_at_zero Go.wp_at_succ

/-- The first k records. -/
def laidR (first : Nat) (steps : List UInt8) (data : List (List UInt8)) : Nat → List Rc
  | 0 => []
  | k + 1 => laidR first steps data k ++ [⟨nextN first (laidR first steps data k) + (steps.getD k 0).toNat, (data.getD k []).take 1500⟩]
def laidL (first : Nat) (steps : List UInt8) (data : List (List UInt8)) : List Rc := laidR first steps data (min steps.length 40)
theorem laidR_length (first : Nat) (steps : List UInt8) (data : List (List UInt8)) : ∀ k, (laidR first steps data k).length = k
  | 0 => rfl
  | k + 1 => by rw [laidR, List.length_append, laidR_length first steps data k]; rfl
theorem laidR_next (first : Nat) (steps : List UInt8) (data : List (List UInt8)) : ∀ k, first ≤ nextN first (laidR first steps data k) ∧ nextN first (laidR first steps data k) ≤ first + 256 * k
  | 0 => ⟨Nat.le_refl _, by simp [laidR, nextN]⟩
  | k + 1 => by
    have h := laidR_next first steps data k
    have h2 := (steps.getD k 0).toNat_lt
    rw [laidR, next_snoc]
    simp only
    omega
theorem laidR_rises {first : Nat} (h1 : 1 ≤ first) (h2 : first ≤ 1099511527776) (steps : List UInt8) (data : List (List UInt8)) : ∀ k, k ≤ 40 → rises first (laidR first steps data k)
  | 0, _ => trivial
  | k + 1, hk => by
    have h := laidR_next first steps data k
    have h3 := (steps.getD k 0).toNat_lt
    refine rises_snoc (laidR_rises h1 h2 steps data k (by omega)) ?_ ?_
    · rw [okRc_iff]
      simp only [List.length_take]
      omega
    · simp only; omega
theorem laid_rises {first : Nat} (h1 : 1 ≤ first) (h2 : first ≤ 1099511527776) (steps : List UInt8) (data : List (List UInt8)) : rises first (laidL first steps data) := laidR_rises h1 h2 steps data _ (by omega)
theorem laid_len (first : Nat) (steps : List UInt8) (data : List (List UInt8)) : (laidL first steps data).length ≤ 40 := by unfold laidL; rw [laidR_length]; omega
/-- What laid leaves. -/
def LaidR (l : List Rc) (w : World) (e : Ending) (w' : World) : Prop := ∃ v1 v2, e = .returned (.tuple #[v1, v2]) ∧ RowS w' v1 l ∧ OwnB w' w.heap.size v2 (forms l) ∧ Below w.heap.size w w'
theorem set_snd {w : World} {g : Nat} {t : TypeId} {a b : Value} (h : Blk w g t #[a, b]) (y : Value) : Blk (w.setCell ⟨g, 1, none⟩ y) g t #[a, y] := blk_set h y
end Go.Proofs.YtelocbohiddpgaaGreatDoor.Crc
set_option linter.unusedSimpArgs false
set_option linter.unusedVariables false
namespace Go.Proofs.YtelocbohiddpgaaGreatDoor.Crc
open Go Go.RowKit Gm
attribute [local go_sem ↓] Go.wp_at_zero Go.wp_at_succ

theorem getD_take12 (l : List Rc) (k j : Nat) (h : j < k) : (l.take k).getD j default = l.getD j default := by
  rw [List.getD_eq_getElem?_getD, List.getD_eq_getElem?_getD, List.getElem?_take, if_pos h]
theorem getD_drop12 (l : List Rc) (k j : Nat) : (l.drop k).getD j default = l.getD (k + j) default := by
  rw [List.getD_eq_getElem?_getD, List.getD_eq_getElem?_getD, List.getElem?_drop]
theorem add_plain12 (b o j : Nat) : (⟨b, o, none⟩ : Addr).add j = ⟨b, o + j, none⟩ := by unfold Addr.add; split <;> simp_all
theorem slice_pre_s (p : Option Addr) (m cap k : Nat) (hk : k ≤ m) (hc : m ≤ cap) (hp : p = none → cap = 0) (W : World) : (Instr.slice 33 (.slice p m cap) none (some (.int .i64 (k : Int))) none).run Tryz.prog W = .ok (.slice p k cap) W := by
  cases p with
  | none =>
    have := hp rfl
    subst this
    have : k = 0 := by omega
    subst this
    have : m = 0 := by omega
    subst this
    go_simp
  | some a =>
    have h1 : (k : Int) ≤ (cap : Int) := by omega
    have h2 : k ≤ cap := by omega
    go_simp
/-- Records up to a place. -/
theorem rowS_upto {w : World} {v : Value} {l : List Rc} (h : RowS w v l) {k : Nat} (hk : k ≤ l.length) : ∃ p c, (∀ X, (Instr.slice 33 v none (some (.int .i64 (k : Int))) none).run Tryz.prog X = .ok (.slice p k c) X) ∧ RowS w (.slice p k c) (l.take k) := by
  obtain ⟨p, cap, rfl, ⟨h1, h2⟩, h3⟩ := h
  have hl : (l.take k).length = k := by rw [List.length_take]; omega
  refine ⟨p, cap, slice_pre_s p l.length cap k hk h1 h2, p, cap, by rw [hl], ⟨by rw [hl]; omega, h2⟩, fun j hj => ?_⟩
  rw [hl] at hj
  rw [getD_take12 l k j hj]
  exact h3 j (by omega)
/-- Records from a place on. -/
theorem rowS_from {w : World} {v : Value} {l : List Rc} (h : RowS w v l) {k : Nat} (hk : k ≤ l.length) : ∃ p c, (∀ X, (Instr.slice 33 v (some (.int .i64 (k : Int))) none none).run Tryz.prog X = .ok (.slice p (l.length - k) c) X) ∧ RowS w (.slice p (l.length - k) c) (l.drop k) := by
  obtain ⟨p, cap, rfl, ⟨h1, h2⟩, h3⟩ := h
  have hl : (l.drop k).length = l.length - k := List.length_drop
  cases p with
  | none =>
    have := h2 rfl
    subst this
    have h0 : l.length = 0 := by omega
    have hk0 : k = 0 := by omega
    subst hk0
    refine ⟨none, 0, fun X => by rw [h0]; go_simp, none, 0, by rw [hl], ⟨by rw [hl]; omega, fun _ => rfl⟩, fun j hj => ?_⟩
    rw [hl] at hj; omega
  | some a =>
    generalize hm : l.length = m at *
    have h4 : (k : Int) ≤ (cap : Int) := by omega
    have h5 : k ≤ cap := by omega
    have h6 : ¬ ((m : Int) < (k : Int)) := by omega
    have h7 : ¬ (cap < m) := by omega
    refine ⟨if cap = k then some a else some (a.add (k * 2)), cap - k, fun X => ?_, _, cap - k, by rw [hl], ⟨by rw [hl]; omega, fun e => by split at e <;> cases e⟩, fun j hj => ?_⟩
    · by_cases hc : cap = k
      · have h9 : (cap : Int) = (k : Int) := by omega
        go_simp
      · have h9 : ¬ ((cap : Int) = (k : Int)) := by omega
        go_simp
    · rw [hl] at hj
      rw [getD_drop12, if_neg (by omega)]
      obtain ⟨b, o, vj, e1, e2, e3, e4, e5⟩ := h3 (k + j) (by omega)
      simp only [Option.some.injEq] at e1
      subst e1
      exact ⟨b, o + k * 2, vj, by rw [add_plain12], e2, by rw [show o + k * 2 + j * 2 = o + (k + j) * 2 by omega]; exact e3, by rw [show o + k * 2 + j * 2 + 1 = o + (k + j) * 2 + 1 by omega]; exact e4, e5⟩
theorem whole_next12 {l : List Rc} {k : Nat} (hk : k < l.length) : wholeS (l.take (k + 1)) = wholeS (l.take k) + sizeF l[k] := by
  rw [List.take_succ_eq_append_getElem hk, wholeS_snoc]
theorem seg_at {F : Nat} {l : List Rc} (hf : okN F = true) (h : rises F l) {at_ want : Nat} (hw : want ≤ l.length) (h1 : wholeS (l.take want) ≤ at_) (h2 : want < l.length → at_ < wholeS (l.take (want + 1))) (h3 : at_ ≤ wholeS l) : segL ((forms l).take at_) F = l.take want := by
  by_cases hlt : want < l.length
  · have h4 := h2 hlt
    rw [whole_next12 hlt] at h4
    have := seg_cut hf h hlt (q := at_ - wholeS (l.take want)) (by omega)
    rwa [show wholeS (l.take want) + (at_ - wholeS (l.take want)) = at_ by omega] at this
  · have e : l.take want = l := List.take_of_length_le (by omega)
    rw [e] at h1 ⊢
    rw [List.take_of_length_le (by rw [forms_length]; exact h1)]
    exact seg_all hf h
/-- How many records are left where the last byte is another one. -/
def tornK (at_ size want : Nat) : Nat := if at_ = size then want - 1 else want
theorem seg_torn_at {F : Nat} {l : List Rc} (hf : okN F = true) (h : rises F l) {at_ want : Nat} (hw : want ≤ l.length) (h1 : wholeS (l.take want) ≤ at_) (h2 : want < l.length → at_ < wholeS (l.take (want + 1))) (h3 : at_ ≤ wholeS l) (h4 : 1 ≤ at_) {c : UInt8} (hc : c ≠ (forms l).getD (at_ - 1) 0) : segL (((forms l).take at_).set (at_ - 1) c) F = l.take (tornK at_ (wholeS (l.take want)) want) := by
  unfold tornK
  by_cases he : at_ = wholeS (l.take want)
  · rw [if_pos he]
    cases want with
    | zero => simp [wholeS_nil] at he; omega
    | succ k =>
      have hk : k < l.length := by omega
      have h5 := whole_next12 hk
      have h6 := sizeF_ge l[k]
      have := seg_torn hf h hk (q := sizeF l[k] - 1) (by omega) (c := c) (by rw [show wholeS (l.take k) + (sizeF l[k] - 1) = at_ - 1 by omega]; exact hc)
      rw [show wholeS (l.take k) + (sizeF l[k] - 1) = at_ - 1 by omega, show at_ - 1 + 1 = at_ by omega] at this
      exact this
  · rw [if_neg he]
    have hlt : want < l.length := by
      rcases Nat.lt_or_ge want l.length with h5 | h5
      · exact h5
      · rw [List.take_of_length_le h5] at he h1
        omega
    have h4' := h2 hlt
    rw [whole_next12 hlt] at h4'
    have := seg_torn hf h hlt (q := at_ - 1 - wholeS (l.take want)) (by omega) (c := c) (by rw [show wholeS (l.take want) + (at_ - 1 - wholeS (l.take want)) = at_ - 1 by omega]; exact hc)
    rw [show wholeS (l.take want) + (at_ - 1 - wholeS (l.take want)) = at_ - 1 by omega, show at_ - 1 + 1 = at_ by omega] at this
    exact this
theorem whole_take_le (l : List Rc) (k : Nat) : wholeS (l.take k) ≤ wholeS l := by
  have h := wholeS_app (l.take k) (l.drop k)
  rw [List.take_append_drop] at h
  omega
theorem put_at {l : List Rc} {F : Nat} (h : rises F l) {k : Nat} (hk : k < l.length) : okRc (l.getD k default) = true := rises_ok h _ (by rw [getD_at12 hk]; exact List.getElem_mem hk)
theorem okRc_64 {r : Rc} (h : okRc r = true) : r.n < 18446744073709551616 := by have := ((okRc_iff r).1 h).1; omega
theorem xor_u8_12 (a b : UInt8) : bits .xor .u8 (a.toNat : Int) (b.toNat : Int) = ((a ^^^ b).toNat : Int) := by
  rw [u8_xor_nat _ _ a.toNat_lt b.toNat_lt, UInt8.toNat_xor]
theorem xor_ne12 {a b : UInt8} (h : b ≠ 0) : a ^^^ b ≠ a := fun e => h (by
  have h1 : a ^^^ (a ^^^ b) = a ^^^ a := by rw [e]
  rwa [← UInt8.xor_assoc, UInt8.xor_self, UInt8.zero_xor] at h1)
theorem own_turn12 {w : World} {B g cap : Nat} {b : List UInt8} {n : Nat} (hn : b.length = n) (h : OwnB w B (.slice (some ⟨g, 0, none⟩) n cap) b) (j : Nat) (c : UInt8) : OwnB (w.setCell ⟨g, j, none⟩ (byteV c)) B (.slice (some ⟨g, 0, none⟩) n cap) (b.set j c) := by
  subst hn
  have h1 := (World.ownsRow.stored h j (byteV c)).1
  unfold OwnB cellsB at *
  rw [List.length_set, List.map_set]
  exact h1
theorem torn_row12 {w : World} {base n c q : Nat} {p : Option Addr} {X : List UInt8} (h : w.ownsRow base 5 1 (.slice p n c) n (cellsB [] ++ cellsB X)) (hX : X.length = n) (hq : q < n) : ∃ g, p = some ⟨g, 0, none⟩ ∧ base ≤ g ∧ g < w.heap.size ∧ w.cell? ⟨g, q, none⟩ = some (byteV (X.getD q 0)) ∧ w.frozen? ⟨g, q, none⟩ = false ∧ OwnB w base (.slice p n c) X := by
  subst hX
  have ho : OwnB w base (.slice p X.length c) X := h
  obtain ⟨g, cap, e, hb, hlt, hw⟩ := ho.row (by intro e; rw [e] at hq; simp at hq)
  simp only [Value.slice.injEq] at e
  obtain ⟨rfl, -, rfl⟩ := e
  refine ⟨g, rfl, hb, hlt, ?_, (hw q hq).choose_spec.2, ho⟩
  have h3 := World.ownsRow.cellAt ho q (by omega)
  rw [h3, cellsB_at hq]
theorem set_below12 {w0 w : World} {B g i : Nat} (h : Below B w0 w) (hg : B ≤ g) (u : Value) : Below B w0 (w.setCell ⟨g, i, none⟩ u) := h.setCell (p := ⟨g, i, none⟩) hg u
end Go.Proofs.YtelocbohiddpgaaGreatDoor.Crc
