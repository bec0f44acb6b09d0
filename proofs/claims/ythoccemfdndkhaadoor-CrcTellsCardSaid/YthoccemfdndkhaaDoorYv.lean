/- Torn bytes, plain: the loop of CrcTells turns just a stretch of bits; a row of bytes that may be written. -/
import Derived.Test.YthoccemfdndkhaaDoorYr
set_option linter.unusedSimpArgs false
set_option linter.unusedVariables false
namespace Go.Proofs.YthoccemfdndkhaaDoor.Crc
open Go Go.RowKit Gm

/-- Bytes of which of the n bits from k on those were turned that bits tells. -/
def tear (L : List UInt8) (bits k : Nat) : Nat → List UInt8
  | 0 => L
  | n + 1 => if bits.testBit n then (tear L bits k n).set ((k + n) / 8) (UInt8.ofNat (((tear L bits k n).getD ((k + n) / 8) 0).toNat ^^^ 2 ^ ((k + n) % 8))) else tear L bits k n
theorem tear_length (L : List UInt8) (bits k : Nat) : ∀ n, (tear L bits k n).length = L.length
  | 0 => rfl
  | n + 1 => by
    unfold tear
    split
    · rw [List.length_set, tear_length L bits k n]
    · exact tear_length L bits k n
theorem xor_lt (c : UInt8) {r : Nat} (hr : r < 8) : c.toNat ^^^ 2 ^ r < 256 := Nat.xor_lt_two_pow (n := 8) c.toNat_lt (Nat.pow_lt_pow_right (by omega) hr)
theorem tear_bit (L : List UInt8) (bits k : Nat) : ∀ n, k + n ≤ 8 * L.length → ∀ j, j < 8 * L.length → bitAt (tear L bits k n) j = (bitAt L j ^^ (decide (k ≤ j) && decide (j < k + n) && bits.testBit (j - k)))
  | 0, _, j, _ => by
    have : (decide (k ≤ j) && decide (j < k + 0)) = false := by
      by_cases h : k ≤ j
      · have : ¬ (j < k + 0) := by omega
        simp [this]
      · simp [h]
    rw [this]
    simp [tear]
  | n + 1, hn, j, hj => by
    have ih := tear_bit L bits k n (by omega) j hj
    by_cases hjn : j = k + n
    · -- the bit itself
      have h1 : (decide (k ≤ j) && decide (j < k + (n + 1))) = true := by simp; omega
      have h2 : (decide (k ≤ j) && decide (j < k + n)) = false := by
        have : ¬ (j < k + n) := by omega
        simp [this]
      have h3 : j - k = n := by omega
      rw [h2] at ih
      rw [h1, h3, Bool.true_and]
      unfold tear
      by_cases hb : bits.testBit n = true
      · rw [if_pos hb, hb]
        rw [Bool.false_and, Bool.xor_false] at ih
        rw [← ih]
        unfold bitAt
        rw [← hjn]
        simp only [List.getD_eq_getElem?_getD]
        have hl : j / 8 < (tear L bits k n).length := by rw [tear_length]; omega
        rw [List.getElem?_set_self hl, Option.getD_some, UInt8.toNat_ofNat', Nat.mod_eq_of_lt (xor_lt _ (Nat.mod_lt _ (by omega))), Nat.testBit_xor, Nat.testBit_two_pow]
        simp
      · rw [if_neg hb]
        have hb' : bits.testBit n = false := by simpa using hb
        rw [ih, hb', Bool.false_and]
    · have h1 : (decide (k ≤ j) && decide (j < k + (n + 1))) = (decide (k ≤ j) && decide (j < k + n)) := by
        congr 1
        rw [decide_eq_decide]; omega
      rw [h1, ← ih]
      show bitAt (tear L bits k (n + 1)) j = _
      rw [tear]
      split
      · unfold bitAt
        simp only [List.getD_eq_getElem?_getD]
        by_cases hq : (k + n) / 8 = j / 8
        · have hl : j / 8 < (tear L bits k n).length := by rw [tear_length]; omega
          have hr : (k + n) % 8 ≠ j % 8 := by omega
          rw [hq, List.getElem?_set_self hl, Option.getD_some, UInt8.toNat_ofNat', Nat.mod_eq_of_lt (xor_lt _ (Nat.mod_lt _ (by omega))), Nat.testBit_xor, Nat.testBit_two_pow]
          simp [hr]
        · rw [List.getElem?_set_ne hq]
      · rfl
/-- Torn bytes have another sum. -/
theorem tear_tells (L : List UInt8) {bits k : Nat} (hb : bits ≠ 0) (h32 : bits < 4294967296) (hk : k + 32 ≤ 8 * L.length) : (sumL (tear L bits k 32)).toNat ≠ (sumL L).toNat := fun he => by
  refine sum_stretch (tear_length L bits k 32).symm k bits hk ?_ (tear_bit L bits k 32 hk) (BitVec.eq_of_toNat_eq he)
  obtain ⟨i, hi⟩ := Nat.exists_testBit_of_ne_zero hb
  refine ⟨i, ?_, hi⟩
  rcases Nat.lt_or_ge i 32 with h | h
  · exact h
  · have h2 : bits < 2 ^ i := Nat.lt_of_lt_of_le h32 (by calc 4294967296 = 2 ^ 32 := by rfl
      _ ≤ 2 ^ i := Nat.pow_le_pow_right (by omega) h)
    rw [Nat.testBit_lt_two_pow h2] at hi
    cases hi
/-- Bytes in memory that may be written. -/
def Rw (w : World) (g : Nat) (M : List UInt8) : Prop := g < w.heap.size ∧ ∀ j, j < M.length → w.cell? ⟨g, j, none⟩ = some (byteV (M.getD j 0)) ∧ w.frozen? ⟨g, j, none⟩ = false
theorem Rw.of {w : World} {base : Nat} {p : Option Addr} {n c : Nat} {L : List UInt8} (h : OwnB w base (.slice p n c) L) (hl : L ≠ []) : ∃ g, p = some ⟨g, 0, none⟩ ∧ base ≤ g ∧ n = L.length ∧ n ≤ c ∧ Rw w g L := by
  have h0 := h
  rcases h.2 with ⟨_, hz⟩ | ⟨g, cap, cur, e, hb, hh, h2, _⟩
  · exact absurd (List.eq_nil_of_length_eq_zero hz) hl
  · simp only [Value.slice.injEq] at e
    obtain ⟨rfl, rfl, rfl⟩ := e
    refine ⟨g, rfl, hb, rfl, h2, lt_of_block hh, fun i hi => ⟨?_, ?_⟩⟩
    · have h3 := World.ownsRow.cellAt h0 i (by omega)
      rw [h3, cellsB_at hi]
    · exact World.ownsRow.frozenAt h0 i
theorem Rw.set {w : World} {g : Nat} {M : List UInt8} (h : Rw w g M) {k : Nat} (hk : k < M.length) (x : UInt8) : Rw (w.setCell ⟨g, k, none⟩ (byteV x)) g (M.set k x) := by
  refine ⟨by have := h.1; simpa using this, fun j hj => ?_⟩
  rw [List.length_set] at hj
  obtain ⟨h1, h2⟩ := h.2 j hj
  refine ⟨?_, by rw [World.frozen?_setCell]; exact h2⟩
  by_cases e : k = j
  · subst e
    rw [World.cell?_setCell_same _ _ _ h1]
    simp [List.getD_eq_getElem?_getD, List.getElem?_set_self hk]
  · rw [World.cell?_setCell_other _ _ _ _ (by simp [e]), h1]
    simp only [List.getD_eq_getElem?_getD]
    rw [List.getElem?_set_ne e]
theorem Rw.below {w w' : World} {g : Nat} {M : List UInt8} (h : Rw w g M) (hb : Below w.heap.size w w') : Rw w' g M :=
  ⟨Nat.lt_of_lt_of_le h.1 hb.size, fun j hj => ⟨(hb.cell (p := ⟨g, j, none⟩) h.1).trans (h.2 j hj).1, (hb.frozen (p := ⟨g, j, none⟩) h.1).trans (h.2 j hj).2⟩⟩
theorem Rw.bs {w : World} {g n c : Nat} {M : List UInt8} (h : Rw w g M) (hn : M.length = n) (hc : n ≤ c) : Bs w (.slice (some ⟨g, 0, none⟩) n c) M := by
  subst hn
  exact .inr ⟨⟨g, 0, none⟩, c, rfl, hc, fun _ => ⟨g, 0, rfl, h.1, fun i hi => by rw [Nat.zero_add]; exact (h.2 i hi).1⟩⟩
theorem set_belowT {w0 w : World} {B g i : Nat} (h : Below B w0 w) (hg : B ≤ g) (u : Value) : Below B w0 (w.setCell ⟨g, i, none⟩ u) := by
  refine ⟨h.os, h.tape, h.output, by have := h.size; simpa using this, fun k hk => ?_⟩
  rw [Below.heap_setCell _ _ _ _ (by rintro rfl; exact absurd hk (Nat.not_lt.2 hg))]
  exact h.block k hk
theorem takeE_turned (L : List UInt8) {p : Nat} (hp : p < (putL L).length) {d : UInt8} (hd : d ≠ (putL L).getD p 0) : takeE ((putL L).set p d) = 5 := by
  refine (take_none ?_ ?_).1
  · rw [List.length_set, putL_length]; omega
  · refine frame_turned L hp ?_
    rwa [List.getD_eq_getElem?_getD, List.getElem?_eq_getElem hp] at hd
end Go.Proofs.YthoccemfdndkhaaDoor.Crc
