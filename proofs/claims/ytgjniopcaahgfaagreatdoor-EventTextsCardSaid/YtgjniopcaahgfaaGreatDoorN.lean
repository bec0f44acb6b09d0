/- Plain facts on numerals: what a numeral begins with, and that reading it gives the number; the texts of the three kinds are told apart by how they begin. -/
import Derived.Lib.ItoaNum
import Derived.Lib.ParseIntB
import Derived.Lib.Small
set_option linter.unusedSimpArgs false
set_option linter.unusedVariables false
namespace Go.Proofs.YtgjniopcaahgfaaGreatDoor
open Go Go.Lib

theorem decDigits_ne (u : Nat) : decDigits u ≠ [] := by
  rw [decDigits]; split <;> simp

theorem dig_nat (k : Nat) (h : k < 10) : (UInt8.ofNat (48 + k)).toNat = 48 + k := by
  simp; omega

theorem decDigits_all (u : Nat) : ∀ c ∈ decDigits u, 48 ≤ c.toNat ∧ c.toNat ≤ 57 := by
  induction u using Nat.strongRecOn with
  | _ u ih =>
    intro c hc
    rw [decDigits] at hc
    split at hc
    · simp only [List.mem_singleton] at hc; subst hc; rw [dig_nat _ (by omega)]; omega
    · rw [List.mem_append] at hc
      rcases hc with hc | hc
      · exact ih (u / 10) (by omega) c hc
      · simp only [List.mem_singleton] at hc; subst hc; rw [dig_nat _ (by omega)]; omega

theorem parseM_append (M : Nat) (r : List UInt8) : ∀ (l : List UInt8) (acc v : Nat), parseUintM M acc l = .ok v → parseUintM M acc (l ++ r) = parseUintM M v r
  | [], acc, v, h => by simp only [parseUintM] at h; cases h; rfl
  | c :: l, acc, v, h => by
    simp only [List.cons_append, parseUintM] at h ⊢
    split at h
    · rename_i h1
      rw [if_pos h1]
      split at h
      · cases h
      · rename_i h2
        rw [if_neg h2]
        split at h
        · cases h
        · rename_i h3
          rw [if_neg h3]
          exact parseM_append M r l _ v h
    · cases h

theorem parseM_digits (M : Nat) (hM : M ≤ 18446744073709551615) (u : Nat) : u ≤ M → parseUintM M 0 (decDigits u) = .ok u := by
  induction u using Nat.strongRecOn with
  | _ u ih =>
    intro hu
    rw [decDigits]
    split
    · rename_i h
      have hd : (UInt8.ofNat (48 + u)).toNat = 48 + u := dig_nat u h
      simp only [parseUintM, hd]
      rw [if_pos (by omega), if_neg (by omega), if_neg (by omega)]
      congr 1; omega
    · rename_i h
      rw [parseM_append M _ _ 0 (u / 10) (ih (u / 10) (by omega) (by omega))]
      have hd : (UInt8.ofNat (48 + u % 10)).toNat = 48 + u % 10 := dig_nat _ (by omega)
      simp only [parseUintM, hd]
      rw [if_pos (by omega), if_neg (by omega), if_neg (by omega)]
      congr 1; omega

/-- Reading a numeral gives its number. -/
theorem parse_itoa (n : Int) (h1 : -9223372036854775808 ≤ n) (h2 : n ≤ 9223372036854775807) : parseIntB 64 (itoa n) = .ok n := by
  unfold itoa
  split
  · rename_i h
    have hp := parseM_digits 18446744073709551615 (Nat.le_refl _) n.natAbs (by omega)
    simp only [parseIntB]
    have h45 : (45 : UInt8).toNat = 45 := rfl
    rw [if_pos (Or.inr h45)]
    have : parseUintB 64 (decDigits n.natAbs) = .ok n.natAbs := by
      unfold parseUintB; rw [if_neg (decDigits_ne _)]; exact hp
    rw [this]
    simp only [h45, not_true_eq_false, false_and, if_false, true_and, if_true]
    rw [if_neg (by omega)]
    congr 1; omega
  · rename_i h
    have hp := parseM_digits 18446744073709551615 (Nat.le_refl _) n.toNat (by omega)
    have hall := decDigits_all n.toNat
    have hpar : parseUintB 64 (decDigits n.toNat) = .ok n.toNat := by
      unfold parseUintB; rw [if_neg (decDigits_ne _)]; exact hp
    cases hd : decDigits n.toNat with
    | nil => exact absurd hd (decDigits_ne _)
    | cons c r =>
      have hc := hall c (by rw [hd]; exact List.mem_cons_self)
      rw [hd] at hpar
      simp only [parseIntB]
      rw [if_neg (by omega), hpar]
      have h45 : ¬ c.toNat = 45 := by omega
      simp only [h45, not_false_eq_true, true_and, false_and, if_false]
      rw [if_neg (by omega)]
      congr 1; omega

theorem itoa_head (n : Int) : ∃ c r, itoa n = c :: r ∧ (c.toNat = 45 ∨ (48 ≤ c.toNat ∧ c.toNat ≤ 57)) := by
  unfold itoa
  split
  · exact ⟨_, _, rfl, Or.inl rfl⟩
  · have hall := decDigits_all n.toNat
    cases hd : decDigits n.toNat with
    | nil => exact absurd hd (decDigits_ne _)
    | cons c r => exact ⟨c, r, rfl, Or.inr (hall c (by rw [hd]; exact List.mem_cons_self))⟩
theorem itoa_inj (n m : Int) (h1 : -9223372036854775808 ≤ n) (h2 : n ≤ 9223372036854775807) (h3 : -9223372036854775808 ≤ m) (h4 : m ≤ 9223372036854775807) (h : itoa n = itoa m) : n = m := by
  have e1 := parse_itoa n h1 h2
  have e2 := parse_itoa m h3 h4
  rw [h, e2] at e1
  cases e1; rfl
theorem formatBool_true : formatBool true = [116, 114, 117, 101] := by decide
theorem formatBool_false : formatBool false = [102, 97, 108, 115, 101] := by decide
end Go.Proofs.YtgjniopcaahgfaaGreatDoor
