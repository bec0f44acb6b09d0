/- Layer 12: names of segments, plainly. -/
import Derived.Test.YtelocbohiddpgaaDoorSga
import Derived.Lib.ItoaNum
import Derived.Lib.ParseIntB
import Derived.Lib.Repeat
set_option linter.unusedSimpArgs false
set_option linter.unusedVariables false
namespace Go.Proofs.YtelocbohiddpgaaDoor.Crc
open Go

/-- The lowest k decimal digits of a number, the highest of them first. -/
def low10 : Nat → Nat → List UInt8
  | 0, _ => []
  | k + 1, n => low10 k (n / 10) ++ [UInt8.ofNat (48 + n % 10)]
theorem low10_length : ∀ k n, (low10 k n).length = k
  | 0, _ => rfl
  | k + 1, n => by simp [low10, low10_length k]
theorem low10_front : ∀ k n, low10 (k + 1) n = UInt8.ofNat (48 + n / 10 ^ k % 10) :: low10 k n
  | 0, n => by simp [low10]
  | k + 1, n => by
    have h := low10_front k (n / 10)
    rw [low10, h, Nat.div_div_eq_div_mul, ← Nat.pow_succ']
    rfl
theorem low10_zero : ∀ k, low10 k 0 = List.replicate k 48
  | 0 => rfl
  | k + 1 => by
    rw [low10, low10_zero k, List.replicate_succ']
    rfl
theorem low10_pad : ∀ (k n : Nat), 1 ≤ k → n < 10 ^ k → (Lib.decDigits n).length ≤ k ∧ low10 k n = List.replicate (k - (Lib.decDigits n).length) 48 ++ Lib.decDigits n := by
  intro k
  induction k with
  | zero => intro n h; omega
  | succ k ih =>
    intro n _ hn
    by_cases h10 : n < 10
    · rw [low10, show n / 10 = 0 by omega, low10_zero, Lib.decDigits, dif_pos h10, Nat.mod_eq_of_lt h10]
      refine ⟨by simp, by simp⟩
    · cases k with
      | zero => simp at hn; omega
      | succ k =>
        have h1 := ih (n / 10) (by omega) (by rw [Nat.pow_succ] at hn; omega)
        rw [low10, h1.2, Lib.decDigits, dif_neg h10]
        have h2 := h1.1
        refine ⟨by simp; exact h2, ?_⟩
        rw [← List.append_assoc, List.length_append, List.length_singleton]
        congr 3
        omega
/-- A segment's name. -/
def nameL (p n : Nat) : List UInt8 := 115 :: UInt8.ofNat (48 + p) :: 45 :: low10 13 n
theorem nameL_length (p n : Nat) : (nameL p n).length = 16 := by simp [nameL, low10_length]
/-- What digits say. -/
def numD : Nat → List UInt8 → Option Nat
  | acc, [] => some acc
  | acc, c :: r => if 48 ≤ c.toNat ∧ c.toNat ≤ 57 then numD (10 * acc + (c.toNat - 48)) r else none
theorem numD_lt : ∀ (L : List UInt8) (acc n : Nat), numD acc L = some n → n < (acc + 1) * 10 ^ L.length
  | [], acc, n, h => by simp [numD] at h; simp; omega
  | c :: r, acc, n, h => by
    unfold numD at h
    split at h
    · have h1 := numD_lt r _ n h
      rw [List.length_cons, Nat.pow_succ]
      have h2 : (10 * acc + (c.toNat - 48) + 1) * 10 ^ r.length ≤ ((acc + 1) * 10) * 10 ^ r.length := Nat.mul_le_mul_right _ (by omega)
      have h3 : (acc + 1) * 10 * 10 ^ r.length = (acc + 1) * (10 ^ r.length * 10) := by rw [Nat.mul_assoc, Nat.mul_comm 10]
      omega
    · cases h
theorem parse_numD : ∀ (L : List UInt8) (acc : Nat), (acc + 1) * 10 ^ L.length ≤ 10000000000000 → Lib.parseUintM 18446744073709551615 acc L = match numD acc L with
    | some n => .ok n
    | none => Lib.NumEnd.syntax
  | [], acc, h => rfl
  | c :: r, acc, h => by
    rw [List.length_cons, Nat.pow_succ] at h
    have h0 : 1 ≤ 10 ^ r.length := Nat.one_le_pow _ _ (by decide)
    have h9 : acc + 1 ≤ 1000000000000 := by
      have h3 : (acc + 1) * 10 ≤ (acc + 1) * (10 ^ r.length * 10) := Nat.mul_le_mul_left _ (by omega)
      omega
    unfold Lib.parseUintM numD
    by_cases hd : 48 ≤ c.toNat ∧ c.toNat ≤ 57
    · rw [if_pos hd, if_pos hd, if_neg (by omega), if_neg (by omega), Nat.mul_comm acc 10]
      refine parse_numD r _ ?_
      have h2 : (10 * acc + (c.toNat - 48) + 1) * 10 ^ r.length ≤ ((acc + 1) * 10) * 10 ^ r.length := Nat.mul_le_mul_right _ (by omega)
      have h3 : (acc + 1) * 10 * 10 ^ r.length = (acc + 1) * (10 ^ r.length * 10) := by rw [Nat.mul_assoc, Nat.mul_comm 10]
      omega
    · rw [if_neg hd, if_neg hd]
theorem parse_is {L : List UInt8} (h1 : L ≠ []) (h2 : L.length ≤ 13) : Lib.parseUintB 64 L = match numD 0 L with
    | some n => .ok n
    | none => Lib.NumEnd.syntax := by
  unfold Lib.parseUintB
  rw [if_neg h1]
  refine parse_numD L 0 ?_
  have h := Nat.pow_le_pow_right (n := 10) (by decide) h2
  rw [Nat.zero_add, Nat.one_mul]
  exact Nat.le_trans h (by decide)
theorem numD_app : ∀ (L : List UInt8) (acc : Nat) (c : UInt8), numD acc (L ++ [c]) = (numD acc L).bind fun n => if 48 ≤ c.toNat ∧ c.toNat ≤ 57 then some (10 * n + (c.toNat - 48)) else none
  | [], acc, c => by simp [numD]
  | x :: r, acc, c => by
    simp only [List.cons_append, numD]
    split
    · exact numD_app r _ c
    · rfl
/-- A number that stands in a name behind some bytes, of so many digits, from least to most: the number, and what is behind. -/
def takeP (ahead : List UInt8) (digits least most : Nat) (L : List UInt8) : Option (Nat × List UInt8) :=
  if Lib.hasPrefix L ahead then
    if digits ≤ (L.drop ahead.length).length then
      match numD 0 ((L.drop ahead.length).take digits) with
      | some n => if least ≤ n ∧ n ≤ most then some (n, (L.drop ahead.length).drop digits) else none
      | none => none
    else none
  else none
def parseL (L : List UInt8) : Option (Nat × Nat) := match takeP [115] 1 0 3 L with
  | none => none
  | some (p, b) => match takeP [45] 13 1 1099511627776 b with
    | none => none
    | some (n, b2) => if b2 = [] then some (p, n) else none
/-- What the document asks of a name. -/
def nameOk (L : List UInt8) : Bool := decide (L.length = 16) && decide ((L.getD 0 0).toNat = 115) && decide (48 ≤ (L.getD 1 0).toNat) && decide ((L.getD 1 0).toNat ≤ 51) && decide ((L.getD 2 0).toNat = 45)
theorem parseL_is (L : List UInt8) : parseL L = if nameOk L then (match numD 0 (L.drop 3) with
    | some n => if okN n then some ((L.getD 1 0).toNat - 48, n) else none
    | none => none) else none := by
  unfold parseL takeP nameOk Lib.hasPrefix
  rcases L with _ | ⟨a, _ | ⟨b, _ | ⟨c, t⟩⟩⟩
  · rfl
  · by_cases ha : a = 115 <;> simp [ha, List.isPrefixOf]
  · by_cases ha : a = 115
    · subst ha
      simp only [List.isPrefixOf, beq_self_eq_true, Bool.and_self, Bool.true_and, if_true, List.length_singleton, List.drop_succ_cons, List.drop_zero, List.length_cons, List.length_nil, Nat.zero_add, Nat.le_refl, List.take_succ_cons, List.take_zero, numD]
      by_cases hb : 48 ≤ b.toNat ∧ b.toNat ≤ 57
      · by_cases h3 : b.toNat ≤ 51 <;> simp [hb, h3]
      · simp [hb]
    · have : ((115 : UInt8) == a) = false := beq_eq_false_iff_ne.2 (fun e => ha e.symm)
      simp [List.isPrefixOf, this]
  · by_cases ha : a = 115
    · subst ha
      by_cases hb : 48 ≤ b.toNat ∧ b.toNat ≤ 51
      · have hb2 : 48 ≤ b.toNat ∧ b.toNat ≤ 57 := by omega
        have hb3 : 10 * 0 + (b.toNat - 48) ≤ 3 := by omega
        by_cases hc : c = 45
        · subst hc
          by_cases h13 : t.length = 13
          · have h16 : t.length + 1 + 1 + 1 = 16 := by omega
            have ht : t.take 13 = t := List.take_of_length_le (by omega)
            have hd : t.drop 13 = [] := List.drop_of_length_le (by omega)
            cases hn : numD 0 t with
            | none => simp [List.isPrefixOf, numD, hb, hb2, hb3, h13, ht, hd, hn]
            | some n => by_cases ho : 1 ≤ n ∧ n ≤ 1099511627776 <;> simp [List.isPrefixOf, numD, hb, hb2, hb3, h13, ht, hd, hn, ho, okN]
          · have h16 : ¬ (t.length + 1 + 1 + 1 = 16) := by omega
            by_cases hlt : 13 ≤ t.length
            · have hd : ¬ (t.drop 13 = []) := by rw [List.drop_eq_nil_iff]; omega
              cases hn : numD 0 (t.take 13) with
              | none => simp [List.isPrefixOf, numD, hb, hb2, hb3, hlt, hn, h13]
              | some n => by_cases ho : 1 ≤ n ∧ n ≤ 1099511627776 <;> simp [List.isPrefixOf, numD, hb, hb2, hb3, hlt, hd, hn, ho, h13]
            · simp [List.isPrefixOf, numD, hb, hb2, hb3, hlt, h13]
        · have hc2 : ((45 : UInt8) == c) = false := beq_eq_false_iff_ne.2 (fun e => hc e.symm)
          have hc3 : ¬ (c.toNat = 45) := fun e => hc (UInt8.toNat_inj.1 (by rw [e]; rfl))
          simp [List.isPrefixOf, numD, hb, hb2, hb3, hc2, hc3]
      · by_cases hb2 : 48 ≤ b.toNat ∧ b.toNat ≤ 57
        · have hb3 : ¬ (10 * 0 + (b.toNat - 48) ≤ 3) := by omega
          have hb4 : ¬ (b.toNat ≤ 51) := by omega
          simp [List.isPrefixOf, numD, hb2, hb3, hb4]
        · have hb5 : (decide (48 ≤ b.toNat) && decide (b.toNat ≤ 51)) = false := by simp; omega
          simp [List.isPrefixOf, numD, hb2]
          intros; omega
    · have h1 : ((115 : UInt8) == a) = false := beq_eq_false_iff_ne.2 (fun e => ha e.symm)
      have h2 : ¬ (a.toNat = 115) := fun e => ha (UInt8.toNat_inj.1 (by rw [e]; rfl))
      simp [List.isPrefixOf, h1, h2]
end Go.Proofs.YtelocbohiddpgaaDoor.Crc
