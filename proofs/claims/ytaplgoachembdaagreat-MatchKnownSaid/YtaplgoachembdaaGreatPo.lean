/- Plain facts on the order of texts, byte by byte: two ways to say it; it is one. -/
import Derived.Test.YtaplgoachembdaaGreatA
import Derived.Lib.Small
import Derived.Lib.Bytealg
import Derived.Laws.IdiomStrings
set_option linter.unusedSimpArgs false
set_option linter.unusedVariables false
namespace Go.Proofs.YtaplgoachembdaaGreat
open Go.RowKit

/-! ### The order of texts: two ways to say it -/
theorem same_of {a b : UInt8} (h : ¬ a < b) (h2 : ¬ b < a) : a = b := by
  have h3 : ¬ a.toNat < b.toNat := fun e => h (UInt8.lt_iff_toNat_lt.2 e)
  have h4 : ¬ b.toNat < a.toNat := fun e => h2 (UInt8.lt_iff_toNat_lt.2 e)
  exact UInt8.toNat_inj.1 (by omega)
theorem less_iff : ∀ (x y : List UInt8), Op.bytesLess x y = (Lib.compareBytes x y == -1)
  | [], [] => rfl
  | [], _ :: _ => rfl
  | _ :: _, [] => rfl
  | a :: x, b :: y => by
    simp only [Op.bytesLess, Lib.compareBytes]
    rw [less_iff x y]
    by_cases h : a < b
    · simp [h]
    · by_cases h2 : b < a
      · have : ¬ a = b := fun e => h (e ▸ (e ▸ h2 : a < a))
        simp [h, h2, this]
      · have : a = b := same_of h h2
        subst this
        simp [h]
theorem compareBytes_neg : ∀ (x y : List UInt8), Lib.compareBytes y x = - Lib.compareBytes x y
  | [], [] => rfl
  | [], _ :: _ => rfl
  | _ :: _, [] => rfl
  | a :: x, b :: y => by
    simp only [Lib.compareBytes]
    by_cases h : a < b
    · have h2 : ¬ b < a := by have := UInt8.lt_iff_toNat_lt.1 h; intro h2; have := UInt8.lt_iff_toNat_lt.1 h2; omega
      simp [h, h2]
    · by_cases h2 : b < a
      · simp [h, h2]
      · simp [h, h2, compareBytes_neg x y]
theorem compareBytes_three : ∀ (x y : List UInt8), Lib.compareBytes x y = -1 ∨ (Lib.compareBytes x y = 0 ∧ x = y) ∨ Lib.compareBytes x y = 1
  | [], [] => .inr (.inl ⟨rfl, rfl⟩)
  | [], _ :: _ => .inl rfl
  | _ :: _, [] => .inr (.inr rfl)
  | a :: x, b :: y => by
    simp only [Lib.compareBytes]
    by_cases h : a < b
    · simp [h]
    · by_cases h2 : b < a
      · simp [h, h2]
      · have e : a = b := same_of h h2
        subst e
        simp only [h, if_false, List.cons.injEq, true_and]
        exact compareBytes_three x y
theorem compareBytes_self (x : List UInt8) : Lib.compareBytes x x = 0 := by
  have := compareBytes_neg x x
  omega

theorem bytes_lt3 : ∀ (x y z : List UInt8), Lib.compareBytes x y = -1 → Lib.compareBytes y z = -1 → Lib.compareBytes x z = -1
  | x, [], z, h, h2 => by cases x <;> simp [Lib.compareBytes] at h
  | x, b :: y, [], h, h2 => by simp [Lib.compareBytes] at h2
  | [], b :: y, c :: z, h, h2 => rfl
  | a :: x, b :: y, c :: z, h, h2 => by
    simp only [Lib.compareBytes, UInt8.lt_iff_toNat_lt] at h h2 ⊢
    by_cases h3 : a.toNat < b.toNat
    · by_cases h4 : b.toNat < c.toNat
      · rw [if_pos (by omega)]
      · rw [if_neg h4] at h2
        by_cases h5 : c.toNat < b.toNat
        · rw [if_pos h5] at h2; omega
        · rw [if_pos (by omega)]
    · rw [if_neg h3] at h
      by_cases h4 : b.toNat < a.toNat
      · rw [if_pos h4] at h; omega
      · rw [if_neg h4] at h
        by_cases h5 : b.toNat < c.toNat
        · rw [if_pos (by omega)]
        · rw [if_neg h5] at h2
          by_cases h6 : c.toNat < b.toNat
          · rw [if_pos h6] at h2; omega
          · rw [if_neg h6] at h2
            rw [if_neg (by omega), if_neg (by omega)]
            exact bytes_lt3 x y z h h2
end Go.Proofs.YtaplgoachembdaaGreat
