/- Small facts on values that the walks of statements use: a struct's '!='; how long a text can be. -/
import Derived.Test.YtgjniopcaahgfaaGreatDoorR
set_option linter.unusedSimpArgs false
set_option linter.unusedVariables false
namespace Go.Proofs.YtgjniopcaahgfaaGreatDoor
open Go.RowKit

theorem run_neq_val (k n : Int) (s : ByteArray) (b : Bool) (k' n' : Int) (s' : ByteArray) (b' : Bool) (w : World) :
    (binOp .neq 40 (val k n s b) (val k' n' s' b')).run Tryz.prog w = .ok (.bool (!eqlVal k n s b k' n' s' b')) w := by
  rw [run_neq_struct, run_equalIn_agg _ _ _ _ _ (by kernel_rfl) (by kernel_rfl), fields23]
  simp [go_sem, Op.eqFields, Tryz.underlying3, Tryz.underlying2, Tryz.underlying9, Tryz.underlying4, eqlVal]
  by_cases h1 : k = k' <;> by_cases h2 : n = n' <;> by_cases h3 : s.toList = s'.toList <;> by_cases h4 : b = b' <;> simp [h1, h2, h3, h4]
theorem run_guard_neq (k n : Int) (s : ByteArray) (b : Bool) (k' n' : Int) (s' : ByteArray) (b' : Bool) (x y : Operand) (w : World) :
    (eqGuard .neq 40 x y (val k n s b) (val k' n' s' b')).run Tryz.prog w = .ok () w := run_eqGuard_agg _ _ _ _ _ _ _ (by kernel_rfl)

theorem nDigits_le : ∀ (k u : Nat), u < 10 ^ (k + 1) → Lib.nDigits u ≤ k + 1
  | 0, u, h => by rw [Lib.nDigits_small (by simpa using h)]; omega
  | k + 1, u, h => by
    by_cases h10 : u < 10
    · rw [Lib.nDigits_small h10]; omega
    · rw [Lib.nDigits_big h10]
      have := nDigits_le k (u / 10) (by rw [Nat.pow_succ] at h; omega)
      omega
theorem txt_length {k n : Int} {s : ByteArray} {b : Bool} (h : mayB k n s b = true) (hf : Fits n) : (txt k n s b).length ≤ 200 := by
  rcases txt_kind h with ⟨_, _, _, h4⟩ | ⟨_, _, _, h4, h5⟩ | ⟨_, _, _, h4⟩
  · rw [h4]
    have p20 : (10 : Nat) ^ (19 + 1) = 100000000000000000000 := by decide
    obtain ⟨f1, f2⟩ := hf
    unfold Lib.itoa
    split
    · rw [List.length_cons, Lib.decDigits_length]
      have := nDigits_le 19 n.natAbs (by rw [p20]; omega)
      omega
    · rw [Lib.decDigits_length]
      have := nDigits_le 19 n.toNat (by rw [p20]; omega)
      omega
  · rw [h4]
    have := escAll_length s.data.toList
    have h6 := Lib.size_eq s
    simp only [List.length_cons, List.length_append, List.length_nil]
    omega
  · rw [h4]; cases b
    · rw [formatBool_false]; decide
    · rw [formatBool_true]; decide
theorem eqlVal_self (k n : Int) (s : ByteArray) (b : Bool) : eqlVal k n s b k n s b = true := by simp [eqlVal]
theorem txtSize {k n : Int} {s : ByteArray} {b : Bool} (h : mayB k n s b = true) (hf : Fits n) : (⟨(txt k n s b).toArray⟩ : ByteArray).size ≤ 140737488351232 := by
  have h1 := Lib.size_eq (⟨(txt k n s b).toArray⟩ : ByteArray)
  have h2 := txt_length h hf
  rw [h1]
  show (txt k n s b).length ≤ _
  omega
end Go.Proofs.YtgjniopcaahgfaaGreatDoor
