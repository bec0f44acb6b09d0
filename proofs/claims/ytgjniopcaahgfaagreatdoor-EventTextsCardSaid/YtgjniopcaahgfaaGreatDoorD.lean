/- The contract of the document's digits: a number's numeral. -/
import Derived.Test.YtgjniopcaahgfaaGreatDoorR
set_option linter.unusedSimpArgs false
set_option linter.unusedVariables false
namespace Go.Proofs.YtgjniopcaahgfaaGreatDoor
open Go.RowKit

theorem conv_one (W : World) (c : UInt8) : (convert 62 9 (.slice (some ⟨W.heap.size, 0, none⟩) 1 1)).run Tryz.prog (W.alloc (.cells #[bval c] 5)) = .ok (.string ⟨#[c]⟩) (W.alloc (.cells #[bval c] 5)) := by
  refine run_convert_bytes_back (W.alloc (.cells #[bval c] 5)) 62 9 5 ⟨W.heap.size, 0, none⟩ 1 [c] Tryz.underlying62 Tryz.underlying5 Tryz.underlying9 (fun j hj => ?_)
  have : j = 0 := by simp at hj; omega
  subst this
  exact news1 W (bval c) 0 _ rfl

/-- The last digit of u. -/
def dchar (u : Nat) : UInt8 := UInt8.ofNat (48 + u % 10)
theorem dchar_nat (u : Nat) : ((dchar u).toNat : Int) = 48 + (u : Int) % 10 := by unfold dchar; rw [dig_nat _ (by omega)]; omega
theorem cat_one (c : UInt8) (l : List UInt8) : (⟨#[c]⟩ : ByteArray) ++ (⟨l.toArray⟩ : ByteArray) = ⟨(c :: l).toArray⟩ := by
  apply ByteArray.ext
  simp
theorem nDigits_20 : ∀ (k u : Nat), u < 10 ^ (k + 1) → Lib.nDigits u ≤ k + 1
  | 0, u, h => by rw [Lib.nDigits_small (by simpa using h)]; omega
  | k + 1, u, h => by
    by_cases h10 : u < 10
    · rw [Lib.nDigits_small h10]; omega
    · rw [Lib.nDigits_big h10]
      have := nDigits_20 k (u / 10) (by rw [Nat.pow_succ] at h; omega)
      omega

set_option maxHeartbeats 2000000 in
set_option maxRecDepth 20000 in
theorem digits_any (N : Nat) (hN : N ≤ 9223372036854775808) (w : World) : Calls Tryz.prog 31 #[.int .u64 (N : Int)] w (Gives (.string ⟨(Lib.decDigits N).toArray⟩) w) := by
  have hlen : (Lib.decDigits N).length ≤ 20 := by
    have p20 : (10 : Nat) ^ (19 + 1) = 100000000000000000000 := by decide
    rw [Lib.decDigits_length]
    exact nDigits_20 19 N (by rw [p20]; omega)
  have HN := Lib.hid hN
  have HL := Lib.hid hlen
  clear hN hlen
  go_enter Tryz.func31, Tryz.ntmps31
  go_wp2_with fail
  go_loopw [0, 3] (fun vn vs wr => ∃ (u : Nat) (acc : List UInt8), vn = .int .u64 (u : Int) ∧ vs = .string ⟨acc.toArray⟩ ∧ Below w.heap.size w wr ∧ Hid (Lib.decDigits N = Lib.decDigits u ++ acc ∧ u ≤ N)) (fun vn _ _ => (intOf vn).toNat)
  case atStart => exact ⟨N, [], rfl, rfl, Below.refl _ _, Lib.hid ⟨by simp, Nat.le_refl _⟩⟩
  case round =>
    obtain ⟨u, acc, rfl, rfl, hbel, hh⟩ := hrel
    have hu0 : (0 : Int) ≤ (u : Int) := by omega
    have hu1 : (u : Int) ≤ 9223372036854775808 := by have := HN.out; have := hh.out.2; omega
    have hacc : acc.length ≤ 20 := by
      have h1 := congrArg List.length hh.out.1
      have h2 := HL.out
      rw [List.length_append] at h1
      omega
    have hcv := conv_one wr (dchar u)
    unfold bval at hcv
    rw [dchar_nat] at hcv
    have hcat := cat_one (dchar u) acc
    by_cases h10 : u < 10
    · have he : Lib.decDigits N = dchar u :: acc := by
        rw [hh.out.1, Lib.decDigits_one h10]
        unfold dchar
        rw [Nat.mod_eq_of_lt h10]; rfl
      have HE := Lib.hid he
      have hz : ((u : Int) / 10 == 0) = true := by simp; omega
      clear he
      go_wp2
      go_ret
      refine ⟨?_, hbel.alloc hbel.size _⟩
      rw [HE.out]; rfl
    · have he : Lib.decDigits N = Lib.decDigits (u / 10) ++ (dchar u :: acc) := by
        rw [hh.out.1, Lib.decDigits, dif_neg h10, List.append_assoc]
        rfl
      have HE := Lib.hid he
      have hz : ((u : Int) / 10 == 0) = false := by simp; omega
      have h10' : (10 : Int) ≤ (u : Int) := by omega
      have HU := hh
      clear he h10 hh
      go_wp2
      go_roundw
      case rel => exact ⟨u / 10, dchar u :: acc, by simp, rfl, hbel.alloc hbel.size _, Lib.hid ⟨HE.out, by have := HU.out.2; omega⟩⟩
      case measure => simp [intOf]; omega
end Go.Proofs.YtgjniopcaahgfaaGreatDoor
