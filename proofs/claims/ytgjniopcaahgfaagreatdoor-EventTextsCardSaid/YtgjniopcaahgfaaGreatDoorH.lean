/- The contracts of the document's hex and number. -/
import Derived.Test.YtgjniopcaahgfaaGreatDoorD
set_option linter.unusedSimpArgs false
set_option linter.unusedVariables false
namespace Go.Proofs.YtgjniopcaahgfaaGreatDoor
open Go.RowKit

/-- What the document's hex answers: a small digit's worth; -1: it is none. -/
def hexI (c : UInt8) : Int := if 48 ≤ c.toNat ∧ c.toNat ≤ 57 then (c.toNat : Int) - 48 else if 97 ≤ c.toNat ∧ c.toNat ≤ 102 then (c.toNat : Int) - 87 else -1
theorem hexI_dig (c : UInt8) (h : 0 ≤ hexI c) : dig16 c = some (hexI c).toNat := by
  have key : ∀ k : Fin 256, 0 ≤ hexI (UInt8.ofNat k.val) → dig16 (UInt8.ofNat k.val) = some (hexI (UInt8.ofNat k.val)).toNat := by decide +kernel
  have := key ⟨c.toNat, c.toNat_lt⟩
  simp only [UInt8.ofNat_toNat] at this
  exact this h
theorem hexI_le (c : UInt8) : hexI c ≤ 15 := by unfold hexI; split <;> (try split) <;> omega
theorem hexI_lo (c : UInt8) : -1 ≤ hexI c := by unfold hexI; split <;> (try split) <;> omega
theorem hexI_hexd (k : Nat) (h : k < 16) : 0 ≤ hexI (hexd k) := by
  have key : ∀ k : Fin 16, 0 ≤ hexI (hexd k.val) := by decide +kernel
  exact key ⟨k, h⟩

set_option maxHeartbeats 1000000 in
set_option maxRecDepth 20000 in
theorem hex_any (c : UInt8) (w : World) : Calls Tryz.prog 48 #[bval c] w fun e w' => e = .returned (.int .i64 (hexI c)) ∧ w = w' := by
  have hc := c.toNat_lt
  by_cases h1 : 48 ≤ c.toNat ∧ c.toNat ≤ 57
  · have e : hexI c = (c.toNat : Int) - 48 := by unfold hexI; rw [if_pos h1]
    rw [e]
    obtain ⟨a, b⟩ := h1
    clear e
    go_enter Tryz.func48, Tryz.ntmps48
    go_wp2
    go_ret
    exact ⟨rfl, rfl⟩
  · by_cases h2 : 97 ≤ c.toNat ∧ c.toNat ≤ 102
    · have e : hexI c = (c.toNat : Int) - 97 + 10 := by unfold hexI; rw [if_neg h1, if_pos h2]; omega
      rw [e]
      obtain ⟨a, b⟩ := h2
      clear e h1
      go_enter Tryz.func48, Tryz.ntmps48
      go_wp2
      go_ret
      exact ⟨rfl, rfl⟩
    · have e : hexI c = -1 := by unfold hexI; rw [if_neg h1, if_neg h2]
      rw [e]
      clear e
      go_enter Tryz.func48, Tryz.ntmps48
      go_wp2
      all_goals go_ret
      all_goals exact ⟨rfl, rfl⟩

/-- What digits say, behind acc. -/
def decVal (acc : Nat) : List UInt8 → Nat
  | [] => acc
  | c :: r => decVal (10 * acc + (c.toNat - 48)) r
theorem decVal_append (r : List UInt8) : ∀ (l : List UInt8) (acc : Nat), decVal acc (l ++ r) = decVal (decVal acc l) r
  | [], _ => rfl
  | c :: l, acc => decVal_append r l (10 * acc + (c.toNat - 48))
theorem decVal_one (acc : Nat) (c : UInt8) : decVal acc [c] = 10 * acc + (c.toNat - 48) := rfl
theorem decVal_digits (u : Nat) : decVal 0 (Lib.decDigits u) = u := by
  induction u using Nat.strongRecOn with
  | _ u ih =>
    by_cases h : u < 10
    · rw [Lib.decDigits_one h, decVal_one, dig_nat _ h]; omega
    · have e : Lib.decDigits u = Lib.decDigits (u / 10) ++ [UInt8.ofNat (48 + u % 10)] := by rw [Lib.decDigits, dif_neg h]
      rw [e, decVal_append, ih (u / 10) (by omega), decVal_one, dig_nat _ (by omega)]
      omega
theorem decVal_lt : ∀ (l : List UInt8) (acc : Nat), (∀ c ∈ l, 48 ≤ c.toNat ∧ c.toNat ≤ 57) → decVal acc l < (acc + 1) * 10 ^ l.length
  | [], acc, _ => by show acc < (acc + 1) * 10 ^ 0; omega
  | c :: l, acc, h => by
    show decVal (10 * acc + (c.toNat - 48)) l < (acc + 1) * 10 ^ (l.length + 1)
    have h1 := decVal_lt l (10 * acc + (c.toNat - 48)) (fun x hx => h x (List.mem_cons_of_mem _ hx))
    have h2 := h c List.mem_cons_self
    have h3 : (10 * acc + (c.toNat - 48) + 1) * 10 ^ l.length ≤ ((acc + 1) * 10) * 10 ^ l.length := Nat.mul_le_mul_right _ (by omega)
    rw [Nat.pow_succ, Nat.mul_comm (10 ^ l.length) 10, ← Nat.mul_assoc]
    omega


/-- What number's answer is worth. -/
def NumOK (s : ByteArray) (n : Int) (is : Bool) : Prop :=
  (is = true → Fits n ∧ ∃ c r, s.data.toList = c :: r ∧ (c.toNat = 45 ∨ (48 ≤ c.toNat ∧ c.toNat ≤ 57))) ∧ (∀ n', Fits n' → s.data.toList = Lib.itoa n' → is = true ∧ n = n')
theorem digits_len {u : Nat} (h : u ≤ 9223372036854775808) : (Lib.decDigits u).length ≤ 19 := by
  have p19 : (10 : Nat) ^ (18 + 1) = 10000000000000000000 := by decide
  rw [Lib.decDigits_length]
  exact nDigits_20 18 u (by rw [p19]; omega)
/-- A number that fits has a numeral of this form. -/
theorem itoa_form {n' : Int} (hf : Fits n') : (∃ u : Nat, n' = -(u : Int) ∧ 1 ≤ u ∧ u ≤ 9223372036854775808 ∧ Lib.itoa n' = 45 :: Lib.decDigits u) ∨ (∃ u : Nat, n' = (u : Int) ∧ u ≤ 9223372036854775807 ∧ Lib.itoa n' = Lib.decDigits u) := by
  obtain ⟨h1, h2⟩ := hf
  by_cases h : n' < 0
  · refine .inl ⟨n'.natAbs, by omega, by omega, by omega, ?_⟩
    unfold Lib.itoa; rw [if_pos h]
  · refine .inr ⟨n'.toNat, by omega, by omega, ?_⟩
    unfold Lib.itoa; rw [if_neg h]
theorem no_head {u : Nat} {r : List UInt8} (h : Lib.decDigits u = 45 :: r) : False := by
  have := decDigits_all u 45 (by rw [h]; exact List.mem_cons_self)
  exact absurd this.1 (by decide)
theorem numok_neg {s : ByteArray} {r : List UInt8} (hs : s.data.toList = 45 :: r) {v : Nat} (hv : decVal 0 r = v) :
    (v ≤ 9223372036854775808 → NumOK s (-(v : Int)) true) ∧ (9223372036854775808 < v → ∀ n, NumOK s n false) := by
  refine ⟨fun h => ⟨fun _ => ⟨⟨by omega, by omega⟩, 45, r, hs, .inl rfl⟩, fun n' hf he => ?_⟩, fun h n => ⟨(fun h => by cases h), fun n' hf he => ?_⟩⟩
  · rcases itoa_form hf with ⟨u, rfl, _, hu, e⟩ | ⟨u, rfl, hu, e⟩
    · rw [hs, e] at he
      simp only [List.cons.injEq, true_and] at he
      rw [he, decVal_digits] at hv
      exact ⟨rfl, by omega⟩
    · rw [hs, e] at he
      exact (no_head he.symm).elim
  · rcases itoa_form hf with ⟨u, rfl, _, hu, e⟩ | ⟨u, rfl, hu, e⟩
    · rw [hs, e] at he
      simp only [List.cons.injEq, true_and] at he
      rw [he, decVal_digits] at hv
      omega
    · rw [hs, e] at he
      exact (no_head he.symm).elim
theorem numok_pos {s : ByteArray} {c : UInt8} {r : List UInt8} (hs : s.data.toList = c :: r) (hc : 48 ≤ c.toNat ∧ c.toNat ≤ 57) {v : Nat} (hv : decVal 0 (c :: r) = v) :
    (v ≤ 9223372036854775807 → NumOK s (v : Int) true) ∧ (9223372036854775807 < v → ∀ n, NumOK s n false) := by
  have hne : ∀ u, c :: r = 45 :: Lib.decDigits u → False := fun u e => by
    simp only [List.cons.injEq] at e
    rw [e.1] at hc
    exact absurd hc.1 (by decide)
  refine ⟨fun h => ⟨fun _ => ⟨⟨by omega, by omega⟩, c, r, hs, .inr hc⟩, fun n' hf he => ?_⟩, fun h n => ⟨(fun h => by cases h), fun n' hf he => ?_⟩⟩
  · rcases itoa_form hf with ⟨u, rfl, _, hu, e⟩ | ⟨u, rfl, hu, e⟩
    · rw [hs, e] at he; exact (hne u he).elim
    · rw [hs, e] at he
      rw [he, decVal_digits] at hv
      exact ⟨rfl, by omega⟩
  · rcases itoa_form hf with ⟨u, rfl, _, hu, e⟩ | ⟨u, rfl, hu, e⟩
    · rw [hs, e] at he; exact (hne u he).elim
    · rw [hs, e] at he
      rw [he, decVal_digits] at hv
      omega
/-- What no numeral looks like: none behind a '-', too long, or with a byte that is no digit. -/
theorem numok_bad_neg {s : ByteArray} {r : List UInt8} (hs : s.data.toList = 45 :: r) (h : r = [] ∨ 19 < r.length ∨ ∃ c ∈ r, ¬ (48 ≤ c.toNat ∧ c.toNat ≤ 57)) (n : Int) : NumOK s n false := by
  refine ⟨(fun h => by cases h), fun n' hf he => ?_⟩
  rcases itoa_form hf with ⟨u, rfl, _, hu, e⟩ | ⟨u, rfl, hu, e⟩
  · rw [hs, e] at he
    simp only [List.cons.injEq, true_and] at he
    subst he
    rcases h with h | h | ⟨c, hc, h⟩
    · exact absurd h (decDigits_ne u)
    · have := digits_len hu; omega
    · exact absurd (decDigits_all u c hc) h
  · rw [hs, e] at he
    exact (no_head he.symm).elim
theorem numok_bad_pos {s : ByteArray} (hs : ∀ r, s.data.toList ≠ 45 :: r) (h : s.data.toList = [] ∨ 19 < s.data.toList.length ∨ ∃ c ∈ s.data.toList, ¬ (48 ≤ c.toNat ∧ c.toNat ≤ 57)) (n : Int) : NumOK s n false := by
  refine ⟨(fun h => by cases h), fun n' hf he => ?_⟩
  rcases itoa_form hf with ⟨u, rfl, _, hu, e⟩ | ⟨u, rfl, hu, e⟩
  · exact absurd (he.trans e) (hs _)
  · rw [he, e] at h
    rcases h with h | h | ⟨c, hc, h⟩
    · exact absurd h (decDigits_ne u)
    · have := digits_len (u := u) (by omega); omega
    · exact absurd (decDigits_all u c hc) h

/-- What number leaves. -/
def Num (s : ByteArray) (w : World) (e : Ending) (w' : World) : Prop := ∃ n is, e = .returned (.tuple #[.int .i64 n, .bool is]) ∧ NumOK s n is ∧ w = w'

/-- The loop's bookkeeping at a rest r: k bytes are read, all digits; they are worth acc. -/
def HnInv (r : ByteArray) (k : Nat) (a : Int) : Prop := ∃ acc : Nat, a = (acc : Int) ∧ acc = decVal 0 (r.data.toList.take k) ∧ ∀ c ∈ r.data.toList.take k, 48 ≤ c.toNat ∧ c.toNat ≤ 57
theorem take_next (r : ByteArray) (k : Nat) (h : k < r.size) : r.data.toList.take (k + 1) = r.data.toList.take k ++ [r[k]] := by
  rw [List.take_succ_eq_append_getElem (by simpa using h)]
  rfl
theorem HnInv.bounds {r : ByteArray} {k : Nat} {a : Int} (h : HnInv r k a) (hk : k ≤ 19) : 0 ≤ a ∧ a < 10000000000000000000 ∧ (k ≤ 18 → a < 1000000000000000000) := by
  obtain ⟨acc, rfl, rfl, hall⟩ := h
  have h1 := decVal_lt _ 0 hall
  have h2 : (r.data.toList.take k).length ≤ k := List.length_take_le _ _
  have h3 : (10 : Nat) ^ (r.data.toList.take k).length ≤ 10 ^ k := Nat.pow_le_pow_right (by omega) h2
  have h4 : (10 : Nat) ^ k ≤ 10 ^ 19 := Nat.pow_le_pow_right (by omega) hk
  have p19 : (10 : Nat) ^ 19 = 10000000000000000000 := by decide
  have p18 : (10 : Nat) ^ 18 = 1000000000000000000 := by decide
  refine ⟨by omega, by omega, fun h5 => ?_⟩
  have h6 : (10 : Nat) ^ k ≤ 10 ^ 18 := Nat.pow_le_pow_right (by omega) h5
  omega
theorem HnInv.next {r : ByteArray} {k : Nat} {a : Int} (h : HnInv r k a) (hk : k < r.size) (hd : 48 ≤ r[k].toNat ∧ r[k].toNat ≤ 57) : HnInv r (k + 1) (10 * a + ((r[k].toNat : Int) - 48)) := by
  obtain ⟨acc, rfl, rfl, hall⟩ := h
  refine ⟨10 * decVal 0 (r.data.toList.take k) + (r[k].toNat - 48), by omega, ?_, ?_⟩
  · rw [take_next r k hk, decVal_append, decVal_one]
  · rw [take_next r k hk]
    intro c hc
    rw [List.mem_append] at hc
    rcases hc with hc | hc
    · exact hall c hc
    · simp only [List.mem_singleton] at hc; subst hc; exact hd
end Go.Proofs.YtgjniopcaahgfaaGreatDoor
