/- Things laid and read: what WireBack lays, what it reads; plain facts, and the contracts of its two helpers. -/
import Derived.Test.YtapgjplcelbncaaWa
set_option linter.unusedSimpArgs false
set_option linter.unusedVariables false
namespace Go.Proofs.Ytapgjplcelbncaa
open Go.RowKit Gm
attribute [local go_sem ↓] Go.wp_at_zero Go.wp_at_succ

/-- A thing, as plain data. -/
structure ThingV where
  what : Int
  n : Nat
  b : List UInt8
deriving Inhabited
def maxI : Int := 9223372036854775807
def formT (x : ThingV) : List UInt8 := if x.what = 0 then formN x.n else if x.what = 1 then formN (foldI (wrap64 (x.n : Int))) else formN x.b.length ++ x.b
def tOk (L : List UInt8) (x : ThingV) : Bool := if x.what = 0 then ((numV L m64 : Nat) : Int) == (x.n : Int) else if x.what = 1 then intV L == wrap64 (x.n : Int) else bytV L maxI == x.b
def tE (L : List UInt8) (x : ThingV) : Nat := if x.what = 0 then numE L m64 else if x.what = 1 then intE L else bytE L maxI
def tR (L : List UInt8) (x : ThingV) : List UInt8 := if x.what = 0 then numR L m64 else if x.what = 1 then intR L else bytR L maxI
theorem maxI_pos : ¬ maxI < 0 := by unfold maxI; omega
theorem maxI_nat : maxI.toNat = 9223372036854775807 := by unfold maxI; omega
theorem maxI_not {m : Nat} (h : m < 9223372036854775808) : ¬ maxI.toNat < m := by rw [maxI_nat]; omega
theorem wrap64_fits (n : Int) : -9223372036854775808 ≤ wrap64 n ∧ wrap64 n ≤ 9223372036854775807 := by unfold wrap64; omega
theorem formT_len (x : ThingV) (h : x.n < 18446744073709551616) (hb : x.b.length < 9223372036854775808) : 1 ≤ (formT x).length ∧ (formT x).length ≤ 10 + x.b.length := by
  unfold formT
  have h1 := formN_length h
  have h2 := formN_length (fold_lt (wrap64_fits x.n).1 (wrap64_fits x.n).2)
  have h3 := formN_length (v := x.b.length) (by omega)
  split
  · omega
  · split
    · omega
    · rw [List.length_append]; omega
theorem read_form_le {v : Nat} (hv : v < 18446744073709551616) (r : List UInt8) : readN (formN v ++ r) m64 = .ok v (formN v).length := by
  rw [read_form hv, if_neg (by unfold m64; omega)]
theorem i_ahead1 (y : Int) (r : List UInt8) (h1 : -9223372036854775808 ≤ y) (h2 : y ≤ 9223372036854775807) : readN (formN (foldI y) ++ r) m64 = .ok (foldI y) (formN (foldI y)).length := read_form_le (fold_lt h1 h2) r
theorem i_ahead2 (y : Int) (r : List UInt8) (h1 : -9223372036854775808 ≤ y) (h2 : y ≤ 9223372036854775807) : intV (formN (foldI y) ++ r) = y := by
  unfold intV
  rw [i_ahead1 y r h1 h2]
  exact unfold_fold y
theorem i_ahead3 (y : Int) (r : List UInt8) (h1 : -9223372036854775808 ≤ y) (h2 : y ≤ 9223372036854775807) : intE (formN (foldI y) ++ r) = 0 := by
  unfold intE numE
  rw [i_ahead1 y r h1 h2]
theorem i_ahead4 (y : Int) (r : List UInt8) (h1 : -9223372036854775808 ≤ y) (h2 : y ≤ 9223372036854775807) : intR (formN (foldI y) ++ r) = r := by
  unfold intR numR
  rw [i_ahead1 y r h1 h2]
  exact List.drop_left
theorem i_cut (y : Int) (c : Nat) (h1 : -9223372036854775808 ≤ y) (h2 : y ≤ 9223372036854775807) (hc : c < (formN (foldI y)).length) : intE ((formN (foldI y)).take c) = 4 ∧ intR ((formN (foldI y)).take c) = (formN (foldI y)).take c := by
  unfold intE intR numE numR
  rw [read_cut (fold_lt h1 h2) c hc]
  exact ⟨rfl, rfl⟩
/-- What lies ahead is read as it is. -/
theorem t_ahead (x : ThingV) (h : x.n < 18446744073709551616) (hb : x.b.length < 9223372036854775808) (r : List UInt8) : tOk (formT x ++ r) x = true ∧ tE (formT x ++ r) x = 0 ∧ tR (formT x ++ r) x = r := by
  unfold tOk tE tR formT
  by_cases h0 : x.what = 0
  · simp only [if_pos h0]
    unfold numV numE numR
    rw [read_form_le h]
    simp
  · simp only [if_neg h0]
    by_cases h1 : x.what = 1
    · simp only [if_pos h1]
      have hw := wrap64_fits (x.n : Int)
      exact ⟨by rw [i_ahead2 _ r hw.1 hw.2]; exact beq_self_eq_true _, i_ahead3 _ r hw.1 hw.2, i_ahead4 _ r hw.1 hw.2⟩
    · simp only [if_neg h1]
      have hr : readB (formN x.b.length ++ x.b ++ r) maxI = .ok x.b ((formN x.b.length).length + x.b.length) := by
        unfold readB
        rw [if_neg maxI_pos, List.append_assoc, read_form (by omega), if_neg (maxI_not hb)]
        dsimp only
        simp
      unfold bytV bytE bytR
      rw [hr]
      simp
/-- Of a thing's beginning nothing is read: more is wanted. -/
theorem t_cut (x : ThingV) (h : x.n < 18446744073709551616) (hb : x.b.length < 9223372036854775808) (c : Nat) (hc : c < (formT x).length) : tE ((formT x).take c) x = 4 ∧ tR ((formT x).take c) x = (formT x).take c := by
  unfold tE tR
  unfold formT at hc ⊢
  by_cases h0 : x.what = 0
  · simp only [if_pos h0] at hc ⊢
    unfold numE numR
    rw [read_cut h c hc]
    simp
  · simp only [if_neg h0] at hc ⊢
    by_cases h1 : x.what = 1
    · simp only [if_pos h1] at hc ⊢
      have hw := wrap64_fits (x.n : Int)
      exact i_cut _ c hw.1 hw.2 hc
    · simp only [if_neg h1] at hc ⊢
      have hr : readB ((formN x.b.length ++ x.b).take c) maxI = .err 4 := by
        unfold readB
        rw [if_neg maxI_pos]
        by_cases hcl : c < (formN x.b.length).length
        · rw [List.take_append_of_le_length (by omega), read_cut (by omega) c hcl]
        · rw [List.length_append] at hc
          rw [List.take_append, List.take_of_length_le (by omega), read_form (by omega), if_neg (maxI_not hb)]
          have : ((formN x.b.length ++ x.b.take (c - (formN x.b.length).length)).drop (formN x.b.length).length).length < x.b.length := by
            rw [List.drop_left, List.length_take]; omega
          dsimp only
          rw [if_pos this]
      unfold bytE bytR
      rw [hr]
      simp

/-- All that is laid. -/
def formsT (l : List ThingV) : List UInt8 := (l.map formT).flatten
theorem formsT_step {l : List ThingV} {j : Nat} (hj : j < l.length) : formsT (l.take (j + 1)) = formsT (l.take j) ++ formT (l.getD j default) := by
  unfold formsT
  rw [List.take_succ_eq_append_getElem hj, List.map_append, List.flatten_append, List.getD_eq_getElem?_getD, List.getElem?_eq_getElem hj]
  simp
theorem formsT_drop {l : List ThingV} {j : Nat} (hj : j < l.length) : formsT (l.drop j) = formT (l.getD j default) ++ formsT (l.drop (j + 1)) := by
  unfold formsT
  rw [List.drop_eq_getElem_cons hj, List.getD_eq_getElem?_getD, List.getElem?_eq_getElem hj]
  simp only [List.map_cons, List.flatten_cons, List.sum_cons, Option.getD_some]
theorem formsT_cut (l : List ThingV) (j : Nat) : formsT l = formsT (l.take j) ++ formsT (l.drop j) := by
  unfold formsT
  rw [← List.flatten_append, ← List.map_append, List.take_append_drop]
/-- Lengths. -/
def sizeT (l : List ThingV) : Nat := (l.map fun x => 10 + x.b.length).sum
theorem formsT_len (l : List ThingV) (h : ∀ x ∈ l, x.n < 18446744073709551616 ∧ x.b.length < 9223372036854775808) : (formsT l).length ≤ sizeT l := by
  induction l with
  | nil => simp [formsT, sizeT]
  | cons x r ih =>
    have h1 := ih fun y hy => h y (List.mem_cons_of_mem _ hy)
    have h2 := (formT_len x (h x (List.mem_cons_self ..)).1 (h x (List.mem_cons_self ..)).2).2
    have h3 : formsT (x :: r) = formT x ++ formsT r := by simp [formsT]
    have h4 : sizeT (x :: r) = (10 + x.b.length) + sizeT r := by simp [sizeT]
    rw [h3, h4, List.length_append]
    omega
theorem sizeT_cut (l : List ThingV) (j : Nat) : sizeT l = sizeT (l.take j) + sizeT (l.drop j) := by
  unfold sizeT
  rw [← List.sum_append_nat, ← List.map_append, List.take_append_drop]
theorem sizeT_drop {l : List ThingV} {j : Nat} (hj : j < l.length) : sizeT (l.drop j) = (10 + (l.getD j default).b.length) + sizeT (l.drop (j + 1)) := by
  unfold sizeT
  rw [List.drop_eq_getElem_cons hj, List.getD_eq_getElem?_getD, List.getElem?_eq_getElem hj]
  simp only [List.map_cons, List.flatten_cons, List.sum_cons, Option.getD_some]
end Go.Proofs.Ytapgjplcelbncaa
