/- The program's table of steps of four bits, and one step, as plain functions; what a row lists of the table; the call step. -/
import Derived.Test.YtelocbohiddpgaaDoorYb
import Derived.Test.YtelocbohiddpgaaDoorGb
import Derived.Lib.LaidTab
import Derived.Lib.SmallJoins
import Derived.Laws.BitsAllLaws
set_option linter.unusedSimpArgs false
set_option linter.unusedVariables false
namespace Go.Proofs.YtelocbohiddpgaaDoor.Crc
open Go Go.RowKit Gm
attribute [local go_sem ↓] Go.wp_at_zero Go.wp_at_succ

/-- A sum as a value. -/
abbrev u32V (s : BitVec 32) : Value := .int .u32 (s.toNat : Int)
theorem xor_w (a b : BitVec 32) : bits .xor .u32 (a.toNat : Int) (b.toNat : Int) = ((a ^^^ b).toNat : Int) := by
  rw [u32_xor_nat _ _ a.isLt b.isLt, BitVec.toNat_xor]
theorem shr_w (a : BitVec 32) : (a.toNat : Int) / 16 = ((a >>> 4).toNat : Int) := by
  rw [BitVec.toNat_ushiftRight, Nat.shiftRight_eq_div_pow]; rfl
theorem and_w (a : BitVec 32) : bits .and .u32 (a.toNat : Int) 15 = ((a &&& 15#32).toNat : Int) := by
  have := u32_and_nat a.toNat 15 a.isLt (by decide)
  rw [show ((15 : Nat) : Int) = 15 from rfl] at this
  rw [this, BitVec.toNat_and]; rfl
def stepsTab : List Int := [0, 274646895, 549293790, 820201905, 1098587580, 1361435347, 1640403810, 1905808397, 2197175160, 2460548119, 2722870694, 2987750089, 3280807620, 3553878443, 3811616794, 4084100981]
theorem tab_ok : (List.range 16).all (fun i => stepsTab.getD i 0 == ((stps 4 (BitVec.ofNat 32 i)).toNat : Int)) = true := by decide +kernel
theorem low_lt (s : BitVec 32) : (s &&& 15#32).toNat < 16 := by
  rw [BitVec.toNat_and]
  exact Nat.lt_of_le_of_lt Nat.and_le_right (by decide)
theorem tab_at (s : BitVec 32) : stepsTab.getD (s &&& 15#32).toNat 0 = ((stps 4 (s &&& 15#32)).toNat : Int) := by
  have := List.all_eq_true.1 tab_ok _ (List.mem_range.2 (low_lt s))
  rw [beq_iff_eq] at this
  rw [this, BitVec.ofNat_toNat, BitVec.setWidth_eq]
theorem stp_even {x : BitVec 32} (h : x.getLsbD 0 = false) : stp x = x >>> 1 := by
  unfold stp; rw [h]; simp
theorem stps_even : ∀ (n : Nat) (x : BitVec 32), (∀ i, i < n → x.getLsbD i = false) → stps n x = x >>> n
  | 0, x, _ => by simp [stps]
  | n + 1, x, h => by
    show stps n (stp x) = _
    rw [stp_even (h 0 (by omega)), stps_even n _ fun i hi => by rw [BitVec.getLsbD_ushiftRight, Nat.add_comm]; exact h (i + 1) (by omega)]
    rw [← BitVec.shiftRight_add, Nat.add_comm]
/-- A step of four bits by the table. -/
theorem step_four (s : BitVec 32) : (s >>> 4) ^^^ stps 4 (s &&& 15#32) = stps 4 s := by
  have hs : s = (s &&& ~~~15#32) ^^^ (s &&& 15#32) := by
    refine BitVec.eq_of_getLsbD_eq fun i hi => ?_
    simp only [BitVec.getLsbD_xor, BitVec.getLsbD_and, BitVec.getLsbD_not]
    cases s.getLsbD i <;> cases (15#32).getLsbD i <;> simp [hi]
  have h15 : ∀ i, i < 4 → (15#32).getLsbD i = true := by decide
  have h1 : stps 4 (s &&& ~~~15#32) = s >>> 4 := by
    rw [stps_even 4 _ fun i hi => by rw [BitVec.getLsbD_and, BitVec.getLsbD_not, h15 i hi]; simp]
    refine BitVec.eq_of_getLsbD_eq fun i hi => ?_
    rw [BitVec.getLsbD_ushiftRight, BitVec.getLsbD_ushiftRight, BitVec.getLsbD_and, BitVec.getLsbD_not]
    by_cases h : 4 + i < 32
    · have : (15#32).getLsbD (4 + i) = false := by
        have h2 : ∀ j, j < 28 → (15#32).getLsbD (4 + j) = false := by decide
        exact h2 i (by omega)
      rw [this]; simp [h]
    · rw [BitVec.getLsbD_of_ge _ _ (by omega)]; simp
  conv => rhs; rw [hs, stps_xor, h1]
theorem stps_eight (s : BitVec 32) : stps 4 (stps 4 s) = stps 8 s := (stps_add 4 4 s).symm

/-- What the calls ask of the world: the table reads as the program lays it. -/
def Env (w : World) : Prop := Lib.TabIs Tryd.prog w "pneumatic/crc.steps" .u32 stepsTab
theorem gSteps : Tryd.prog.globalNamed "pneumatic/crc.steps" = some 7 := by kernel_rfl
theorem Env.below {w w' : World} (h : Env w) (hb : Below w.heap.size w w') : Env w' := Joins.tab_stays gSteps h hb (Nat.le_refl _)
theorem Env.alloc {w : World} (h : Env w) (o : Obj) : Env (w.alloc o) := h.below ((Below.refl _ w).alloc (Nat.le_refl _) o)
theorem Env.lt {w : World} (h : Env w) : 7 < w.heap.size := by
  have := Lib.TabIs.cell h gSteps 0 (by decide)
  rcases Nat.lt_or_ge 7 w.heap.size with h' | h'
  · exact h'
  · simp [World.cell?, Array.getElem?_eq_none h'] at this
theorem Env.grown {w w' : World} {R : Nat} (h : Env w) (hg : w.grownBy w' (some R)) (hR : 7 ≠ R) : Env w' := by
  have hl := h.lt
  unfold Env Lib.TabIs World.var? at h ⊢
  rw [gSteps] at h ⊢
  simp only [Option.bind_some] at h ⊢
  rw [hg.block _ hl (by rintro he; exact hR (Option.some.inj he))]
  exact h

theorem step_nat (n hi l t r : Nat) (w : World) (hc : w.cell? ⟨7, l, none⟩ = some (.int .u32 (t : Int))) (h1 : (n : Int) / 16 = (hi : Int)) (h2 : bits .and .u32 (n : Int) 15 = (l : Int)) (h3 : bits .xor .u32 (hi : Int) (t : Int) = (r : Int)) (h4 : (l : Int) < 16) :
    Calls Tryd.prog 102 #[.int .u32 (n : Int)] w (Quits (.int .u32 (r : Int)) w) := by
  go_enter Tryd.func102, Tryd.ntmps102
  go_wp2
  go_ret
  exact ⟨rfl, rfl⟩
theorem step_any (s : BitVec 32) (w : World) (hE : Env w) : Calls Tryd.prog 102 #[u32V s] w (Quits (u32V (stps 4 s)) w) := by
  have hc := Lib.TabIs.cell hE gSteps (s &&& 15#32).toNat (low_lt s)
  rw [tab_at] at hc
  have h3 := xor_w (s >>> 4) (stps 4 (s &&& 15#32))
  rw [step_four] at h3
  exact step_nat _ _ _ _ _ w hc (shr_w s) (and_w s) h3 (by have := low_lt s; omega)
end Go.Proofs.YtelocbohiddpgaaDoor.Crc
