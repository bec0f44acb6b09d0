/- Layer 12: the table of a name's numbers; may, isNumber, fault. -/
import Derived.Test.YtelocbohiddpgaaGreatDoorSga
import Derived.Test.YtelocbohiddpgaaGreatDoorFmg
import Derived.Test.YtelocbohiddpgaaGreatDoorWy
set_option linter.unusedSimpArgs false
set_option linter.unusedVariables false
namespace Go.Proofs.YtelocbohiddpgaaGreatDoor.Crc
open Go Go.RowKit Gm
attribute [local go_sem ↓] Go.wp_at_zero Go.wp_at_succ

/-- The table's cells, as its text lays them. -/
def partsC : List Value := [.string ⟨#[115]⟩, .int .i64 1, .int .u64 0, .int .u64 3, .string ⟨#[45]⟩, .int .i64 13, .int .u64 1, .int .u64 1099511627776]
def PartsIs (w : World) : Prop := ∀ k u, partsC[k]? = some u → w.cell? ⟨0, k, none⟩ = some u
theorem PartsIs.below {w w' : World} (h : PartsIs w) (hb : Below w.heap.size w w') : PartsIs w' := fun k u hu => by
  have h1 := h k u hu
  exact (hb.cell (p := ⟨0, k, none⟩) (World.block_lt_of_cell? _ _ h1)).trans h1
/-- A number of a name, as a value. -/
abbrev partV (a : ByteArray) (d l m : Nat) : Value := .agg #[.string a, .int .i64 (d : Int), .int .u64 (l : Int), .int .u64 (m : Int)]
theorem pmay_any (a : ByteArray) (d l m n : Nat) (w : World) : Calls Tryz.prog 67 #[partV a d l m, .int .u64 (n : Int)] w (Gives (.bool (decide (l ≤ n) && decide (n ≤ m))) w) := by
  have hB := below_one w (.cells #[.string a, .int .i64 (d : Int), .int .u64 (l : Int), .int .u64 (m : Int)] 119)
  have HB := Lib.hid hB
  have hK := Blk.new w 119 #[.string a, .int .i64 (d : Int), .int .u64 (l : Int), .int .u64 (m : Int)]
  have k2 := hK.cell 2 rfl
  have k3 := hK.cell 3 rfl
  clear hB hK
  by_cases h1 : l ≤ n
  · have e1 : (l : Int) ≤ n := by omega
    have e1' : ¬ ((n : Int) < l) := by omega
    by_cases h2 : n ≤ m
    · have e2 : (n : Int) ≤ m := by omega
      have e2' : ¬ ((m : Int) < n) := by omega
      go_enter Tryz.func67, Tryz.ntmps67
      go_wp2_with fail
      go_ret
      exact ⟨by simp [h1, h2], HB.out⟩
    · have e2 : ¬ ((n : Int) ≤ m) := by omega
      have e2' : (m : Int) < n := by omega
      go_enter Tryz.func67, Tryz.ntmps67
      go_wp2_with fail
      go_ret
      exact ⟨by simp [h1, h2], HB.out⟩
  · have e1 : ¬ ((l : Int) ≤ n) := by omega
    have e1' : (n : Int) < l := by omega
    go_enter Tryz.func67, Tryz.ntmps67
    go_wp2_with fail
    go_ret
    exact ⟨by simp [h1], HB.out⟩
theorem isnum_any (n : Nat) (w : World) (hP : PartsIs w) : Calls Tryz.prog 30 #[.int .u64 (n : Int)] w (Gives (.bool (okN n)) w) := by
  have k4 := hP 4 _ rfl
  have k5 := hP 5 _ rfl
  have k6 := hP 6 _ rfl
  have k7 := hP 7 _ rfl
  have HM := Lib.hid (pmay_any ⟨#[45]⟩ 13 1 1099511627776 n)
  clear hP
  go_enter Tryz.func30, Tryz.ntmps30
  go_wp2_with fail
  refine (HM.out _).mono ?_; rintro e w1 ⟨rfl, b1⟩
  rw [show (decide (1 ≤ n) && decide (n ≤ 1099511627776)) = okN n from rfl]
  go_wp2_with fail
  go_ret
  exact ⟨rfl, b1⟩
/-- A record, as a value. -/
abbrev recV (n : Nat) (v : Value) : Value := .agg #[.int .u64 (n : Int), v]
def faultE (n len : Nat) : Nat := if okN n then (if 1500 < len then 3 else 0) else 1
theorem fault_ok (n : Nat) (d : List UInt8) : faultE n d.length = 0 ↔ okRc ⟨n, d⟩ = true := by
  unfold faultE okRc
  cases h : okN n
  · simp
  · by_cases h2 : 1500 < d.length
    · simp [h2]
    · simp [h2]; omega
theorem fault_any (n : Nat) (p : Option Addr) (len cap : Nat) (w : World) (hP : PartsIs w) : Calls Tryz.prog 26 #[recV n (.slice p len cap)] w (Gives (.int .i64 (faultE n len : Nat)) w) := by
  have HB := Lib.hid (below_one w (.cells #[.int .u64 (n : Int), .slice p len cap] 30))
  have hK := Blk.new w 30 #[.int .u64 (n : Int), .slice p len cap]
  have k0 := hK.cell 0 rfl
  have HK := Lib.hid hK
  have HN := Lib.hid (isnum_any n _ (hP.below HB.out))
  clear hP hK
  go_enter Tryz.func26, Tryz.ntmps26
  go_wp2_with fail
  refine HN.out.mono ?_; rintro e w1 ⟨rfl, b1⟩
  have HB1 := Lib.hid (then_ HB.out b1)
  have k1 := (HK.out.later b1).cell 1 (u := .slice p len cap) rfl
  clear b1 HN k0
  cases h : okN n with
  | false =>
    go_wp2_with fail
    go_ret
    exact ⟨by unfold faultE; rw [h]; rfl, HB1.out⟩
  | true =>
    by_cases h2 : 1500 < len
    · have e2 : (1500 : Int) < len := by omega
      go_wp2_with fail
      go_ret
      exact ⟨by unfold faultE; rw [h]; simp [h2], HB1.out⟩
    · have e2 : ¬ ((1500 : Int) < len) := by omega
      go_wp2_with fail
      go_ret
      exact ⟨by unfold faultE; rw [h]; simp [h2], HB1.out⟩
end Go.Proofs.YtelocbohiddpgaaGreatDoor.Crc
