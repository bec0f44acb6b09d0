/- Layer 12: Name, walked. -/
import Derived.Test.YtelocbohiddpgaaGreatDoorSgi
set_option linter.unusedSimpArgs false
set_option linter.unusedVariables false
namespace Go.Proofs.YtelocbohiddpgaaGreatDoor.Crc
open Go Go.RowKit Gm
attribute [local go_sem ↓] Go.wp_at_zero Go.wp_at_succ

/-- A name as far as it goes behind k numbers. -/
def prefL (p n : Nat) : Nat → List UInt8
  | 0 => []
  | 1 => [115] ++ low10 1 p
  | _ => [115] ++ low10 1 p ++ ([45] ++ low10 13 n)
theorem pref_name (p n : Nat) (hp : p ≤ 3) : prefL p n 2 = nameL p n := by
  unfold prefL nameL
  rw [low10, low10, show p % 10 = p by omega]
  rfl
abbrev partsV : Value := .agg #[.string ⟨#[115]⟩, .int .i64 1, .int .u64 0, .int .u64 3, .string ⟨#[45]⟩, .int .i64 13, .int .u64 1, .int .u64 1099511627776]
theorem parts_0 (W : World) : (Instr.index 120 partsV (.int .i64 0)).run Tryz.prog W = .ok (.agg #[.string ⟨#[115]⟩, .int .i64 1, .int .u64 0, .int .u64 3]) W := by kernel_rfl
theorem parts_1 (W : World) : (Instr.index 120 partsV (.int .i64 1)).run Tryz.prog W = .ok (.agg #[.string ⟨#[45]⟩, .int .i64 13, .int .u64 1, .int .u64 1099511627776]) W := by kernel_rfl
/-- What Name answers. -/
def nameOkN (place : Int) (n : Nat) : Bool := decide (0 ≤ place) && decide (place ≤ 3) && okN n
def nameS (place : Int) (n : Nat) : ByteArray := if nameOkN place n then ⟨(nameL place.toNat n).toArray⟩ else ⟨#[]⟩
def nameE (place : Int) (n : Nat) : Int := if nameOkN place n then 0 else 1
set_option maxHeartbeats 8000000 in
set_option maxRecDepth 100000 in
theorem name_any (place : Int) (hp1 : -9223372036854775808 ≤ place) (hp2 : place ≤ 9223372036854775807) (n : Nat) (hn : n < 18446744073709551616) (w : World) (hP : PartsIs w) (hN : EnvN w) : Calls Tryz.prog 34 #[.int .i64 place, .int .u64 (n : Int)] w (Gives (.tuple #[.string (nameS place n), .int .i64 (nameE place n)]) w) := by
  obtain ⟨u, hu, hu64⟩ : ∃ u : Nat, IntKind.u64.wrap place = (u : Int) ∧ u < 18446744073709551616 := by
    rw [IntKind.wrap_u64]
    exact ⟨(place % 18446744073709551616).toNat, by omega, by omega⟩
  have hu3 : (0 ≤ place ∧ place ≤ 3 ↔ u ≤ 3) ∧ (u ≤ 3 → place.toNat = u) := by
    rw [IntKind.wrap_u64] at hu
    constructor
    · constructor <;> intro h <;> omega
    · intro h; omega
  have B0 := below_one w (.cells #[.int .u64 (u : Int), .int .u64 (n : Int)] 124)
  have K0 := Blk.new w 124 #[.int .u64 (u : Int), .int .u64 (n : Int)]
  obtain ⟨G, hG⟩ : ∃ G, w.heap.size = G := ⟨_, rfl⟩
  obtain ⟨W0, hW0⟩ : ∃ W0, w.alloc (.cells #[.int .u64 (u : Int), .int .u64 (n : Int)] 124) = W0 := ⟨_, rfl⟩
  rw [hW0] at B0 K0
  rw [hG] at K0
  have HW0 := Lib.hid hW0
  have HG := Lib.hid hG
  have HB0 := Lib.hid B0
  have HK0 := Lib.hid K0
  have hP0 := hP.below B0
  have HN0 := Lib.hid (hN.below B0)
  have HP0 := Lib.hid hP0
  have k0 := hP0 0 _ rfl
  have k1 := hP0 1 _ rfl
  have k2 := hP0 2 _ rfl
  have k3 := hP0 3 _ rfl
  have k4 := hP0 4 _ rfl
  have k5 := hP0 5 _ rfl
  have k6 := hP0 6 _ rfl
  have k7 := hP0 7 _ rfl
  have HU := Lib.hid hu3
  have x0 := parts_0
  have x1 := parts_1
  clear hW0 hG B0 K0 hP0 hP hN hu3
  go_enter Tryz.func34, Tryz.ntmps34
  go_upto_region 2 with (fail)
  rw [HW0.out, HG.out]
  go_wp2_with fail
  go_loopw [7, 15] (fun sv iv wr => ∃ k : Nat, k ≤ 2 ∧ iv = .int .i64 (k : Nat) ∧ sv = .string ⟨(prefL u n k).toArray⟩ ∧ Hid ((1 ≤ k → u ≤ 3) ∧ (2 ≤ k → okN n = true)) ∧ Hid (Below W0.heap.size W0 wr)) (fun _ iv _ => 2 - (intOf iv).toNat)
  case atStart => exact ⟨0, by omega, rfl, rfl, Lib.hid ⟨fun h => by omega, fun h => by omega⟩, Lib.hid (Below.refl _ _)⟩
  case round =>
    obtain ⟨k, hk, rfl, rfl, HR, HBr⟩ := hrel
    obtain rfl | rfl | rfl : k = 0 ∨ k = 1 ∨ k = 2 := by omega
    · -- number 0
      have B5 := below_one wr (.cells #[.string ⟨#[115]⟩, .int .i64 1, .int .u64 0, .int .u64 3] 119)
      have K5 := Blk.new wr 119 #[.string ⟨#[115]⟩, .int .i64 1, .int .u64 0, .int .u64 3]
      obtain ⟨z, hz⟩ : ∃ z, wr.heap.size = z := ⟨_, rfl⟩
      obtain ⟨W5, hW5⟩ : ∃ W5, wr.alloc (.cells #[.string ⟨#[115]⟩, .int .i64 1, .int .u64 0, .int .u64 3] 119) = W5 := ⟨_, rfl⟩
      rw [hW5] at B5 K5
      rw [hz] at K5
      have HW5 := Lib.hid hW5
      have HZ := Lib.hid hz
      have HB5 := Lib.hid (then_ HBr.out B5)
      have K0b := (HK0.out.later HBr.out).later B5
      have HK5 := Lib.hid K5
      have HK0b := Lib.hid K0b
      have q0 := fun (x : Later W5) => Later.cell (K5.cell 0 rfl) x
      have q1 := fun (x : Later W5) => Later.cell (K5.cell 1 rfl) x
      have q2 := fun (x : Later W5) => Later.cell (K5.cell 2 rfl) x
      have q3 := fun (x : Later W5) => Later.cell (K5.cell 3 rfl) x
      have q4 := fun (x : Later W5) => Later.cell (K0b.cell 0 rfl) x
      have hm := pmay_any ⟨#[115]⟩ 1 0 3 u
      rw [show (decide (0 ≤ u) && decide (u ≤ 3)) = decide (u ≤ 3) from by simp] at hm
      obtain ⟨tb, htb⟩ : ∃ tb, decide (u ≤ 3) = tb := ⟨_, rfl⟩
      rw [htb] at hm
      have HM := Lib.hid hm
      have HTB := Lib.hid htb
      clear hm htb
      clear hW5 hz B5 K5 K0b
      go_upto_region 6 with (fail)
      rw [HW5.out, HZ.out]
      refine wp_region_later (by kernel_rfl) (by kernel_rfl) ?_
      repeat (quiet_step ((first | (go_at_call 67; with_reducible exact later_call _ (HM.out _)))))
      refine wpQuiet_nil ?_
      intro wz hw'
      obtain ⟨⟨_, hbz⟩, rfl⟩ := hw'
      have HBz := Lib.hid hbz
      clear hbz q0 q1 q2 q3 q4 HM
      cases tb with
      | true =>
        have hc : u ≤ 3 := of_decide_eq_true HTB.out
        have HC := Lib.hid hc
        have HT := Lib.hid (fun X (h : Below W0.heap.size W0 X) => ptext_any [115] (by decide) 1 0 3 u (by decide) (by decide) (by omega) hu64 X (HN0.out.below h))
        have HBw := Lib.hid (then_ HB5.out HBz.out)
        have K5 := HK5.out.later HBz.out
        have K0b := HK0b.out.later HBz.out
        have q0 := fun (x : Later wz) => Later.cell (K5.cell 0 rfl) x
        have q1 := fun (x : Later wz) => Later.cell (K5.cell 1 rfl) x
        have q2 := fun (x : Later wz) => Later.cell (K5.cell 2 rfl) x
        have q3 := fun (x : Later wz) => Later.cell (K5.cell 3 rfl) x
        have q4 := fun (x : Later wz) => Later.cell (K0b.cell 0 rfl) x
        have hfin : (⟨(prefL u n 0).toArray⟩ : ByteArray) ++ ⟨([115] ++ low10 1 u).toArray⟩ = ⟨(prefL u n 1).toArray⟩ := by rw [str_app12]; rfl
        have HFin := Lib.hid hfin
        have hs1 : (⟨(prefL u n 0).toArray⟩ : ByteArray).size ≤ 100 := by simp [ByteArray.size, prefL, low10_length]
        have hs2 : (⟨([115] ++ low10 1 u).toArray⟩ : ByteArray).size ≤ 100 := by simp [ByteArray.size, low10_length]
        obtain ⟨sa, hsa⟩ : ∃ s : ByteArray, ⟨(prefL u n 0).toArray⟩ = s := ⟨_, rfl⟩
        obtain ⟨sb, hsb⟩ : ∃ s : ByteArray, ⟨([115] ++ low10 1 u).toArray⟩ = s := ⟨_, rfl⟩
        rw [hsb] at HT HFin hs2
        rw [hsa] at HFin hs1 ⊢
        have HSA := Lib.hid hsa
        have y1 : (sa.size : Int) ≤ 8388608 := by omega
        have y2 : (sb.size : Int) ≤ 8388608 := by omega
        have a1 := fun X : World => run_string_add (P := Tryz.prog) X sa sb y1 y2
        clear hc hfin hsa hsb K5 K0b hs1 hs2 y1 y2
        go_wp2_with fail
        refine wp_region_later (by kernel_rfl) (by kernel_rfl) ?_
        repeat (quiet_step ((first | (go_at_call 71; with_reducible exact later_call _ (HT.out _ ((Below.trans HBw.out ((Later.bel _).mono HBw.out.size)))))))) 
        refine wpQuiet_nil ?_
        intro wz2 hw2
        obtain ⟨⟨_, hbz⟩, rfl⟩ := hw2
        have HBn := Lib.hid (then_ HBw.out hbz)
        have HR2 : Hid ((1 ≤ 0 + 1 → u ≤ 3) ∧ (2 ≤ 0 + 1 → okN n = true)) := Lib.hid ⟨fun _ => HC.out, fun h => by omega⟩
        clear hbz q0 q1 q2 q3 q4 HT HTB
        go_wp2_with fail
        go_roundw
        case rel => exact ⟨0 + 1, by omega, by go_num, by rw [HFin.out], HR2, HBn⟩
        case measure => simp [intOf]
      | false =>
        have hc : ¬ (u ≤ 3) := of_decide_eq_false HTB.out
        have hno : nameOkN place n = false := by
          unfold nameOkN
          cases h : decide (0 ≤ place) && decide (place ≤ 3) with
          | false => rfl
          | true => simp only [Bool.and_eq_true, decide_eq_true_eq] at h; exact absurd (HU.out.1.1 h) hc
        have HNo := Lib.hid hno
        have HBw := Lib.hid (then_ HB0.out (then_ HB5.out HBz.out))
        clear hno hc
        go_wp2_with fail
        go_ret2
        exact ⟨by unfold nameS nameE; rw [HNo.out]; rfl, HBw.out⟩
    · -- number 1
      have B5 := below_one wr (.cells #[.string ⟨#[45]⟩, .int .i64 13, .int .u64 1, .int .u64 1099511627776] 119)
      have K5 := Blk.new wr 119 #[.string ⟨#[45]⟩, .int .i64 13, .int .u64 1, .int .u64 1099511627776]
      obtain ⟨z, hz⟩ : ∃ z, wr.heap.size = z := ⟨_, rfl⟩
      obtain ⟨W5, hW5⟩ : ∃ W5, wr.alloc (.cells #[.string ⟨#[45]⟩, .int .i64 13, .int .u64 1, .int .u64 1099511627776] 119) = W5 := ⟨_, rfl⟩
      rw [hW5] at B5 K5
      rw [hz] at K5
      have HW5 := Lib.hid hW5
      have HZ := Lib.hid hz
      have HB5 := Lib.hid (then_ HBr.out B5)
      have K0b := (HK0.out.later HBr.out).later B5
      have HK5 := Lib.hid K5
      have HK0b := Lib.hid K0b
      have q0 := fun (x : Later W5) => Later.cell (K5.cell 0 rfl) x
      have q1 := fun (x : Later W5) => Later.cell (K5.cell 1 rfl) x
      have q2 := fun (x : Later W5) => Later.cell (K5.cell 2 rfl) x
      have q3 := fun (x : Later W5) => Later.cell (K5.cell 3 rfl) x
      have q4 := fun (x : Later W5) => Later.cell (K0b.cell 1 rfl) x
      have hm := pmay_any ⟨#[45]⟩ 13 1 1099511627776 n
      rw [show (decide (1 ≤ n) && decide (n ≤ 1099511627776)) = okN n from rfl] at hm
      obtain ⟨tb, htb⟩ : ∃ tb, okN n = tb := ⟨_, rfl⟩
      rw [htb] at hm
      have HM := Lib.hid hm
      have HTB := Lib.hid htb
      clear hm htb
      clear hW5 hz B5 K5 K0b
      go_upto_region 6 with (fail)
      rw [HW5.out, HZ.out]
      refine wp_region_later (by kernel_rfl) (by kernel_rfl) ?_
      repeat (quiet_step ((first | (go_at_call 67; with_reducible exact later_call _ (HM.out _)))))
      refine wpQuiet_nil ?_
      intro wz hw'
      obtain ⟨⟨_, hbz⟩, rfl⟩ := hw'
      have HBz := Lib.hid hbz
      clear hbz q0 q1 q2 q3 q4 HM
      cases tb with
      | true =>
        have hc : okN n = true := HTB.out
        have HC := Lib.hid hc
        have HT := Lib.hid (fun X (h : Below W0.heap.size W0 X) => ptext_any [45] (by decide) 13 1 1099511627776 n (by decide) (by decide) (by have h := (okN_iff n).1 hc; exact Nat.lt_of_le_of_lt h.2 (by decide)) hn X (HN0.out.below h))
        have HBw := Lib.hid (then_ HB5.out HBz.out)
        have K5 := HK5.out.later HBz.out
        have K0b := HK0b.out.later HBz.out
        have q0 := fun (x : Later wz) => Later.cell (K5.cell 0 rfl) x
        have q1 := fun (x : Later wz) => Later.cell (K5.cell 1 rfl) x
        have q2 := fun (x : Later wz) => Later.cell (K5.cell 2 rfl) x
        have q3 := fun (x : Later wz) => Later.cell (K5.cell 3 rfl) x
        have q4 := fun (x : Later wz) => Later.cell (K0b.cell 1 rfl) x
        have hfin : (⟨(prefL u n 1).toArray⟩ : ByteArray) ++ ⟨([45] ++ low10 13 n).toArray⟩ = ⟨(prefL u n 2).toArray⟩ := by rw [str_app12]; rfl
        have HFin := Lib.hid hfin
        have hs1 : (⟨(prefL u n 1).toArray⟩ : ByteArray).size ≤ 100 := by simp [ByteArray.size, prefL, low10_length]
        have hs2 : (⟨([45] ++ low10 13 n).toArray⟩ : ByteArray).size ≤ 100 := by simp [ByteArray.size, low10_length]
        obtain ⟨sa, hsa⟩ : ∃ s : ByteArray, ⟨(prefL u n 1).toArray⟩ = s := ⟨_, rfl⟩
        obtain ⟨sb, hsb⟩ : ∃ s : ByteArray, ⟨([45] ++ low10 13 n).toArray⟩ = s := ⟨_, rfl⟩
        rw [hsb] at HT HFin hs2
        rw [hsa] at HFin hs1 ⊢
        have HSA := Lib.hid hsa
        have y1 : (sa.size : Int) ≤ 8388608 := by omega
        have y2 : (sb.size : Int) ≤ 8388608 := by omega
        have a1 := fun X : World => run_string_add (P := Tryz.prog) X sa sb y1 y2
        clear hc hfin hsa hsb K5 K0b hs1 hs2 y1 y2
        go_wp2_with fail
        refine wp_region_later (by kernel_rfl) (by kernel_rfl) ?_
        repeat (quiet_step ((first | (go_at_call 71; with_reducible exact later_call _ (HT.out _ ((Below.trans HBw.out ((Later.bel _).mono HBw.out.size)))))))) 
        refine wpQuiet_nil ?_
        intro wz2 hw2
        obtain ⟨⟨_, hbz⟩, rfl⟩ := hw2
        have HBn := Lib.hid (then_ HBw.out hbz)
        have HR2 : Hid ((1 ≤ 1 + 1 → u ≤ 3) ∧ (2 ≤ 1 + 1 → okN n = true)) := Lib.hid ⟨fun _ => HR.out.1 (by omega), fun _ => HC.out⟩
        clear hbz q0 q1 q2 q3 q4 HT HTB
        go_wp2_with fail
        go_roundw
        case rel => exact ⟨1 + 1, by omega, by go_num, by rw [HFin.out], HR2, HBn⟩
        case measure => simp [intOf]
      | false =>
        have hno : nameOkN place n = false := by unfold nameOkN; rw [HTB.out, Bool.and_false]
        have HNo := Lib.hid hno
        have HBw := Lib.hid (then_ HB0.out (then_ HB5.out HBz.out))
        clear hno
        go_wp2_with fail
        go_ret2
        exact ⟨by unfold nameS nameE; rw [HNo.out]; rfl, HBw.out⟩
    · have HBw := Lib.hid (then_ HB0.out HBr.out)
      have hok : nameOkN place n = true := by
        unfold nameOkN
        have h1 := HU.out.1.2 (HR.out.1 (by omega))
        rw [HR.out.2 (by omega), decide_eq_true h1.1, decide_eq_true h1.2]
        rfl
      have HOK := Lib.hid hok
      clear hok
      go_wp2_with fail
      go_ret2
      exact ⟨by unfold nameS nameE; rw [HOK.out, if_pos rfl, if_pos rfl, HU.out.2 (HR.out.1 (by omega)), ← pref_name _ _ (HR.out.1 (by omega))]; rfl, HBw.out⟩
end Go.Proofs.YtelocbohiddpgaaGreatDoor.Crc
