/- Sums: package crc's Extend and Sum; the document's. -/
import Derived.Test.YtelocbohiddpgaaDoorYd
set_option linter.unusedSimpArgs false
set_option linter.unusedVariables false
namespace Go.Proofs.YtelocbohiddpgaaDoor.Crc
open Go Go.RowKit Gm
attribute [local go_sem ↓] Go.wp_at_zero Go.wp_at_succ

theorem not_w (s : BitVec 32) : bits .xor .u32 IntKind.u32.max (s.toNat : Int) = ((ones ^^^ s).toNat : Int) := by
  have := xor_w ones s
  rwa [show (ones.toNat : Int) = IntKind.u32.max from by decide] at this
set_option maxHeartbeats 1000000 in
theorem extend_any (sum : BitVec 32) (v : Value) (L : List UInt8) (w : World) (hE : Env w) (hB : Bs w v L) (hl : L.length ≤ maxB) : Calls Tryd.prog 96 #[u32V sum, v] w (Gives (u32V (extL sum L)) w) := by
  have h1 := not_w sum
  have h2 := not_w (crcL (ones ^^^ sum) L)
  have hb : Blk (w.alloc (.cells #[u32V (ones ^^^ sum)] 88)) w.heap.size 88 #[u32V (ones ^^^ sum)] := Blk.new w _ _
  have HC := Lib.hid (each_any v L w.heap.size (ones ^^^ sum) w _ (hE.alloc _) hB hl (below_one w _) (Nat.le_refl _) hb (by have := hE.lt; omega))
  have HX : Hid (extL sum L = ones ^^^ crcL (ones ^^^ sum) L) := Lib.hid rfl
  obtain ⟨x, hx⟩ : ∃ x, ones ^^^ sum = x := ⟨_, rfl⟩
  rw [hx] at h1 h2 HC HX
  obtain ⟨y, hy⟩ : ∃ y, crcL x L = y := ⟨_, rfl⟩
  rw [hy] at h2 HC HX
  obtain ⟨z, hz⟩ : ∃ z, ones ^^^ y = z := ⟨_, rfl⟩
  rw [hz] at h2 HX
  clear hx hy hz hE hB hb hl
  unfold u32V at *
  go_enter Tryd.func96, Tryd.ntmps96
  go_wp2_with fail
  refine HC.out.mono ?_; rintro e w1 ⟨rfl, k1, g1⟩
  have c1 := k1.cell 0 rfl
  have HB1 : Hid (Below w.heap.size w w1) := Lib.hid ((only_grown g1).below (below_one w _) (by intro j hj; rw [List.mem_singleton.1 hj]; omega) (by simp))
  clear g1 HC
  go_wp2_with fail
  go_ret
  exact ⟨by rw [HX.out]; rfl, HB1.out⟩
theorem sum_any (v : Value) (L : List UInt8) (w : World) (hE : Env w) (hB : Bs w v L) (hl : L.length ≤ maxB) : Calls Tryd.prog 82 #[v] w (Gives (u32V (sumL L)) w) := by
  have HC := Lib.hid (extend_any 0#32 v L w hE hB hl)
  have HX : Hid (extL 0#32 L = sumL L) := Lib.hid rfl
  rw [HX.out] at HC
  rw [show u32V 0#32 = .int .u32 0 from rfl] at HC
  go_enter Tryd.func82, Tryd.ntmps82
  go_wp2_with fail
  refine HC.out.mono ?_; rintro e w1 ⟨rfl, b1⟩
  go_wp2_with fail
  go_ret
  exact ⟨rfl, b1⟩

/-! ### The document's -/
theorem sub_w (s : BitVec 32) : IntKind.u32.wrap (4294967295 - (s.toNat : Int)) = ((ones ^^^ s).toNat : Int) := by
  have h := s.isLt
  have e : (ones ^^^ s).toNat = 4294967295 - s.toNat := by
    rw [show (ones ^^^ s) = ~~~s from by rw [show ones = BitVec.allOnes 32 from by decide, BitVec.allOnes_xor], BitVec.toNat_not]
  rw [e, IntKind.wrap_u32']
  omega
theorem stp_odd {s : BitVec 32} (h : s.toNat % 2 = 1) : bits .xor .u32 ((s.toNat : Int) / 2) 2197175160 = ((stp s).toNat : Int) := by
  have hb : s.getLsbD 0 = true := by
    rw [BitVec.getLsbD, Nat.testBit_zero]; simpa using h
  have := xor_w (s >>> 1) poly
  rw [show ((s >>> 1).toNat : Int) = (s.toNat : Int) / 2 from by rw [BitVec.toNat_ushiftRight, Nat.shiftRight_eq_div_pow]; rfl] at this
  rw [show (poly.toNat : Int) = 2197175160 from by decide] at this
  rw [this]
  unfold stp; rw [hb]; rfl
theorem stp_evn {s : BitVec 32} (h : s.toNat % 2 = 0) : (s.toNat : Int) / 2 = ((stp s).toNat : Int) := by
  have hb : s.getLsbD 0 = false := by
    rw [BitVec.getLsbD, Nat.testBit_zero]; simp [h]
  rw [stp_even hb, BitVec.toNat_ushiftRight, Nat.shiftRight_eq_div_pow]; rfl
theorem stps_snoc (n : Nat) (s : BitVec 32) : stp (stps n s) = stps (n + 1) s := (stps_add n 1 s).symm
end Go.Proofs.YtelocbohiddpgaaDoor.Crc
