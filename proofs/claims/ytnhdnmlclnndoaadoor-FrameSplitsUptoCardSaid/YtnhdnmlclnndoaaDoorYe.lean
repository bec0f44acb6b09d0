/- Sums: package crc's Extend and Sum; the document's. -/
import Derived.Test.YtnhdnmlclnndoaaDoorYd
set_option linter.unusedSimpArgs false
set_option linter.unusedVariables false
namespace Go.Proofs.YtnhdnmlclnndoaaDoor.Crc
open Go Go.RowKit Gm
attribute [local go_sem ↓] Go.wp_at_zero Go.wp_at_succ

theorem not_w (s : BitVec 32) : bits .xor .u32 IntKind.u32.max (s.toNat : Int) = ((ones ^^^ s).toNat : Int) := by
  have := xor_w ones s
  rwa [show (ones.toNat : Int) = IntKind.u32.max from by decide] at this
set_option maxHeartbeats 1000000 in
theorem extend_any (sum : BitVec 32) (v : Value) (L : List UInt8) (w : World) (hE : Env w) (hB : Bs w v L) (hl : L.length ≤ maxB) : Calls Tryd.prog 33 #[u32V sum, v] w (Gives (u32V (extL sum L)) w) := by
  have h1 := not_w sum
  have h2 := not_w (crcL (ones ^^^ sum) L)
  have hb : Blk (w.alloc (.cells #[u32V (ones ^^^ sum)] 41)) w.heap.size 41 #[u32V (ones ^^^ sum)] := Blk.new w _ _
  have HC := Lib.hid (each_any v L w.heap.size (ones ^^^ sum) w _ (hE.alloc _) hB hl (below_one w _) (Nat.le_refl _) hb (by have := hE.lt; omega))
  have HX : Hid (extL sum L = ones ^^^ crcL (ones ^^^ sum) L) := Lib.hid rfl
  obtain ⟨x, hx⟩ : ∃ x, ones ^^^ sum = x := ⟨_, rfl⟩
  rw [hx] at h1 h2 HC HX
  obtain ⟨y, hy⟩ : ∃ y, crcL x L = y := ⟨_, rfl⟩
  rw [hy] at h2 HC HX
  obtain ⟨z, hz⟩ : ∃ z, ones ^^^ y = z := ⟨_, rfl⟩
  rw [hz] at h2 HX
  clear hx hy hz hE hB hb hl
  unfold u32V at *
  go_enter Tryd.func33, Tryd.ntmps33
  go_wp2_with fail
  refine HC.out.mono ?_; rintro e w1 ⟨rfl, k1, g1⟩
  have c1 := k1.cell 0 rfl
  have HB1 : Hid (Below w.heap.size w w1) := Lib.hid ((only_grown g1).below (below_one w _) (by intro j hj; rw [List.mem_singleton.1 hj]; omega) (by simp))
  clear g1 HC
  go_wp2_with fail
  go_ret
  exact ⟨by rw [HX.out]; rfl, HB1.out⟩
theorem sum_any (v : Value) (L : List UInt8) (w : World) (hE : Env w) (hB : Bs w v L) (hl : L.length ≤ maxB) : Calls Tryd.prog 28 #[v] w (Gives (u32V (sumL L)) w) := by
  have HC := Lib.hid (extend_any 0#32 v L w hE hB hl)
  have HX : Hid (extL 0#32 L = sumL L) := Lib.hid rfl
  rw [HX.out] at HC
  rw [show u32V 0#32 = .int .u32 0 from rfl] at HC
  go_enter Tryd.func28, Tryd.ntmps28
  go_wp2_with fail
  refine HC.out.mono ?_; rintro e w1 ⟨rfl, b1⟩
  go_wp2_with fail
  go_ret
  exact ⟨rfl, b1⟩

/-! ### The document's -/
theorem sub_w (s : BitVec 32) : IntKind.u32.wrap (4294967295 - (s.toNat : Int)) = ((ones ^^^ s).toNat : Int) := by
  have h := s.isLt
  have e : (ones ^^^ s).toNat = 4294967295 - s.toNat := by
    rw [show (ones ^^^ s) = ~~~s from by rw [show ones = BitVec.allOnes 32 from by decide, BitVec.allOnes_xor], BitVec.toNat_not]
  rw [e, IntKind.wrap_u32']
  omega
theorem stp_odd {s : BitVec 32} (h : s.toNat % 2 = 1) : bits .xor .u32 ((s.toNat : Int) / 2) 2197175160 = ((stp s).toNat : Int) := by
  have hb : s.getLsbD 0 = true := by
    rw [BitVec.getLsbD, Nat.testBit_zero]; simpa using h
  have := xor_w (s >>> 1) poly
  rw [show ((s >>> 1).toNat : Int) = (s.toNat : Int) / 2 from by rw [BitVec.toNat_ushiftRight, Nat.shiftRight_eq_div_pow]; rfl] at this
  rw [show (poly.toNat : Int) = 2197175160 from by decide] at this
  rw [this]
  unfold stp; rw [hb]; rfl
theorem stp_evn {s : BitVec 32} (h : s.toNat % 2 = 0) : (s.toNat : Int) / 2 = ((stp s).toNat : Int) := by
  have hb : s.getLsbD 0 = false := by
    rw [BitVec.getLsbD, Nat.testBit_zero]; simp [h]
  rw [stp_even hb, BitVec.toNat_ushiftRight, Nat.shiftRight_eq_div_pow]; rfl
theorem stps_snoc (n : Nat) (s : BitVec 32) : stp (stps n s) = stps (n + 1) s := (stps_add n 1 s).symm
set_option maxHeartbeats 2000000 in
theorem rextend_any (sum : BitVec 32) (v : Value) (L : List UInt8) (w : World) (hB : Bs w v L) (hl : L.length ≤ maxB) : Calls Tryd.prog 29 #[u32V sum, v] w (Quits (u32V (extL sum L)) w) := by
  obtain ⟨p, cap, rfl⟩ := hB.form
  have HB := Lib.hid hB
  have h1 := sub_w sum
  have HX : Hid (extL sum L = ones ^^^ crcL (ones ^^^ sum) L) := Lib.hid rfl
  obtain ⟨x, hx⟩ : ∃ x, ones ^^^ sum = x := ⟨_, rfl⟩
  rw [hx] at h1 HX
  have hM : L.length ≤ 281474976710656 := hl
  clear hx hB hl
  unfold u32V at *
  go_enter Tryd.func29, Tryd.ntmps29
  go_wp2_with fail
  go_loop [5, 6] (fun r i => ∃ (k : Nat), k ≤ L.length ∧ i = .int .i64 k ∧ r = .int .u32 ((crcL x (L.take k)).toNat : Int)) (fun _ i => L.length - (intOf i).toNat)
  case atStart => exact ⟨0, Nat.zero_le _, rfl, rfl⟩
  case round =>
    obtain ⟨k, hk, rfl, rfl⟩ := hrel
    by_cases hkl : k < L.length
    · obtain ⟨p1, cap1, b, o, hv, hp, hbl, h4⟩ := bs_at HB.out hkl
      simp only [Value.slice.injEq] at hv
      obtain ⟨rfl, -, rfl⟩ := hv
      have hidx := idx_b p b o L.length cap k hp hkl
      have HS : Hid (stps 8 (crcL x (L.take k) ^^^ byteW (L.getD k 0)) = crcL x (L.take (k + 1))) := Lib.hid (crcL_snoc x L hkl)
      have hxb := xor_b (crcL x (L.take k)) (L.getD k 0)
      obtain ⟨c, hc⟩ : ∃ c, L.getD k 0 = c := ⟨_, rfl⟩
      rw [hc] at h4 hxb HS
      have hcv := conv_w c
      obtain ⟨y, hy⟩ : ∃ y, crcL x (L.take k) ^^^ byteW c = y := ⟨_, rfl⟩
      rw [hy] at hxb HS
      obtain ⟨q, hq⟩ : ∃ q, (crcL x (L.take k)).toNat = q := ⟨_, rfl⟩
      rw [hq] at hxb
      rw [hq]
      have HL : Hid (k < L.length) := Lib.hid hkl
      clear hp hbl hc hy hq
      go_wp2_with fail
      go_loop [5, 7] (fun r i => ∃ (j : Nat), j ≤ 8 ∧ i = .int .i64 j ∧ r = .int .u32 ((stps j y).toNat : Int)) (fun _ i => 8 - (intOf i).toNat)
      case atStart => exact ⟨0, by omega, rfl, rfl⟩
      case round =>
        obtain ⟨j, hj, rfl, rfl⟩ := hrel
        by_cases hj8 : j < 8
        · have HT := Lib.hid (stps_snoc j y)
          obtain ⟨z, hz⟩ : ∃ z, stps j y = z := ⟨_, rfl⟩
          rw [hz] at HT ⊢
          clear hz
          rcases Nat.mod_two_eq_zero_or_one z.toNat with h0 | h0
          · have he := stp_evn h0
            obtain ⟨r, hr⟩ : ∃ r, (stp z).toNat = r := ⟨_, rfl⟩
            rw [hr] at he
            have HR := Lib.hid hr
            clear hr
            obtain ⟨m, hm⟩ : ∃ m, z.toNat = m := ⟨_, rfl⟩
            rw [hm] at he h0 ⊢
            have hme : (m : Int) % 2 = 0 := by omega
            go_wp2_with fail
            go_round
            case rel => exact ⟨j + 1, by omega, by go_num, by rw [← HT.out, HR.out]⟩
            case measure => simp [intOf]; omega
          · have he := stp_odd h0
            obtain ⟨r, hr⟩ : ∃ r, (stp z).toNat = r := ⟨_, rfl⟩
            rw [hr] at he
            have HR := Lib.hid hr
            clear hr
            obtain ⟨m, hm⟩ : ∃ m, z.toNat = m := ⟨_, rfl⟩
            rw [hm] at he h0 ⊢
            have hme : (m : Int) % 2 = 1 := by omega
            go_wp2_with fail
            go_round
            case rel => exact ⟨j + 1, by omega, by go_num, by rw [← HT.out, HR.out]⟩
            case measure => simp [intOf]; omega
        · obtain rfl : j = 8 := by omega
          go_wp2_with fail
          go_round
          case rel => exact ⟨k + 1, by have := HL.out; omega, by go_num, by rw [← HS.out]⟩
          case measure => have := HL.out; simp [intOf]; omega
    · have hke : k = L.length := by omega
      subst hke
      rw [List.take_length]
      have h2 := sub_w (crcL x L)
      have HX2 := HX.out
      obtain ⟨y, hy⟩ : ∃ y, crcL x L = y := ⟨_, rfl⟩
      rw [hy] at h2 HX2 ⊢
      obtain ⟨z, hz⟩ : ∃ z, ones ^^^ y = z := ⟨_, rfl⟩
      rw [hz] at h2 HX2
      have HY := Lib.hid HX2
      clear hy hz HX HX2
      go_wp2_with fail
      go_ret
      exact ⟨by rw [HY.out]; rfl, rfl⟩
theorem rsum_any (v : Value) (L : List UInt8) (w : World) (hB : Bs w v L) (hl : L.length ≤ maxB) : Calls Tryd.prog 25 #[v] w (Quits (u32V (sumL L)) w) := by
  have HC := Lib.hid (rextend_any 0#32 v L w hB hl)
  have HX : Hid (extL 0#32 L = sumL L) := Lib.hid rfl
  rw [HX.out] at HC
  rw [show u32V 0#32 = .int .u32 0 from rfl] at HC
  go_enter Tryd.func25, Tryd.ntmps25
  go_wp2_with fail
  refine HC.out.mono ?_; rintro e w1 ⟨rfl, rfl⟩
  go_wp2_with fail
  go_ret
  exact ⟨rfl, rfl⟩
end Go.Proofs.YtnhdnmlclnndoaaDoor.Crc
