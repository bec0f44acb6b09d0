/- The walk of CrcTells. -/
import Derived.Test.YthoccemfdndkhaaDoorYv
set_option linter.unusedSimpArgs false
set_option linter.unusedVariables false
namespace Go.Proofs.YthoccemfdndkhaaDoor.Crc
open Go Go.RowKit Gm
attribute [local go_sem ↓] Go.wp_at_zero Go.wp_at_succ

def nz (n : Nat) : Nat := if n = 0 then 1 else n
theorem nz_ne (n : Nat) : nz n ≠ 0 := by unfold nz; split <;> omega
theorem nz_lt {n B : Nat} (h : n < B) (h1 : 1 < B) : nz n < B := by unfold nz; split <;> omega
theorem test_bit (nb n : Nat) (h : nb < 4294967296) : (bits .and .u32 ((nb : Int) / 2 ^ n) 1 == 1) = nb.testBit n := by
  have e : (nb : Int) / 2 ^ n = ((nb / 2 ^ n : Nat) : Int) := by norm_cast
  have hlt : nb / 2 ^ n < 4294967296 := Nat.lt_of_le_of_lt (Nat.div_le_self _ _) h
  have := u32_and_nat (nb / 2 ^ n) 1 hlt (by decide)
  rw [show ((1 : Nat) : Int) = 1 from rfl] at this
  rw [e, this, nat_mask1, Nat.testBit_eq_decide_div_mod_eq, Bool.eq_iff_iff]
  simp
  omega
theorem tear_on (L : List UInt8) (bits k n : Nat) (h : bits.testBit n = true) : (tear L bits k n).set ((k + n) / 8) (UInt8.ofNat (((tear L bits k n).getD ((k + n) / 8) 0).toNat ^^^ 2 ^ ((k + n) % 8))) = tear L bits k (n + 1) := by
  conv => rhs; unfold tear
  rw [if_pos h]
theorem tear_off (L : List UInt8) (bits k n : Nat) (h : bits.testBit n = false) : tear L bits k n = tear L bits k (n + 1) := by
  conv => rhs; unfold tear
  rw [if_neg (by simp [h])]
theorem turn_byte (c : UInt8) {r : Nat} (hr : r < 8) : bits .xor .u8 (c.toNat : Int) ((2 ^ r : Nat) : Int) = ((UInt8.ofNat (c.toNat ^^^ 2 ^ r)).toNat : Int) := by
  rw [u8_xor_nat _ _ c.toNat_lt (by calc 2 ^ r < 2 ^ 8 := Nat.pow_lt_pow_right (by omega) hr
    _ = 256 := rfl), UInt8.toNat_ofNat', Nat.mod_eq_of_lt (xor_lt c hr)]
theorem pow_8 {r : Nat} (hr : r < 8) : (2 : Int) ^ r % 256 = ((2 ^ r : Nat) : Int) := by
  have h : ∀ r : Fin 8, (2 : Int) ^ r.val % 256 = ((2 ^ r.val : Nat) : Int) := by decide
  exact h ⟨r, hr⟩
set_option maxHeartbeats 8000000 in
set_option maxRecDepth 100000 in
theorem law_ctells (v : Value) (L : List UInt8) (bi at_ by_ : Nat) (W : World) (hE : Env W) (hB : Bs W v L) (hl : L.length ≤ maxIn) (hbi : bi < 4294967296) (hat : at_ < 4294967296) (hby : by_ < 256) : Calls Tryd.prog 5 #[v, .int .u32 (bi : Int), .int .u32 (at_ : Int), .int .u8 (by_ : Int)] W (Gives (.bool true) W) := by
  obtain ⟨i0, ii, iz0, iz1, iz2⟩ := info_parts infoB
  obtain ⟨p, cap, rfl⟩ := hB.form
  have HB := Lib.hid hB
  have HE := Lib.hid hE
  have HL := Lib.hid hl
  obtain ⟨m, hm⟩ : ∃ m, L.length = m := ⟨_, rfl⟩
  have HM := Lib.hid hm
  have hm7 : m ≤ 140737488351232 := by rw [← hm]; exact hl
  rw [hm] at HB ⊢
  have HN := Lib.hid (World.ownsRow_nil W W.heap.size 5 1)
  have HS := Lib.hid (by have := HB.out.src; rw [HM.out] at this; exact this)
  clear hB hE hl hm
  go_enter Tryd.func5, Tryd.ntmps5
  go_upto_if 16 with (fail)
  go_cut [1] from 17 to 86 (fun t wq => t = .int .u32 (nz bi : Nat) ∧ wq = W)
  case first =>
    by_cases h0 : bi = 0
    · subst h0
      go_wp2_with fail
      go_meet
      exact ⟨rfl, rfl⟩
    · have h0' : ¬ ((bi : Int) = 0) := by omega
      have hz : nz bi = bi := by unfold nz; rw [if_neg h0]
      have HZ := Lib.hid hz
      clear h0 hz
      go_wp2_with fail
      go_meet
      exact ⟨by rw [HZ.out], rfl⟩
  case rest =>
    obtain ⟨rfl, rfl⟩ := hcut
    obtain ⟨Wb, rfl⟩ : ∃ Wb, Wb = wc := ⟨_, rfl⟩
    have hnz := nz_ne bi
    have hnl := nz_lt hbi (by decide)
    obtain ⟨nb, hnb⟩ : ∃ n, nz bi = n := ⟨_, rfl⟩
    rw [hnb] at hnz hnl ⊢
    have HNZ := Lib.hid hnz
    have HNL := Lib.hid hnl
    clear hnb hnz hbi
    go_upto_if 19 with (fail)
    obtain ⟨t4, ht4⟩ : ∃ t, decide ((4 : Int) ≤ (m : Int)) = t := ⟨_, rfl⟩
    rw [ht4]
    have HT4 := Lib.hid ht4
    clear ht4
    go_cut [9, 10, 11] from 20 to 86 (fun x y z wq => Hid (Below Wb.heap.size Wb wq))
    case first =>
      cases t4
      · go_wp2_with fail
        go_meet
        exact Lib.hid (Below.refl _ _)
      · have h4n : (4 : Int) ≤ (m : Int) := of_decide_eq_true HT4.out
        have h4 : ¬ m < 4 := by omega
        clear h4n
        obtain ⟨M, hM⟩ : ∃ M : Nat, (8 * m - 31) % 4294967296 = M := ⟨_, rfl⟩
        have hM0 : M ≠ 0 := by omega
        have hMl : M ≤ 8 * m - 31 := by rw [← hM]; exact Nat.mod_le _ _
        obtain ⟨k, hk⟩ : ∃ k, at_ % M = k := ⟨_, rfl⟩
        have hkM : k < M := by rw [← hk]; exact Nat.mod_lt _ (by omega)
        have hk32 : k + 32 ≤ 8 * m := by omega
        have q1 : (8 * (m : Int) - 31) % 4294967296 = (M : Int) := by rw [← hM]; omega
        have q2 : (at_ : Int) % (M : Int) = (k : Int) := by rw [← hk]; rfl
        have q3 : ¬ ((M : Int) = 0) := by omega
        have hLne : L ≠ [] := by rintro rfl; have := HM.out; simp at this; omega
        have HLN := Lib.hid hLne
        have HK := Lib.hid hk32
        have hk7 : k ≤ 1125899906842624 := by omega
        clear hM hMl hk hkM h4 hLne hk32
        go_wp2_with (at_builtin; refine wpList_append_src rfl _ _ 22 (by rfl) Wb.heap.size 5 i0 (.int .u8 0) 1 1 Tryd.underlying22 ii iz0 iz1 iz2 rfl (by decide) _ _ _ (by rfl) HN.out _ m (cellsB L) (by rfl) HS.out m (by simp) (by unfold maxLen; omega) (by omega) (Nat.le_refl _) ?_; intro pA capA w1 hown3 hgrow3; have HO1 := Lib.hid (ow_of hown3 HM.out); have HB1 := Lib.hid ((Below.refl Wb.heap.size Wb).grown hgrow3 (Nat.le_refl _) (fun j hj => (World.ownsRow.lt HN.out j hj).1)); clear hown3 hgrow3)
        obtain ⟨g, rfl, hbg, -, hcA, hR⟩ := Rw.of HO1.out HLN.out
        have HR1 := Lib.hid hR
        have HG := Lib.hid hbg
        have HCA := Lib.hid hcA
        clear hR hbg hcA HO1
        go_loopw [11] (fun i wr => ∃ n : Nat, n ≤ 32 ∧ i = .int .i64 n ∧ Hid (Rw wr g (tear L nb k n)) ∧ Hid (Below Wb.heap.size Wb wr)) (fun i _ => 32 - (intOf i).toNat)
        case atStart => exact ⟨0, by omega, rfl, HR1, HB1⟩
        case round =>
          obtain ⟨n, hn, rfl, HR, HBr⟩ := hrel
          clear HR1 HB1
          by_cases hn32 : n < 32
          · have ht := test_bit nb n hnl
            cases htb : nb.testBit n with
            | false =>
              rw [htb] at ht
              have HT := Lib.hid (tear_off L nb k n htb)
              rw [HT.out] at HR
              clear htb
              go_wp2_with fail
              go_roundw
              case rel => exact ⟨n + 1, by omega, by go_num, HR, HBr⟩
              case measure => simp [intOf]; omega
            | true =>
              rw [htb] at ht
              have HT := Lib.hid (tear_on L nb k n htb)
              obtain ⟨q, hq⟩ : ∃ q, (k + n) / 8 = q := ⟨_, rfl⟩
              obtain ⟨r, hr⟩ : ∃ r, (k + n) % 8 = r := ⟨_, rfl⟩
              have hr8 : r < 8 := by omega
              have hqm : q < m := by have := HK.out; omega
              have hql : q < (tear L nb k n).length := by rw [tear_length, HM.out]; exact hqm
              obtain ⟨l1, f1⟩ := HR.out.2 q hql
              rw [hq, hr] at HT
              have qi : ((k : Int) + (n : Int)) / 8 = (q : Int) := by omega
              have ri : ((k : Int) + (n : Int)) % 8 = (r : Int) := by omega
              obtain ⟨c, hc⟩ : ∃ c, (tear L nb k n).getD q 0 = c := ⟨_, rfl⟩
              rw [hc] at HT l1
              have tb := turn_byte c hr8
              rw [← pow_8 hr8] at tb
              obtain ⟨d, hd⟩ : ∃ d, UInt8.ofNat (c.toNat ^^^ 2 ^ r) = d := ⟨_, rfl⟩
              rw [hd] at HT tb
              have HRs := Lib.hid (HR.out.set hql d)
              rw [HT.out] at HRs
              have HBs := Lib.hid (set_belowT (i := q) HBr.out HG.out (byteV d))
              have hidx := idx_b (some ⟨g, 0, none⟩) g 0 m capA q rfl hqm
              rw [Nat.zero_add] at hidx
              clear htb hq hr hc hd hql
              go_wp2_with fail
              go_region
              have HRd : Hid (Rw ((wr.setCell ⟨g, q, none⟩ (byteV d)).drew) g (tear L nb k (n + 1))) := Lib.hid HRs.out
              have HBd : Hid (Below Wb.heap.size Wb ((wr.setCell ⟨g, q, none⟩ (byteV d)).drew)) := Lib.hid HBs.out.drew
              clear HRs HBs tb
              go_wp2_with fail
              go_roundw
              case rel => exact ⟨n + 1, by omega, by go_num, HRd, HBd⟩
              case measure => simp [intOf]; omega
          · obtain rfl : n = 32 := by omega
            have htl : (tear L nb k 32).length = m := by rw [tear_length]; exact HM.out
            have HTB := Lib.hid (HR.out.bs htl HCA.out)
            have HTL : Hid ((tear L nb k 32).length ≤ maxB) := Lib.hid (by rw [htl]; exact maxIn_B hm7)
            have HLL : Hid (L.length ≤ maxB) := Lib.hid (maxIn_B HL.out)
            have hne := tear_tells L HNZ.out HNL.out (k := k) (by rw [HM.out]; exact HK.out)
            have hnei : (((sumL (tear L nb k 32)).toNat : Int) == ((sumL L).toNat : Int)) = false := by
              rw [Bool.eq_false_iff]; intro h; rw [beq_iff_eq] at h; exact hne (by omega)
            clear hne htl
            go_wp2_with fail
            refine (sum_any _ (tear L nb k 32) _ (HE.out.below HBr.out) HTB.out HTL.out).mono ?_
            rintro e w3 ⟨rfl, b3⟩
            have HB3 := Lib.hid (then_ HBr.out b3)
            clear b3
            go_wp2_with fail
            refine (sum_any _ L _ (HE.out.below HB3.out) (HB.out.below HB3.out) HLL.out).mono ?_
            rintro e w4 ⟨rfl, b4⟩
            have HB4 := Lib.hid (then_ HB3.out b4)
            clear b4
            go_wp2_with fail
            go_meet
            exact HB4
    case rest =>
      have HBc := hcut
      clear hcut HN HS HNZ HNL hnl
      obtain ⟨Wd, rfl⟩ : ∃ Wd, Wd = wc := ⟨_, rfl⟩
      go_wp2_with fail
      refine (put_any _ L _ (HE.out.below HBc.out) (HB.out.below HBc.out) HL.out).mono ?_
      rintro e w3 ⟨vp, rfl, ho3, b3⟩
      obtain ⟨pP, cP, rfl⟩ := ho3.form
      have hpl : (putL L).length = m + 4 := by rw [putL_length, HM.out]
      obtain ⟨g, rfl, hbg, -, hcP, hR⟩ := Rw.of ho3 (by intro h; rw [h] at hpl; simp at hpl)
      have HR3 := Lib.hid hR
      have HB3 := Lib.hid (then_ HBc.out b3)
      have HG := Lib.hid (Nat.le_trans (Below.size HBc.out) hbg)
      rw [hpl] at hcP
      have HPL := Lib.hid hpl
      have HCP := Lib.hid hcP
      rw [hpl]
      clear ho3 b3 hbg hcP hR hpl
      go_upto_if 61 with (fail)
      go_cut [3] from 62 to 86 (fun t wq => t = .int .u8 (nz by_ : Nat) ∧ wq = w3)
      case first =>
        by_cases h0 : by_ = 0
        · subst h0
          go_wp2_with fail
          go_meet
          exact ⟨rfl, rfl⟩
        · have h0' : ¬ ((by_ : Int) = 0) := by omega
          have hz : nz by_ = by_ := by unfold nz; rw [if_neg h0]
          have HZ := Lib.hid hz
          clear h0 hz
          go_wp2_with fail
          go_meet
          exact ⟨by rw [HZ.out], rfl⟩
      case rest =>
        obtain ⟨rfl, rfl⟩ := hcut
        obtain ⟨W3, rfl⟩ : ∃ W3, W3 = wc := ⟨_, rfl⟩
        have hnz := nz_ne by_
        have hnl := nz_lt hby (by decide)
        obtain ⟨ny, hny⟩ : ∃ n, nz by_ = n := ⟨_, rfl⟩
        rw [hny] at hnz hnl ⊢
        obtain ⟨q, hq⟩ : ∃ q, at_ % (m + 4) = q := ⟨_, rfl⟩
        have hq4 : q < m + 4 := by rw [← hq]; exact Nat.mod_lt _ (by omega)
        have hqi : (at_ : Int) % ((m : Int) + 4) = (q : Int) := by rw [← hq]; norm_cast
        have hql : q < (putL L).length := by rw [HPL.out]; exact hq4
        obtain ⟨l1, f1⟩ := HR3.out.2 q hql
        have htx := u8_xor_nat ((putL L).getD q 0).toNat ny ((putL L).getD q 0).toNat_lt hnl
        have hdne : UInt8.ofNat (((putL L).getD q 0).toNat ^^^ ny) ≠ (putL L).getD q 0 := by
          intro h
          have h2 := congrArg UInt8.toNat h
          rw [UInt8.toNat_ofNat', Nat.mod_eq_of_lt (Nat.xor_lt_two_pow (n := 8) ((putL L).getD q 0).toNat_lt hnl)] at h2
          have h3 : ((putL L).getD q 0).toNat ^^^ ((putL L).getD q 0).toNat ^^^ ny = ((putL L).getD q 0).toNat ^^^ ((putL L).getD q 0).toNat := by rw [Nat.xor_assoc, h2]
          rw [Nat.xor_self, Nat.zero_xor] at h3
          exact hnz h3
        have HT5 := Lib.hid (takeE_turned L hql hdne)
        have hx : (((putL L).getD q 0).toNat ^^^ ny : Nat) = (UInt8.ofNat (((putL L).getD q 0).toNat ^^^ ny)).toNat := by
          rw [UInt8.toNat_ofNat', Nat.mod_eq_of_lt (Nat.xor_lt_two_pow (n := 8) ((putL L).getD q 0).toNat_lt hnl)]
        rw [hx] at htx
        obtain ⟨d, hd⟩ : ∃ d, UInt8.ofNat (((putL L).getD q 0).toNat ^^^ ny) = d := ⟨_, rfl⟩
        rw [hd] at htx HT5
        have HRs := Lib.hid (HR3.out.set hql d)
        obtain ⟨c, hc⟩ : ∃ c, (putL L).getD q 0 = c := ⟨_, rfl⟩
        rw [hc] at htx l1
        have HBs := Lib.hid (set_belowT (i := q) HB3.out HG.out (byteV d))
        have hidx := idx_b (some ⟨g, 0, none⟩) g 0 (m + 4) cP q rfl hq4
        rw [Nat.zero_add] at hidx
        have HTL : Hid (((putL L).set q d).length ≤ maxTk) := Lib.hid (by rw [List.length_set, HPL.out]; unfold maxTk; omega)
        have HSL : Hid (((putL L).set q d).length = m + 4) := Lib.hid (by rw [List.length_set, HPL.out])
        have hm4 : ¬ ((m : Int) + 4 = 0) := by omega
        clear hny hnz hq hql hdne hx hd hc HR3
        go_wp2_with fail
        refine (take_any _ ((putL L).set q d) _ (HE.out.below HBs.out) (HRs.out.bs HSL.out HCP.out) HTL.out).mono ?_
        intro e w5 h
        obtain ⟨p5, n5, c5, rfl, -, b5⟩ := h.is HT5.out
        have HB5 := Lib.hid (then_ HBs.out b5)
        clear h b5
        go_wp2_with fail
        refine (wakes_any _ (HE.out.below HB5.out)).mono ?_
        rintro e w7 ⟨rfl, b7⟩
        have HB7 := Lib.hid (then_ HB5.out b7)
        clear b7
        go_wp2_with fail
        go_ret
        exact ⟨rfl, HB7.out⟩
end Go.Proofs.YthoccemfdndkhaaDoor.Crc
