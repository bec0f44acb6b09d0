/- Layer 10: DiskKnown. -/
import Derived.Test.YtnohgfjmfgeccaaDkzf
import Derived.Test.YtnohgfjmfgeccaaGc
set_option linter.unusedSimpArgs false
set_option linter.unusedVariables false
namespace Go.Proofs.Ytnohgfjmfgeccaa.Gm
open Go Go.RowKit Go.Maps
attribute [local go_sem ↓] Go.wp_at_zero Go.wp_at_succ
theorem Knw.out {k : Nat} {V : View} (h : Knw k V) (hk : k < 512) : offV V (-1) false (runV V (-1) (createC V (nameK k)) (putV V (nameK k, [], 0))) = ⟨0, putV V (nameK k, [], 0), -1, false⟩ := by rw [h.code hk]; rfl
/-- Where the making of the 512 files stands. -/
def MakeAt (g bm : Nat) (w0 : World) (k : Nat) (wr : World) : Prop := ∃ L nn D, Dsk w0.heap.size g bm (2 * k) nn wr D L 4194304 (-1) false ∧ Knw k (view L) ∧ Below w0.heap.size w0 wr
set_option maxHeartbeats 8000000 in
set_option maxRecDepth 100000 in
theorem law_dkno (w : World) : Calls Try.prog 6 #[] w (Gives (.bool true) w) := by
  have HA := Lib.hid (fun W => awake10 W)
  have HN := Lib.hid (fun W => new_yes 4194304 (by omega) W)
  go_enter Try.func6, Try.ntmps6
  go_wp2_with fail
  refine (HA.out _).mono ?_; rintro e w0 ⟨rfl, b0⟩
  have HB0 := Lib.hid b0
  clear b0 HA
  go_wp2_with fail
  refine (HN.out _).mono ?_; rintro e w1 ⟨g, bm, rfl, hD, hgl, hbl, b1⟩
  have HM : Hid (MakeAt g bm w0 0 w1) := Lib.hid ⟨[], 0, _, hD, Knw.zero, b1⟩
  clear b1 hD HN hgl hbl
  go_wp2_with fail
  go_loopw [36] (fun i wr => ∃ k : Nat, k ≤ 512 ∧ i = .int .i64 k ∧ Hid (MakeAt g bm w0 k wr)) (fun i _ => 512 - (intOf i).toNat)
  case atStart => exact ⟨0, by omega, rfl, HM⟩
  case round =>
    obtain ⟨k, hk, rfl, HK⟩ := hrel
    clear HM
    by_cases hkn : k < 512
    · have hm1 : Int.tmod (k : Int) 26 = ((k % 26 : Nat) : Int) := by rw [Int.tmod_eq_emod_of_nonneg (by omega)]; omega
      have hq1 : Int.tdiv (k : Int) 26 = ((k / 26 : Nat) : Int) := by rw [Int.tdiv_eq_ediv_of_nonneg (by omega)]; omega
      obtain ⟨x, hx⟩ : ∃ x, k % 26 = x := ⟨_, rfl⟩
      obtain ⟨y, hy⟩ : ∃ y, k / 26 = y := ⟨_, rfl⟩
      have hxl : x < 26 := by omega
      have hyl : y < 20 := by omega
      rw [hx] at hm1
      rw [hy] at hq1
      have HXE := Lib.hid hx
      have HYE := Lib.hid hy
      clear hx hy
      obtain ⟨a, ha⟩ : ∃ a, UInt8.ofNat (97 + x) = a := ⟨_, rfl⟩
      obtain ⟨b, hb⟩ : ∃ b, UInt8.ofNat (97 + y) = b := ⟨_, rfl⟩
      have hav : (97 : Int) + (x : Int) = (a.toNat : Int) := by rw [← ha, UInt8.toNat_ofNat']; omega
      have hbv : (97 : Int) + (y : Int) = (b.toNat : Int) := by rw [← hb, UInt8.toNat_ofNat']; omega
      have HAE := Lib.hid ha
      have HBE := Lib.hid hb
      have hbs := bs_const wr [a, b] #[.int .u8 (a.toNat : Int), .int .u8 (b.toNat : Int)] 2 (0, 0) rfl rfl
      have hcv := conv_bs hbs 9 Try.underlying9
      clear ha hb hbs
      go_wp2_with fail
      have hcat : ((⟨#[102]⟩ : ByteArray) ++ ⟨#[a, b]⟩) = ⟨[102, a, b].toArray⟩ := by apply ByteArray.ext; simp
      rw [hcat]
      have hname : nameK k = [102, a, b] := by unfold nameK; rw [HXE.out, HYE.out, HAE.out, HBE.out]
      obtain ⟨L, nn, D, hD, hK, hB⟩ := HK.out
      have bl := below_one wr (.cells #[.int .u8 (a.toNat : Int), .int .u8 (b.toNat : Int)] 5)
      have hDa := hD.later bl
      have hBa := below_then hB (below_less bl hD.base.1)
      have hc := Create_v hDa (by omega) [102, a, b] (by simp)
      rw [← hname, hK.out hkn, hname] at hc
      refine hc.mono ?_; rintro e w2 ⟨rfl, L2, ⟨nn2, D2, hD', hC', hI'⟩, hV'⟩
      have HKn : Hid (MakeAt g bm w0 (k + 1) w2) := Lib.hid ⟨L2, nn2, D2, by have h := hD'; rw [show 2 * k + 2 = 2 * (k + 1) by omega] at h; exact h, by rw [hV', ← hname]; exact hK.next hkn, hDa.went hBa hC'⟩
      clear hc hDa hBa hD hK hB hD' hC' hI' hV' hcat hname bl hcv
      go_wp2_with fail
      go_roundw
      case rel => exact ⟨k + 1, by omega, by go_num, HKn⟩
      case measure => simp [intOf]; omega
    · obtain rfl : k = 512 := by omega
      obtain ⟨L, nn, D, hD, hK, hB⟩ := HK.out
      have HD := Lib.hid hD
      have HB := Lib.hid hB
      obtain ⟨V, hV⟩ : ∃ V, view L = V := ⟨_, rfl⟩
      rw [hV] at hK
      have HV := Lib.hid hV
      have HKn := Lib.hid hK
      clear hD hK hB hV HK
      go_wp2_with fail
      have hDa := HD.out
      have hBa := HB.out
      have hc := Create_v hDa (by omega) more (by decide)
      rw [HV.out, HKn.out.full (-1) rfl] at hc
      refine hc.mono ?_; rintro e w3 ⟨rfl, L3, ⟨nn3, D3, hD', hC', hI'⟩, hV'⟩
      have HBn := Lib.hid (hDa.went hBa hC')
      clear hc hDa hBa HB HD HV hC' hI'
      have HB := HBn
      have HD := Lib.hid hD'
      have HV := Lib.hid hV'
      clear hD' hV' HBn
      go_wp2_with fail
      have hDa := HD.out
      have hBa := HB.out
      have hc := Rename_v hDa (by omega) faa (by decide) fba (by decide)
      rw [HV.out, HKn.out.renames] at hc
      refine hc.mono ?_; rintro e w4 ⟨rfl, L4, ⟨nn4, D4, hD', hC', hI'⟩, hV'⟩
      have HBn := Lib.hid (hDa.went hBa hC')
      clear hc hDa hBa HB HD HV hC' hI'
      have HB := HBn
      have HD := Lib.hid hD'
      have HV := Lib.hid hV'
      clear hD' hV' HBn
      go_wp2_with fail
      have hDa := HD.out
      have hBa := HB.out
      have hc := Create_v hDa (by omega) more (by decide)
      rw [HV.out, HKn.out.makes] at hc
      refine hc.mono ?_; rintro e w5 ⟨rfl, L5, ⟨nn5, D5, hD', hC', hI'⟩, hV'⟩
      have HBn := Lib.hid (hDa.went hBa hC')
      clear hc hDa hBa HB HD HV hC' hI'
      have HB := HBn
      have HD := Lib.hid hD'
      have HV := Lib.hid hV'
      clear hD' hV' HBn
      go_wp2_with fail
      have HKm := Lib.hid HKn.out.kmo
      obtain ⟨V2, hV2⟩ : ∃ V2, v2 V = V2 := ⟨_, rfl⟩
      rw [hV2] at HKm HV
      clear HKn hV2
      have hDa := HD.out
      have hBa := HB.out
      have hc := Create_v hDa (by omega) more (by decide)
      rw [HV.out, HKm.out.again] at hc
      refine hc.mono ?_; rintro e w6 ⟨rfl, L6, ⟨nn6, D6, hD', hC', hI'⟩, hV'⟩
      have HBn := Lib.hid (hDa.went hBa hC')
      clear hc hDa hBa HB HD HV hC' hI'
      have HB := HBn
      have HD := Lib.hid hD'
      have HV := Lib.hid hV'
      clear hD' hV' HBn
      go_wp2_with fail
      have hDa := HD.out
      have hBa := HB.out
      have hc := Truncate_v hDa (by omega) more (by decide) 1
      rw [HV.out, HKm.out.cut1] at hc
      refine hc.mono ?_; rintro e w7 ⟨rfl, L7, ⟨nn7, D7, hD', hC', hI'⟩, hV'⟩
      have HBn := Lib.hid (hDa.went hBa hC')
      clear hc hDa hBa HB HD HV hC' hI'
      have HB := HBn
      have HD := Lib.hid hD'
      have HV := Lib.hid hV'
      clear hD' hV' HBn
      go_wp2_with fail
      have hDa := HD.out
      have hBa := HB.out
      have hc := Truncate_v hDa (by omega) more (by decide) (-1)
      rw [HV.out, cut2_any] at hc
      refine hc.mono ?_; rintro e w8 ⟨rfl, L8, ⟨nn8, D8, hD', hC', hI'⟩, hV'⟩
      have HBn := Lib.hid (hDa.went hBa hC')
      clear hc hDa hBa HB HD HV hC' hI'
      have HB := HBn
      have HD := Lib.hid hD'
      have HV := Lib.hid hV'
      clear hD' hV' HBn
      go_wp2_with fail
      have hDa := HD.out
      have hBa := HB.out
      have hc := Remove_v hDa (by omega) faa (by decide)
      rw [HV.out, HKm.out.gone] at hc
      refine hc.mono ?_; rintro e w9 ⟨rfl, L9, ⟨nn9, D9, hD', hC', hI'⟩, hV'⟩
      have HBn := Lib.hid (hDa.went hBa hC')
      clear hc hDa hBa HB HD HV hC' hI'
      have HB := HBn
      have HD := Lib.hid hD'
      have HV := Lib.hid hV'
      clear hD' hV' HBn
      go_wp2_with fail
      have hDa := HD.out
      have hBa := HB.out
      have hc := Quota_v hDa 0
      rw [HV.out, if_pos (show okQ 0 from by decide), if_pos (show okQ 0 from by decide)] at hc
      refine hc.mono ?_; rintro e w10 ⟨rfl, L10, ⟨nn10, D10, hD', hC', hI'⟩, hV'⟩
      have HBn := Lib.hid (hDa.went hBa hC')
      clear hc hDa hBa HB HD HV hC' hI'
      have HB := HBn
      have HD := Lib.hid hD'
      have HV := Lib.hid hV'
      clear hD' hV' HBn
      go_wp2_with fail
      have hDa := HD.out
      have hBa := HB.out
      have hc := Append_v hDa (by omega) more (by decide) none 0 [] (by decide) (Bs.nil _)
      rw [HV.out, HKm.out.adds] at hc
      refine hc.mono ?_; rintro e w11 ⟨rfl, L11, ⟨nn11, D11, hD', hC', hI'⟩, hV'⟩
      have HBn := Lib.hid (hDa.went hBa hC')
      clear hc hDa hBa HB HD HV hC' hI'
      have HB := HBn
      have HD := Lib.hid hD'
      have HV := Lib.hid hV'
      clear hD' hV' HBn
      go_wp2_with fail
      have bl := below_one w11 (.cells #[.int .u8 1] 5)
      have hbs := bs_const w11 [1] #[.int .u8 1] 1 (0, 0) rfl rfl
      have hDa := HD.out.later bl
      have hBa := below_then HB.out (below_less bl HD.out.base.1)
      have hc := Append_v hDa (by omega) more (by decide) _ _ [1] (by decide) hbs
      rw [HV.out, HKm.out.full _ ([1] : List UInt8).length rfl] at hc
      refine hc.mono ?_; rintro e w12 ⟨rfl, L12, ⟨nn12, D12, hD', hC', hI'⟩, hV'⟩
      have HBn := Lib.hid (hDa.went hBa hC')
      clear hc hDa hBa HB HD HV hC' hI' bl hbs
      have HB := HBn
      have HD := Lib.hid hD'
      have HV := Lib.hid hV'
      clear hD' hV' HBn
      go_wp2_with fail
      have hDa := HD.out
      have hBa := HB.out
      have hc := Quota_v hDa (-1)
      rw [HV.out, if_neg (show ¬ okQ (-1) from by decide), if_neg (show ¬ okQ (-1) from by decide)] at hc
      refine hc.mono ?_; rintro e w13 ⟨rfl, L13, ⟨nn13, D13, hD', hC', hI'⟩, hV'⟩
      have HBn := Lib.hid (hDa.went hBa hC')
      clear hc hDa hBa HB HD HV hC' hI'
      have HB := HBn
      have HD := Lib.hid hD'
      have HV := Lib.hid hV'
      clear hD' hV' HBn
      go_wp2_with fail
      have hDa := HD.out
      have hBa := HB.out
      have hc := Fuse_v hDa (-2) (by decide)
      rw [HV.out, show fuseC (-2) false = 1 from rfl, if_neg (show ¬ (1 : Int) = 0 from by decide)] at hc
      refine hc.mono ?_; rintro e w14 ⟨rfl, L14, ⟨nn14, D14, hD', hC', hI'⟩, hV'⟩
      have HBn := Lib.hid (hDa.went hBa hC')
      clear hc hDa hBa HB HD HV hC' hI'
      have HB := HBn
      have HD := Lib.hid hD'
      have HV := Lib.hid hV'
      clear hD' hV' HBn
      go_wp2_with fail
      have hDa := HD.out
      have hBa := HB.out
      have hc := Fuse_v hDa 0 (by decide)
      rw [HV.out, show fuseC 0 false = 0 from rfl, if_pos rfl] at hc
      refine hc.mono ?_; rintro e w15 ⟨rfl, L15, ⟨nn15, D15, hD', hC', hI'⟩, hV'⟩
      have HBn := Lib.hid (hDa.went hBa hC')
      clear hc hDa hBa HB HD HV hC' hI'
      have HB := HBn
      have HD := Lib.hid hD'
      have HV := Lib.hid hV'
      clear hD' hV' HBn
      go_wp2_with fail
      have hDa := HD.out
      have hBa := HB.out
      have hc := Sync_v hDa (by omega) more (by decide)
      rw [HV.out, HKm.out.goes] at hc
      refine hc.mono ?_; rintro e w16 ⟨rfl, L16, ⟨nn16, D16, hD', hC', hI'⟩, hV'⟩
      have HBn := Lib.hid (hDa.went hBa hC')
      clear hc hDa hBa HB HD HV hC' hI'
      have HB := HBn
      have HD := Lib.hid hD'
      have HV := Lib.hid hV'
      clear hD' hV' HBn
      go_wp2_with fail
      have hDa := HD.out
      have hBa := HB.out
      have hc := Fuse_v hDa 1 (by decide)
      rw [HV.out, show fuseC 1 true = 8 from rfl, if_neg (show ¬ (8 : Int) = 0 from by decide)] at hc
      refine hc.mono ?_; rintro e w17 ⟨rfl, L17, ⟨nn17, D17, hD', hC', hI'⟩, hV'⟩
      have HBn := Lib.hid (hDa.went hBa hC')
      clear hc hDa hBa HB HD HV hC' hI'
      have HB := HBn
      have HD := Lib.hid hD'
      have HV := Lib.hid hV'
      clear hD' hV' HBn
      go_wp2_with fail
      have hc := Size_v HD.out more (by decide)
      rw [HV.out, show readC V2 more true = 8 from rfl, show readB V2 more true = [] from rfl] at hc
      refine hc.mono ?_; rintro e w18 ⟨rfl, b7⟩
      have HBn := Lib.hid (below_then HB.out (below_less b7 HD.out.base.1))
      have hDn := HD.out.later b7
      clear hc HB HD b7
      have HB := HBn
      have HD := Lib.hid hDn
      clear hDn HBn
      go_wp2_with fail
      have hc := new_no (-1) (by decide) w18
      refine hc.mono ?_; rintro e w19 ⟨rfl, b7⟩
      have HBn := Lib.hid (below_then HB.out (below_less b7 HD.out.base.1))
      have hDn := HD.out.later b7
      clear hc HB HD b7
      have HB := HBn
      have HD := Lib.hid hDn
      clear hDn HBn
      go_wp2_with fail
      have hc := new_no 4194305 (by decide) w19
      refine hc.mono ?_; rintro e w20 ⟨rfl, b7⟩
      have HBn := Lib.hid (below_then HB.out (below_less b7 HD.out.base.1))
      have hDn := HD.out.later b7
      clear hc HB HD b7
      have HB := HBn
      have HD := Lib.hid hDn
      clear hDn HBn
      go_wp2_with fail
      have hc := Read_bad none [97] 2 (by decide) w20 (askIs_nil [97] w20)
      refine hc.mono ?_; rintro e w21 ⟨rfl, b7⟩
      have HBn := Lib.hid (below_then HB.out (below_less b7 HD.out.base.1))
      have hDn := HD.out.later b7
      clear hc HB HD b7
      have HB := HBn
      have HD := Lib.hid hDn
      clear hDn HBn
      go_wp2_with fail
      have hDa := HD.out
      have hBa := HB.out
      have hc := Quota_v hDa 5
      rw [HV.out, if_pos (show okQ 5 from by decide), if_pos (show okQ 5 from by decide)] at hc
      refine hc.mono ?_; rintro e w22 ⟨rfl, L22, ⟨nn22, D22, hD', hC', hI'⟩, hV'⟩
      have HBn := Lib.hid (hDa.went hBa hC')
      clear hc hDa hBa HB HD HV hC' hI'
      have HB := HBn
      have HD := Lib.hid hD'
      have HV := Lib.hid hV'
      clear hD' hV' HBn
      go_wp2_with fail
      have hc := Create_nil [97] w22
      refine hc.mono ?_; rintro e w23 ⟨cc, rfl, rfl, b7⟩
      have HBn := Lib.hid (below_then HB.out (below_less b7 HD.out.base.1))
      have hDn := HD.out.later b7
      clear hc HB HD b7
      have HB := HBn
      have HD := Lib.hid hDn
      clear hDn HBn
      go_wp2_with fail
      have hc := Append_nil [97] none 0 0 w23
      refine hc.mono ?_; rintro e w24 ⟨cc, rfl, rfl, b7⟩
      have HBn := Lib.hid (below_then HB.out (below_less b7 HD.out.base.1))
      have hDn := HD.out.later b7
      clear hc HB HD b7
      have HB := HBn
      have HD := Lib.hid hDn
      clear hDn HBn
      go_wp2_with fail
      have hc := Sync_nil [97] w24
      refine hc.mono ?_; rintro e w25 ⟨cc, rfl, rfl, b7⟩
      have HBn := Lib.hid (below_then HB.out (below_less b7 HD.out.base.1))
      have hDn := HD.out.later b7
      clear hc HB HD b7
      have HB := HBn
      have HD := Lib.hid hDn
      clear hDn HBn
      go_wp2_with fail
      have hc := Rename_nil [97] [98] w25
      refine hc.mono ?_; rintro e w26 ⟨cc, rfl, rfl, b7⟩
      have HBn := Lib.hid (below_then HB.out (below_less b7 HD.out.base.1))
      have hDn := HD.out.later b7
      clear hc HB HD b7
      have HB := HBn
      have HD := Lib.hid hDn
      clear hDn HBn
      go_wp2_with fail
      have hc := Truncate_nil [97] 0 w26
      refine hc.mono ?_; rintro e w27 ⟨cc, rfl, rfl, b7⟩
      have HBn := Lib.hid (below_then HB.out (below_less b7 HD.out.base.1))
      have hDn := HD.out.later b7
      clear hc HB HD b7
      have HB := HBn
      have HD := Lib.hid hDn
      clear hDn HBn
      go_wp2_with fail
      have hc := Remove_nil [97] w27
      refine hc.mono ?_; rintro e w28 ⟨cc, rfl, rfl, b7⟩
      have HBn := Lib.hid (below_then HB.out (below_less b7 HD.out.base.1))
      have hDn := HD.out.later b7
      clear hc HB HD b7
      have HB := HBn
      have HD := Lib.hid hDn
      clear hDn HBn
      go_wp2_with fail
      have hc := Quota_none 0 w28
      refine hc.mono ?_; rintro e w29 ⟨rfl, b7⟩
      have HBn := Lib.hid (below_then HB.out (below_less b7 HD.out.base.1))
      have hDn := HD.out.later b7
      clear hc HB HD b7
      have HB := HBn
      have HD := Lib.hid hDn
      clear hDn HBn
      go_wp2_with fail
      have hc := Fuse_nil 0 w29
      refine hc.mono ?_; rintro e w30 ⟨rfl, b7⟩
      have HBn := Lib.hid (below_then HB.out (below_less b7 HD.out.base.1))
      have hDn := HD.out.later b7
      clear hc HB HD b7
      have HB := HBn
      have HD := Lib.hid hDn
      clear hDn HBn
      go_wp2_with fail
      have hc := Crash_none (.slice none 0 0) (.slice none 0 0) w30
      refine hc.mono ?_; rintro e w31 ⟨rfl, b7⟩
      have HBn := Lib.hid (below_then HB.out (below_less b7 HD.out.base.1))
      have hDn := HD.out.later b7
      clear hc HB HD b7
      have HB := HBn
      have HD := Lib.hid hDn
      clear hDn HBn
      go_wp2_with fail
      have hc := Off_none w31
      refine hc.mono ?_; rintro e w32 ⟨rfl, b7⟩
      have HBn := Lib.hid (below_then HB.out (below_less b7 HD.out.base.1))
      have hDn := HD.out.later b7
      clear hc HB HD b7
      have HB := HBn
      have HD := Lib.hid hDn
      clear hDn HBn
      go_wp2_with fail
      have hc := namesN_none w32
      refine hc.mono ?_; rintro e w33 ⟨rfl, b7⟩
      have HBn := Lib.hid (below_then HB.out (below_less b7 HD.out.base.1))
      have hDn := HD.out.later b7
      clear hc HB HD b7
      have HB := HBn
      have HD := Lib.hid hDn
      clear hDn HBn
      go_wp2_with fail
      have hc := used_none10 w33
      refine hc.mono ?_; rintro e w34 ⟨rfl, b7⟩
      have HBn := Lib.hid (below_then HB.out (below_less b7 HD.out.base.1))
      have hDn := HD.out.later b7
      clear hc HB HD b7
      have HB := HBn
      have HD := Lib.hid hDn
      clear hDn HBn
      go_wp2_with fail
      have hc := Loose_none (encStr [97]) w34
      refine hc.mono ?_; rintro e w35 ⟨rfl, b7⟩
      have HBn := Lib.hid (below_then HB.out (below_less b7 HD.out.base.1))
      have hDn := HD.out.later b7
      clear hc HB HD b7
      have HB := HBn
      have HD := Lib.hid hDn
      clear hDn HBn
      go_wp2_with fail
      have hc := may_any [] (by decide) w35
      rw [show mayNm [] = false from rfl] at hc
      refine hc.mono ?_; rintro e w36 ⟨rfl, b7⟩
      have HBn := Lib.hid (below_then HB.out (below_less b7 HD.out.base.1))
      have hDn := HD.out.later b7
      clear hc HB HD b7
      have HB := HBn
      have HD := Lib.hid hDn
      clear hDn HBn
      go_wp2_with fail
      have hc := may_any [97, 95, 98] (by decide) w36
      rw [show mayNm [97, 95, 98] = false from rfl] at hc
      refine hc.mono ?_; rintro e w37 ⟨rfl, b7⟩
      have HBn := Lib.hid (below_then HB.out (below_less b7 HD.out.base.1))
      have hDn := HD.out.later b7
      clear hc HB HD b7
      have HB := HBn
      have HD := Lib.hid hDn
      clear hDn HBn
      go_wp2_with fail
      have hc := may_any [97, 46, 98, 45, 48] (by decide) w37
      rw [show mayNm [97, 46, 98, 45, 48] = true from rfl] at hc
      refine hc.mono ?_; rintro e w38 ⟨rfl, b7⟩
      have HBn := Lib.hid (below_then HB.out (below_less b7 HD.out.base.1))
      have hDn := HD.out.later b7
      clear hc HB HD b7
      have HB := HBn
      have HD := Lib.hid hDn
      clear hDn HBn
      go_wp2_with fail
      have hc := may_any [49, 50, 51, 52, 53, 54, 55, 56, 57, 48, 49, 50, 51, 52, 53, 54, 55, 56, 57, 48, 49, 50, 51, 52, 53, 54, 55, 56, 57, 48, 49, 50, 51] (by decide) w38
      rw [show mayNm [49, 50, 51, 52, 53, 54, 55, 56, 57, 48, 49, 50, 51, 52, 53, 54, 55, 56, 57, 48, 49, 50, 51, 52, 53, 54, 55, 56, 57, 48, 49, 50, 51] = false from by decide] at hc
      refine hc.mono ?_; rintro e w39 ⟨rfl, b7⟩
      have HBn := Lib.hid (below_then HB.out (below_less b7 HD.out.base.1))
      have hDn := HD.out.later b7
      clear hc HB HD b7
      have HB := HBn
      have HD := Lib.hid hDn
      clear hDn HBn
      go_wp2_with fail
      go_ret
      exact ⟨rfl, then_ HB0.out HB.out⟩
end Go.Proofs.Ytnohgfjmfgeccaa.Gm
