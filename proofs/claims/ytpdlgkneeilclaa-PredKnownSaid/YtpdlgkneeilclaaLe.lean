/- The walk of the statement PredKnown. -/
import Derived.Test.YtpdlgkneeilclaaLe1
set_option linter.unusedSimpArgs false
set_option linter.unusedVariables false
namespace Go.Proofs.Ytpdlgkneeilclaa.Gm
open Go Go.RowKit
attribute [local go_sem ↓] Go.wp_at_zero Go.wp_at_succ

theorem mk_six (W : World) : (Instr.makeSlice 35 (.int .i64 6) (.int .i64 6)).run Try.prog W = .ok (.slice (some ⟨W.heap.size, 0, none⟩) 6 6) (W.alloc (.cells ((six 0).flatMap encV).toArray 34)) := by kernel_rfl
theorem mk_one (W : World) : (Instr.makeSlice 23 (.int .i64 1) (.int .i64 1)).run Try.prog W = .ok (.slice (some ⟨W.heap.size, 0, none⟩) 1 1) (W.alloc (.cells (encC ⟨⟨#[]⟩, 0, ⟨0, 0, ⟨#[]⟩, false⟩, none, 0, []⟩).toArray 37)) := by kernel_rfl
set_option maxHeartbeats 8000000 in
set_option maxRecDepth 100000 in
theorem law_pknown (w : World) : Calls Try.prog 8 #[] w (Gives (.bool true) w) := by
  obtain ⟨i0, ii, iz0, iz1, iz2⟩ := info_parts infoC
  obtain ⟨j0, ji, jz0, jz1, jz2⟩ := info_parts infoV
  go_enter Try.func8, Try.ntmps8
  go_wp2_with fail
  refine (awake_any _).mono ?_; rintro e w1 ⟨rfl, b1⟩
  have HB1 := Lib.hid b1
  clear b1
  have hmk := mk_six
  obtain ⟨G, hG⟩ : ∃ G, G = w1.heap.size := ⟨_, rfl⟩
  have HK0 : Hid (Blk (w1.alloc (.cells ((six 0).flatMap encV).toArray 34)) G 34 ((six 0).flatMap encV).toArray) := Lib.hid (by rw [hG]; exact Blk.new _ _ _)
  have HA0 := Lib.hid (below_one w1 (.cells ((six 0).flatMap encV).toArray 34))
  have HG := Lib.hid hG
  go_wp2_with fail
  rw [← hG]
  clear hmk hG
  go_loopw [27] (fun i wr => ∃ k : Nat, k ≤ 6 ∧ i = .int .i64 k ∧ Hid (Blk wr G 34 ((six k).flatMap encV).toArray) ∧ Hid (Below w1.heap.size w1 wr)) (fun i _ => 6 - (intOf i).toNat)
  case atStart => exact ⟨0, Nat.zero_le _, rfl, HK0, HA0⟩
  case round =>
    obtain ⟨k, hk, rfl, HK, HB⟩ := hrel
    by_cases hkl : k < 6
    · have hidx := idx_v1 (some ⟨G, 0, none⟩) G 0 6 6 k rfl hkl
      rw [Nat.zero_add] at hidx
      go_wp2_with fail
      refine (n_any k _).mono ?_; rintro e w2 ⟨rfl, b2⟩
      have hB2 := HK.out.later b2
      have hsz := six_cells k
      have q0 := hB2.cell (k * 4) (Array.getElem?_eq_getElem (by omega))
      have q1 := hB2.cell (k * 4 + 1) (Array.getElem?_eq_getElem (by omega))
      have q2 := hB2.cell (k * 4 + 2) (Array.getElem?_eq_getElem (by omega))
      have q3 := hB2.cell (k * 4 + 3) (Array.getElem?_eq_getElem (by omega))
      have f0 := hB2.free (k * 4)
      have f1 := hB2.free (k * 4 + 1)
      have f2 := hB2.free (k * 4 + 2)
      have f3 := hB2.free (k * 4 + 3)
      have HK2 := Lib.hid (six_put hB2 hkl)
      have HB2 := Lib.hid (setCells_below (then_ HB.out b2) (b := G) (by have := HG.out; omega) [.int .i64 1, .int .i64 (k : Int), .string ⟨#[]⟩, .bool false] (k * 4))
      clear b2 hB2
      go_wp2_with fail
      go_roundw
      case rel => exact ⟨k + 1, by omega, by simp, HK2, HB2⟩
      case measure => simp [intOf]; omega
    · have hke : k = 6 := by omega
      subst hke
      obtain ⟨wb, rfl⟩ : ∃ wb, wb = wr := ⟨_, rfl⟩
      have HV := Lib.hid (six_vs HK.out)
      go_wp2_with fail
      refine (pk_may sA 9 0 0 ⟨#[]⟩ false (some ⟨G, 0, none⟩) 6 6 (six 6) (six_len 6) _ HV.out true (kn_a _ _)).mono ?_; rintro e w3 ⟨rfl, b3⟩
      have HB3 := Lib.hid (then_ HB.out b3)
      have HKn := Lib.hid (HK.out.later b3)
      clear HK
      have HK := HKn
      clear HKn
      clear b3 HB
      go_wp2_with fail
      clear HV
      refine (n_any 9 _).mono ?_; rintro e w4 ⟨rfl, b4⟩
      have HB4 := Lib.hid (then_ HB3.out b4)
      have HO6 := Lib.hid (six_own (base := w1.heap.size) (by have := HG.out; omega) (HK.out.later b4))
      have hsz6 := HB4.out.size
      clear b4 HK HB3
      go_wp2_with (at_builtin; refine wpList_append_src (by rfl) _ _ 35 (by rfl) w1.heap.size 34 j0 (.agg #[.int .i64 0, .int .i64 0, .string ⟨#[]⟩, .bool false]) 4 40 Try.underlying35 ji jz0 jz1 jz2 rfl (by decide) (.slice (some ⟨G, 0, none⟩) 6 6) 6 ((six 6).flatMap encV) (by rfl) (World.ownsRow.alloc HO6.out _) _ 1 (encV (nv 9)) (by rfl) (.inr ⟨_, _, by rfl, by rfl, fun t u hu => by rw [add_lit, Nat.zero_add]; exact (Blk.new w4 _ _).cell t (by simpa [encV] using hu), encV_one (nv 9)⟩) 7 rfl (by unfold maxLen; omega) (by omega) (by simp; omega) ?_; intro pB capB wc hown5 hgrow5; have HV7 := Lib.hid (seven_vs hown5); have HBc := Lib.hid ((HB4.out.alloc HB4.out.size _).grown hgrow5 (by simp; omega) (fun t ht => by have := HG.out; have h := (World.ownsRow.lt HO6.out t ht).1; exact h)); clear hown5 hgrow5 HO6)
      clear hsz6 HB4
      refine (pk_may sA 9 0 0 ⟨#[]⟩ false pB 7 capB (six 6 ++ [nv 9]) (by simp [six_len]) _ HV7.out false (kn_b _ _)).mono ?_; rintro e w5 ⟨rfl, b5⟩
      have HB5 := Lib.hid (then_ HBc.out b5)
      clear b5 HBc
      go_wp2_with fail
      clear HV7
      refine (pk_may sA 9 0 0 ⟨#[]⟩ false none 0 0 [] rfl _ (vs_nil _) false (kn_c _ _)).mono ?_; rintro e w6 ⟨rfl, b6⟩
      have HB6 := Lib.hid (then_ HB5.out b6)
      clear b6 HB5
      go_wp2_with fail
      refine (pk_may ⟨#[]⟩ 1 0 0 ⟨#[]⟩ false none 0 0 [] rfl _ (vs_nil _) false (kn_d _ _)).mono ?_; rintro e w7 ⟨rfl, b7⟩
      have HB7 := Lib.hid (then_ HB6.out b7)
      clear b7 HB6
      go_wp2_with fail
      refine (pk_may ⟨#[49, 50, 51, 52, 53, 54, 55, 56, 57, 48, 49, 50, 51, 52, 53, 54, 55]⟩ 1 0 0 ⟨#[]⟩ false none 0 0 [] rfl _ (vs_nil _) false (kn_e _ _)).mono ?_; rintro e w8 ⟨rfl, b8⟩
      have HB8 := Lib.hid (then_ HB7.out b8)
      clear b8 HB7
      go_wp2_with fail
      refine (n_any 1 _).mono ?_; rintro e w9 ⟨rfl, b9⟩
      have HB9 := Lib.hid (then_ HB8.out b9)
      clear b9 HB8
      go_wp2_with fail
      refine (pk_may sA 8 1 1 ⟨#[]⟩ false none 0 0 [] rfl _ (vs_nil _) false (kn_f _ _)).mono ?_; rintro e w10 ⟨rfl, b10⟩
      have HB10 := Lib.hid (then_ HB9.out b10)
      clear b10 HB9
      go_wp2_with fail
      refine (pk_may sA 2 0 0 ⟨#[]⟩ false none 0 0 [] rfl _ (vs_nil _) false (kn_g _ _)).mono ?_; rintro e w11 ⟨rfl, b11⟩
      have HB11 := Lib.hid (then_ HB10.out b11)
      clear b11 HB10
      go_wp2_with fail
      refine (n_any 1 _).mono ?_; rintro e w12 ⟨rfl, b12⟩
      have HB12 := Lib.hid (then_ HB11.out b12)
      clear b12 HB11
      go_wp2_with fail
      refine (pk_may sA 10 1 1 ⟨#[]⟩ false none 0 0 [] rfl _ (vs_nil _) false (kn_h _ _)).mono ?_; rintro e w13 ⟨rfl, b13⟩
      have HB13 := Lib.hid (then_ HB12.out b13)
      clear b13 HB12
      go_wp2_with fail
      refine (n_any 0 _).mono ?_; rintro e w14 ⟨rfl, b14⟩
      have HB14 := Lib.hid (then_ HB13.out b14)
      clear b14 HB13
      have hmk1 := mk_one
      go_wp2_with fail
      refine (pk_may sA 1 1 0 ⟨#[]⟩ false none 0 0 [] rfl _ (vs_nil _) false (kn_i _ _)).mono ?_; rintro e w15 ⟨rfl, b15⟩
      have HB15 := Lib.hid (then_ HB14.out b15)
      clear b15 HB14
      have HJ := Lib.hid (one_new ⟨⟨#[]⟩, 0, ⟨0, 0, ⟨#[]⟩, false⟩, none, 0, []⟩ w15 (vs_nil _))
      have HA15 := Lib.hid (HB15.out.alloc HB15.out.size (.cells (encC ⟨⟨#[]⟩, 0, ⟨0, 0, ⟨#[]⟩, false⟩, none, 0, []⟩).toArray 37))
      clear HB15
      have HJm := maypred_any _ _ _ HJ.out
      rw [kn_j] at HJm
      have HJm := Lib.hid HJm
      go_wp2_with fail
      refine (HJm.out).mono ?_; rintro e w16 ⟨rfl, b16⟩
      have HB16 := Lib.hid (then_ HA15.out b16)
      clear b16 HA15
      go_wp2_with fail
      clear HJm HJ hmk1
      refine (s_any sX _).mono ?_; rintro e w17 ⟨rfl, b17⟩
      have HB17 := Lib.hid (then_ HB16.out b17)
      clear b17 HB16
      go_wp2_with fail
      have HP := Lib.hid (one_new ⟨sB, 8, tv sX, none, 0, []⟩ w17 (vs_nil _))
      have HA17 := Lib.hid (HB17.out.alloc HB17.out.size (.cells (encC ⟨sB, 8, tv sX, none, 0, []⟩).toArray 37))
      clear HB17
      refine (s_any sXY _).mono ?_; rintro e w18 ⟨rfl, b18⟩
      have HB18 := Lib.hid (then_ HA17.out b18)
      have HPn := Lib.hid (HP.out.later b18)
      clear HP
      have HP := HPn
      clear HPn
      clear b18 HA17
      go_wp2_with fail
      refine (a_any sB (tv sXY) _).mono ?_; rintro e w19 ⟨rfl, b19⟩
      have HB19 := Lib.hid (then_ HB18.out b19)
      have HPn := Lib.hid (HP.out.later b19)
      clear HP
      have HP := HPn
      clear HPn
      clear b19 HB18
      go_wp2_with fail
      have HE := Lib.hid (es_new ⟨sB, (tv sXY)⟩ w19)
      have HP2 := Lib.hid (HP.out.later (below_one w19 (.cells #[.string sB, .int .i64 ((tv sXY) : Vl).k, .int .i64 ((tv sXY) : Vl).n, .string ((tv sXY) : Vl).s, .bool ((tv sXY) : Vl).b] 56)))
      have HA19 := Lib.hid (HB19.out.alloc HB19.out.size (.cells #[.string sB, .int .i64 ((tv sXY) : Vl).k, .int .i64 ((tv sXY) : Vl).n, .string ((tv sXY) : Vl).s, .bool ((tv sXY) : Vl).b] 56))
      clear HB19
      clear HP
      refine (e_any _ _ _ _).mono ?_; rintro e w20 ⟨rfl, b20⟩
      have HB20 := Lib.hid (then_ HA19.out b20)
      have HP2n := Lib.hid (HP2.out.later b20)
      have HEn := Lib.hid (HE.out.later b20)
      clear HP2
      have HP2 := HP2n
      clear HP2n
      clear HE
      have HE := HEn
      clear HEn
      clear b20 HA19
      go_wp2_with fail
      have HMt := matches_any _ exK ⟨#[]⟩ _ _ w20 HP2.out HE.out
      rw [m_is kn_k] at HMt
      have HMt := Lib.hid HMt
      refine (HMt.out).mono ?_; rintro e w21 ⟨rfl, b21⟩
      have HB21 := Lib.hid (then_ HB20.out b21)
      clear b21 HB20
      go_wp2_with fail
      clear HMt HP2 HE
      refine (n_any 1 _).mono ?_; rintro e w22 ⟨rfl, b22⟩
      have HB22 := Lib.hid (then_ HB21.out b22)
      clear b22 HB21
      go_wp2_with fail
      refine (s_any sZ _).mono ?_; rintro e w23 ⟨rfl, b23⟩
      have HB23 := Lib.hid (then_ HB22.out b23)
      clear b23 HB22
      go_wp2_with fail
      have HSb := Lib.hid (vals_new [nv 1, tv sZ] (by decide) w23)
      have HA23 := Lib.hid (HB23.out.alloc HB23.out.size (.cells ([nv 1, tv sZ].flatMap encV).toArray 34))
      clear HB23
      have HP := Lib.hid (one_newG ⟨sC, 9, ⟨0, 0, ⟨#[]⟩, false⟩, some ⟨w23.heap.size, 0, none⟩, 2, [nv 1, tv sZ]⟩ _ (w23.heap.size + 1) (by simp) HSb.out)
      have HA := Lib.hid (HA23.out.alloc HA23.out.size (.cells (encC ⟨sC, 9, ⟨0, 0, ⟨#[]⟩, false⟩, some ⟨w23.heap.size, 0, none⟩, 2, [nv 1, tv sZ]⟩).toArray 37))
      clear HSb HA23
      refine (s_any sZ _).mono ?_; rintro e w24 ⟨rfl, b24⟩
      have HB24 := Lib.hid (then_ HA.out b24)
      have HPn := Lib.hid (HP.out.later b24)
      clear HP
      have HP := HPn
      clear HPn
      clear b24 HA
      go_wp2_with fail
      refine (a_any sC (tv sZ) _).mono ?_; rintro e w25 ⟨rfl, b25⟩
      have HB25 := Lib.hid (then_ HB24.out b25)
      have HPn := Lib.hid (HP.out.later b25)
      clear HP
      have HP := HPn
      clear HPn
      clear b25 HB24
      go_wp2_with fail
      have HE := Lib.hid (es_new ⟨sC, (tv sZ)⟩ w25)
      have HP2 := Lib.hid (HP.out.later (below_one w25 (.cells #[.string sC, .int .i64 ((tv sZ) : Vl).k, .int .i64 ((tv sZ) : Vl).n, .string ((tv sZ) : Vl).s, .bool ((tv sZ) : Vl).b] 56)))
      have HA25 := Lib.hid (HB25.out.alloc HB25.out.size (.cells #[.string sC, .int .i64 ((tv sZ) : Vl).k, .int .i64 ((tv sZ) : Vl).n, .string ((tv sZ) : Vl).s, .bool ((tv sZ) : Vl).b] 56))
      clear HB25
      clear HP
      refine (e_any _ _ _ _).mono ?_; rintro e w26 ⟨rfl, b26⟩
      have HB26 := Lib.hid (then_ HA25.out b26)
      have HP2n := Lib.hid (HP2.out.later b26)
      have HEn := Lib.hid (HE.out.later b26)
      clear HP2
      have HP2 := HP2n
      clear HP2n
      clear HE
      have HE := HEn
      clear HEn
      clear b26 HA25
      go_wp2_with fail
      have HMt := matches_any _ (exL _) ⟨#[]⟩ _ _ w26 HP2.out HE.out
      rw [m_is (kn_l _)] at HMt
      have HMt := Lib.hid HMt
      refine (HMt.out).mono ?_; rintro e w27 ⟨rfl, b27⟩
      have HB27 := Lib.hid (then_ HB26.out b27)
      clear b27 HB26
      go_wp2_with fail
      clear HMt HP2 HE
      refine (n_any 3 _).mono ?_; rintro e w28 ⟨rfl, b28⟩
      have HB28 := Lib.hid (then_ HB27.out b28)
      clear b28 HB27
      go_wp2_with fail
      have HP := Lib.hid (one_new ⟨sC, 3, nv 3, none, 0, []⟩ w28 (vs_nil _))
      have HA28 := Lib.hid (HB28.out.alloc HB28.out.size (.cells (encC ⟨sC, 3, nv 3, none, 0, []⟩).toArray 37))
      clear HB28
      refine (a_any sC ⟨3, 0, ⟨#[]⟩, true⟩ _).mono ?_; rintro e w29 ⟨rfl, b29⟩
      have HB29 := Lib.hid (then_ HA28.out b29)
      have HPn := Lib.hid (HP.out.later b29)
      clear HP
      have HP := HPn
      clear HPn
      clear b29 HA28
      go_wp2_with fail
      have HE := Lib.hid (es_new ⟨sC, ⟨3, 0, ⟨#[]⟩, true⟩⟩ w29)
      have HP2 := Lib.hid (HP.out.later (below_one w29 (.cells #[.string sC, .int .i64 (⟨3, 0, ⟨#[]⟩, true⟩ : Vl).k, .int .i64 (⟨3, 0, ⟨#[]⟩, true⟩ : Vl).n, .string (⟨3, 0, ⟨#[]⟩, true⟩ : Vl).s, .bool (⟨3, 0, ⟨#[]⟩, true⟩ : Vl).b] 56)))
      have HA29 := Lib.hid (HB29.out.alloc HB29.out.size (.cells #[.string sC, .int .i64 (⟨3, 0, ⟨#[]⟩, true⟩ : Vl).k, .int .i64 (⟨3, 0, ⟨#[]⟩, true⟩ : Vl).n, .string (⟨3, 0, ⟨#[]⟩, true⟩ : Vl).s, .bool (⟨3, 0, ⟨#[]⟩, true⟩ : Vl).b] 56))
      clear HB29
      clear HP
      refine (e_any _ _ _ _).mono ?_; rintro e w30 ⟨rfl, b30⟩
      have HB30 := Lib.hid (then_ HA29.out b30)
      have HP2n := Lib.hid (HP2.out.later b30)
      have HEn := Lib.hid (HE.out.later b30)
      clear HP2
      have HP2 := HP2n
      clear HP2n
      clear HE
      have HE := HEn
      clear HEn
      clear b30 HA29
      go_wp2_with fail
      have HMt := matches_any _ exM ⟨#[]⟩ _ _ w30 HP2.out HE.out
      rw [m_is kn_m] at HMt
      have HMt := Lib.hid HMt
      refine (HMt.out).mono ?_; rintro e w31 ⟨rfl, b31⟩
      have HB31 := Lib.hid (then_ HB30.out b31)
      clear b31 HB30
      go_wp2_with fail
      clear HMt HP2 HE
      go_loopw [17, 99] (fun sv i wr => ∃ k : Nat, k ≤ 7 ∧ i = .int .i64 k ∧ Hid (wr.ownsRow w31.heap.size 37 7 sv k ((has k).flatMap encC)) ∧ Hid (Below w31.heap.size w31 wr)) (fun _ i _ => 7 - (intOf i).toNat)
      case atStart => exact ⟨0, Nat.zero_le _, rfl, Lib.hid (World.ownsRow_nil _ _ _ _), Lib.hid (Below.refl _ _)⟩
      case round =>
        obtain ⟨k, hk7, rfl, HO, HBs⟩ := hrel
        obtain ⟨ps, cs, rfl⟩ := own_shape HO.out
        by_cases hkl7 : k < 7
        · have hz := HBs.out.size
          have hdk : (k : Int) < 7 := by omega
          go_wp2_with (at_builtin; refine wpList_append_src (by rfl) _ _ 23 (by rfl) w31.heap.size 37 i0 (.agg #[.string ⟨#[]⟩, .int .i64 0, .int .i64 0, .int .i64 0, .string ⟨#[]⟩, .bool false, .slice none 0 0]) 7 88 Try.underlying23 ii iz0 iz1 iz2 rfl (by decide) _ _ _ (by rfl) (World.ownsRow.alloc HO.out (.cells (encC hasA).toArray 37)) _ 1 (encC hasA) (by rfl) (.inr ⟨_, _, by rfl, by rfl, fun t u hu => by rw [add_lit, Nat.zero_add]; exact (Blk.new wr _ _).cell t (by simpa [encC] using hu), encC_one hasA⟩) (k + 1) rfl (by unfold maxLen; omega) (by omega) (by simp; omega) ?_; intro pE capE w40 hown hgrow; rw [has_more] at hown; have HO2 := Lib.hid hown; have HB2 := Lib.hid ((HBs.out.alloc HBs.out.size (.cells (encC hasA).toArray 37)).grown hgrow (by simp; omega) (fun t ht => (World.ownsRow.lt HO.out t (by simpa [Value.ownBlock] using ht)).1)); clear hown hgrow)
          go_roundw
          case rel => exact ⟨k + 1, by omega, by simp, HO2, HB2⟩
          case measure => simp [intOf]; omega
        · have hke7 : k = 7 := by omega
          subst hke7
          have HC7 := Lib.hid (has_cs HO.out (by omega))
          have hsl := has_slice HC7.out
          have HN := Lib.hid (normal_yes _ _ _ (has_six HC7.out) has_may6)
          have HBw := Lib.hid (then_ HB31.out HBs.out)
          clear HO
          go_wp2_with fail
          refine HN.out.mono ?_; rintro e w50 ⟨pn, cn, r, rfl, hN⟩
          have hr1 : r.length = 1 := norm_one (hN.is.trans has_norm) rfl
          have HB50 := Lib.hid (then_ HBw.out hN.bel)
          have HC50 := Lib.hid (HC7.out.later hN.bel)
          rw [hr1]
          clear hN hr1 HN HC7
          go_wp2_with fail
          have h1 := maypred_any _ (has 7) w50 HC50.out
          rw [has_may7] at h1
          refine h1.mono ?_; rintro e w51 ⟨rfl, b51⟩
          have HB51 := Lib.hid (then_ HB50.out b51)
          have HC51 := Lib.hid (HC50.out.later b51)
          clear h1 b51 HC50
          go_wp2_with fail
          have h2 := pcompare_any _ _ (has 7) (has 6) w51 HC51.out (has_six HC51.out)
          rw [has_cmp] at h2
          refine h2.mono ?_; rintro e w52 ⟨rfl, b52⟩
          have HB52 := Lib.hid (then_ HB1.out (then_ HB51.out b52))
          clear h2 b52
          go_wp2_with fail
          go_ret
          exact ⟨rfl, HB52.out⟩
end Go.Proofs.Ytpdlgkneeilclaa.Gm
