/- The walk of CodecForms,  (Written by tools/gen_nf.py.) -/
import Derived.Test.YtnolpglgabemfaaNfa
set_option linter.unusedSimpArgs false
set_option linter.unusedVariables false
namespace Go.Proofs.Ytnolpglgabemfaa.Gm
open Go Go.RowKit
attribute [local go_sem ↓] Go.wp_at_zero Go.wp_at_succ

set_option maxHeartbeats 16000000 in
set_option maxRecDepth 20000 in
theorem law_cforms (v0 : Value) (B : List UInt8) (cn at_ : Nat) (w : World) (hB : Bs w v0 B) (hlen0 : B.length ≤ 140737488351232) (hcn : cn < 256) (hat : at_ < 65536) : Calls Try.prog 7 #[v0, .int .u8 cn, .int .u16 at_] w (Gives (.bool true) w) := by
  obtain ⟨i0, ji, iz0, iz1, iz2⟩ := info_parts infoB
  obtain ⟨c, hc⟩ : ∃ c : UInt8, (cn : Int) = (c.toNat : Int) := ⟨UInt8.ofNat cn, by rw [UInt8.toNat_ofNat']; omega⟩
  obtain ⟨p0, c0, hv⟩ := hB.form
  obtain ⟨nB, hnB⟩ : ∃ nB, B.length = nB := ⟨_, rfl⟩
  rw [hnB] at hv
  subst hv
  obtain ⟨-, hcap, hnil⟩ := bs_room hB
  obtain ⟨k, hk⟩ : ∃ k, at_ % (nB + 1) = k := ⟨_, rfl⟩
  have hkn : k ≤ nB := by have := Nat.mod_lt at_ (show 0 < nB + 1 by omega); omega
  obtain ⟨q1, q2, q3⟩ := at_wrap (n := at_) (m := nB) hat (by omega)
  rw [hk] at q3
  have HQ3 := Lib.hid (And.intro q1 (And.intro q2 q3))
  clear q1 q2 q3
  clear hk
  have hcap2 : nB ≤ c0 := by rw [← hnB]; exact hcap
  have q4 := fun W => slice_pre_b p0 nB c0 k hkn hcap2 hnil W
  have q5 : (((nB : Int) + 1) == 0) = false := by rw [beq_eq_false_iff_ne]; omega
  have HSrc : Hid (Src w (.slice p0 nB c0) nB 1 (cellsB B)) := Lib.hid (by have h := hB.src; rwa [hnB] at h)
  have HnB := Lib.hid hnB
  have Hc := Lib.hid hc
  have hlen : B.length ≤ 140737488355328 := by omega
  have hlen2 : (B ++ [c]).length ≤ 140737488355328 := by rw [List.length_append, List.length_singleton]; omega
  have hlen3 : (B.take k).length ≤ 140737488355328 := by rw [List.length_take]; omega
  have HLe := Lib.hid (And.intro hlen (And.intro hlen2 hlen3))
  have HBw := Lib.hid hB
  have HLw := Lib.hid (bs_first hB (k := k) hkn)
  have hn0 : nB ≤ 140737488351232 := by omega
  clear hB hlen0 hlen hlen2 hlen3 hcap hcap2 hnil hnB hc hat hcn
  go_enter Try.func7, Try.ntmps7
  go_upto_region 1 with (fail)
  go_upto_region 2 with (first
    | (at_builtin; refine wpList_append_src rfl _ _ 25 rfl w.heap.size 5 i0 (.int .u8 0) 1 1 Try.underlying25 ji iz0 iz1 iz2 rfl (by decide) _ _ _ rfl (World.ownsRow.alloc HO1.out (.cells #[.int .u8 cn] 5)) _ 1 (cellsB [c]) rfl (src_b rfl c _ Hc.out) (nB + 1) rfl (by unfold maxLen; omega) (by omega) (by have := HB1.out.size; simp; omega) ?_; intro pM cM w2 hown2 hgrow2; have HO2 := Lib.hid hown2; have HB2 := Lib.hid ((below_two (o := .cells #[.int .u8 cn] 5) HB1.out).grown hgrow2 (by have := HB1.out.size; simp; omega) (fun j hj => (World.ownsRow.lt HO1.out j hj).1)); clear hown2 hgrow2)
    | (at_builtin; refine wpList_append_src rfl _ _ 25 rfl w.heap.size 5 i0 (.int .u8 0) 1 1 Try.underlying25 ji iz0 iz1 iz2 rfl (by decide) _ 0 [] rfl (World.ownsRow_nil _ _ _ _) _ nB (cellsB B) rfl HSrc.out nB (by omega) (by unfold maxLen; omega) (by omega) (Nat.le_refl _) ?_; intro p1 c1 w1 hown1 hgrow1; have HO1 : Hid (w1.ownsRow w.heap.size 5 1 (.slice p1 nB c1) nB (cellsB B)) := Lib.hid hown1; have HB1 := Lib.hid ((Below.refl w.heap.size w).grown hgrow1 (Nat.le_refl _) (fun j hj => nomatch (show (none : Option Nat) = some j from hj))); clear hown1 hgrow1))
  obtain ⟨q1, q2, q3⟩ := HQ3.out
  go_upto_region 3 with (fail)
  obtain ⟨W0, hW0⟩ : ∃ W0, W0 = w2 := ⟨_, rfl⟩
  subst hW0
  have HM : Hid (Bs W0 (.slice pM (nB + 1) cM) (B ++ [c])) := Lib.hid (OwnB.bs (base := w.heap.size) (by unfold OwnB; rw [List.length_append, List.length_singleton, HnB.out, cellsB_append]; exact HO2.out))
  have HB := Lib.hid (HBw.out.below HB2.out)
  have HL := Lib.hid (HLw.out.below HB2.out)
  have HW0 := HB2
  have HA0 := Lib.hid (Below.refl W0.heap.size W0)
  clear HO1 HO2 HB1 HB2 HBw HLw HSrc Hc q1 q2 q3 q4 q5 HQ3
  go_wp2_with fail
  refine (te_any (.slice p0 nB c0) B W0 (HB.out.below HA0.out) HLe.out.1).mono ?_; intro e w1 h
  obtain ⟨key, p, n, cap, E, rfl, b1, hE⟩ := tke_e h
  have HE := Lib.hid hE
  have HB1 := Lib.hid (below_two (o := .cells #[.string key, .slice p n cap] 24) (then_ HA0.out b1))
  have HX1 := Lib.hid (Blk.new w1 24 #[.string key, .slice p n cap])
  have HBe := Lib.hid (below_one w1 (.cells #[.string key, .slice p n cap] 24))
  clear h b1 hE
  go_upto_if 57 with (fail)
  go_cut [] from 58 to 96 (fun wq => Below W0.heap.size W0 wq)
  case first =>
    rcases HE.out with ⟨rfl, hs⟩ | ⟨rfl, hn⟩
    · skip
      obtain ⟨l, htk, rfl, ho⟩ := hs
      obtain ⟨hput, hroom, hl8⟩ := again_e htk
      have HP := Lib.hid (pe_any key (.slice p l.length cap) l (w1.alloc (.cells #[.string key, .slice p l.length cap] 24)) ((sl_own ho (by omega)).below HBe.out) hroom)
      rw [hput] at HP
      have HMo := Lib.hid (take_behind (t := [c]) codec_es htk (by simp))
      clear hput
      go_wp2_with fail
      refine HP.out.mono ?_; intro e w2 h
      obtain ⟨v2, rfl, ho2, b2⟩ := putr_yes h
      have HO2 := Lib.hid ho2
      obtain ⟨p2, c2, rfl⟩ := ho2.form
      rw [HnB.out] at HO2 ⊢
      have HB2 := Lib.hid (then_ HB1.out b2)
      clear ho2 b2 HP h
      go_wp2_with fail
      refine (te_any (.slice pM (nB + 1) cM) (B ++ [c]) _ (HM.out.below HB2.out) HLe.out.2.1).mono ?_; intro e w3 h
      obtain ⟨rfl, b3⟩ := takeE_none h HMo.out
      have b3 := b3.trans (Below.mono (below_one w3 (.cells #[.string ⟨#[]⟩, .slice none 0 0] 24)) b3.size)
      have HB3 := Lib.hid (then_ HB2.out b3)
      have HO3 := Lib.hid (HO2.out.below b3)
      clear h b3 HO2
      go_wp2_with fail
      refine (te_any (.slice p0 k c0) (B.take k) _ (HL.out.below HB3.out) HLe.out.2.2).mono ?_; intro e w4 h
      obtain ⟨key4, p4, n4, cap4, E4, rfl, b4, hE4⟩ := tke_e h
      have hk4 : E4 = 5 ∨ (E4 = 0 ∧ k = nB) := by
        rcases hE4 with ⟨rfl, h5⟩ | ⟨rfl, _⟩
        · right
          refine ⟨rfl, ?_⟩
          rcases Nat.lt_or_ge k nB with hlt | hge
          · have h7 := take_ahead (k := k) codec_es htk (by rw [HnB.out]; exact hlt)
            obtain ⟨_, h6, _⟩ := h5
            exact absurd (h6.symm.trans h7) (by simp)
          · omega
        · exact .inl rfl
      have b4 := b4.trans (Below.mono (below_one w4 (.cells #[.string key4, .slice p4 n4 cap4] 24)) b4.size)
      have HB4 := Lib.hid (then_ HB3.out b4)
      have HO4 := Lib.hid (HO3.out.below b4)
      have qa := conv_bs HO4.out.bs 9 Try.underlying9
      have qb := conv_bs (HB.out.below HB4.out) 9 Try.underlying9
      obtain ⟨XA, hXA⟩ : ∃ XA, (⟨B.toArray⟩ : ByteArray) = XA := ⟨_, rfl⟩
      rw [hXA] at qa qb
      have HK4 := Lib.hid hk4
      clear h b4 HO3 hE4 htk hk4 HMo HE
      rcases HK4.out with rfl | ⟨rfl, hkb⟩
      · go_wp2_with fail
        all_goals
          go_meet
          exact HB4.out
      · have hd : decide ((k : Int) < (nB : Int)) = false := by simp; omega
        have hd1 : ¬ ((k : Int) < (nB : Int)) := by omega
        have hd2 : decide (k < nB) = false := by simp; omega
        clear hkb
        go_wp2_with fail
        all_goals
          go_meet
          exact HB4.out
    · go_wp2_with fail
      go_meet
      exact HB1.out
  case rest =>
  have HA1 := Lib.hid hcut
  obtain ⟨wA1, hwA⟩ : ∃ wA, wA = wc := ⟨_, rfl⟩
  subst hwA
  clear hcut HE HB1 HBe HX1
  go_wp2_with fail
  refine (tp_any (.slice p0 nB c0) B wA1 (HB.out.below HA1.out) HLe.out.1).mono ?_; intro e w1 h
  obtain ⟨p, n, cap, E, rfl, b1, hE⟩ := tke_p h
  have HE := Lib.hid hE
  have HB1 := Lib.hid (then_ HA1.out b1)
  have HBe := Lib.hid (Below.refl w1.heap.size w1)
  clear h b1 hE
  go_upto_if 103 with (fail)
  go_cut [] from 104 to 142 (fun wq => Below W0.heap.size W0 wq)
  case first =>
    rcases HE.out with ⟨rfl, hs⟩ | ⟨rfl, hn⟩
    · skip
      obtain ⟨cs, htk, rfl, ho, hi⟩ := hs
      obtain ⟨hput, hfit, hwf⟩ := again_p htk hi
      have HP := Lib.hid (pp_any (.slice p cs.length cap) cs w1 (cs_own ho hi hwf) hfit)
      rw [hput] at HP
      have HMo := Lib.hid (take_behind (t := [c]) codec_pzs htk (by simp))
      clear hput
      go_wp2_with fail
      refine HP.out.mono ?_; intro e w2 h
      obtain ⟨v2, rfl, ho2, b2⟩ := putr_yes h
      have HO2 := Lib.hid ho2
      obtain ⟨p2, c2, rfl⟩ := ho2.form
      rw [HnB.out] at HO2 ⊢
      have HB2 := Lib.hid (then_ HB1.out b2)
      clear ho2 b2 HP h
      go_wp2_with fail
      refine (tp_any (.slice pM (nB + 1) cM) (B ++ [c]) _ (HM.out.below HB2.out) HLe.out.2.1).mono ?_; intro e w3 h
      obtain ⟨rfl, b3⟩ := takeE_none h HMo.out
      have HB3 := Lib.hid (then_ HB2.out b3)
      have HO3 := Lib.hid (HO2.out.below b3)
      clear h b3 HO2
      go_wp2_with fail
      refine (tp_any (.slice p0 k c0) (B.take k) _ (HL.out.below HB3.out) HLe.out.2.2).mono ?_; intro e w4 h
      obtain ⟨p4, n4, cap4, E4, rfl, b4, hE4⟩ := tke_p h
      have hk4 : E4 = 5 ∨ (E4 = 0 ∧ k = nB) := by
        rcases hE4 with ⟨rfl, h5⟩ | ⟨rfl, _⟩
        · right
          refine ⟨rfl, ?_⟩
          rcases Nat.lt_or_ge k nB with hlt | hge
          · have h7 := take_ahead (k := k) codec_pzs htk (by rw [HnB.out]; exact hlt)
            obtain ⟨_, h6, _⟩ := h5
            exact absurd (h6.symm.trans h7) (by simp)
          · omega
        · exact .inl rfl
      have HB4 := Lib.hid (then_ HB3.out b4)
      have HO4 := Lib.hid (HO3.out.below b4)
      have qa := conv_bs HO4.out.bs 9 Try.underlying9
      have qb := conv_bs (HB.out.below HB4.out) 9 Try.underlying9
      obtain ⟨XA, hXA⟩ : ∃ XA, (⟨B.toArray⟩ : ByteArray) = XA := ⟨_, rfl⟩
      rw [hXA] at qa qb
      have HK4 := Lib.hid hk4
      clear h b4 HO3 hE4 htk hk4 HMo HE
      rcases HK4.out with rfl | ⟨rfl, hkb⟩
      · go_wp2_with fail
        all_goals
          go_meet
          exact HB4.out
      · have hd : decide ((k : Int) < (nB : Int)) = false := by simp; omega
        have hd1 : ¬ ((k : Int) < (nB : Int)) := by omega
        have hd2 : decide (k < nB) = false := by simp; omega
        clear hkb
        go_wp2_with fail
        all_goals
          go_meet
          exact HB4.out
    · go_wp2_with fail
      go_meet
      exact HB1.out
  case rest =>
  have HA2 := Lib.hid hcut
  obtain ⟨wA2, hwA⟩ : ∃ wA, wA = wc := ⟨_, rfl⟩
  subst hwA
  clear hcut HE HB1 HBe
  go_wp2_with fail
  refine (ti_any (.slice p0 nB c0) B wA2 (HB.out.below HA2.out) HLe.out.1).mono ?_; intro e w1 h
  obtain ⟨N, T, key, p, n, cap, E, rfl, b1, hE⟩ := tke_i h
  have HE := Lib.hid hE
  have HB1 := Lib.hid (below_two (o := .cells #[.int .u64 N, .int .u64 T, .string key, .slice p n cap] 51) (then_ HA2.out b1))
  have HX1 := Lib.hid (Blk.new w1 51 #[.int .u64 N, .int .u64 T, .string key, .slice p n cap])
  have HBe := Lib.hid (below_one w1 (.cells #[.int .u64 N, .int .u64 T, .string key, .slice p n cap] 51))
  clear h b1 hE
  go_upto_if 149 with (fail)
  go_cut [] from 150 to 188 (fun wq => Below W0.heap.size W0 wq)
  case first =>
    rcases HE.out with ⟨rfl, hs⟩ | ⟨rfl, hn⟩
    · skip
      obtain ⟨l, htk, rfl, ho⟩ := hs
      obtain ⟨hput, hroom, hl8⟩ := again_i htk
      have HP := Lib.hid (pi_any N T key (.slice p l.length cap) l (w1.alloc (.cells #[.int .u64 N, .int .u64 T, .string key, .slice p l.length cap] 51)) ((sl_own ho (by omega)).below HBe.out) hroom)
      rw [hput] at HP
      have HMo := Lib.hid (take_behind (t := [c]) codec_is htk (by simp))
      have q0_ := HX1.out.cell 0 rfl
      have q1_ := HX1.out.cell 1 rfl
      clear hput
      go_wp2_with fail
      refine HP.out.mono ?_; intro e w2 h
      obtain ⟨v2, rfl, ho2, b2⟩ := putr_yes h
      have HO2 := Lib.hid ho2
      obtain ⟨p2, c2, rfl⟩ := ho2.form
      rw [HnB.out] at HO2 ⊢
      have HB2 := Lib.hid (then_ HB1.out b2)
      clear ho2 b2 HP h
      go_wp2_with fail
      refine (ti_any (.slice pM (nB + 1) cM) (B ++ [c]) _ (HM.out.below HB2.out) HLe.out.2.1).mono ?_; intro e w3 h
      obtain ⟨rfl, b3⟩ := takeE_none h HMo.out
      have b3 := b3.trans (Below.mono (below_one w3 (.cells #[.int .u64 0, .int .u64 0, .string ⟨#[]⟩, .slice none 0 0] 51)) b3.size)
      have HB3 := Lib.hid (then_ HB2.out b3)
      have HO3 := Lib.hid (HO2.out.below b3)
      clear h b3 HO2
      go_wp2_with fail
      refine (ti_any (.slice p0 k c0) (B.take k) _ (HL.out.below HB3.out) HLe.out.2.2).mono ?_; intro e w4 h
      obtain ⟨N4, T4, key4, p4, n4, cap4, E4, rfl, b4, hE4⟩ := tke_i h
      have hk4 : E4 = 5 ∨ (E4 = 0 ∧ k = nB) := by
        rcases hE4 with ⟨rfl, h5⟩ | ⟨rfl, _⟩
        · right
          refine ⟨rfl, ?_⟩
          rcases Nat.lt_or_ge k nB with hlt | hge
          · have h7 := take_ahead (k := k) codec_is htk (by rw [HnB.out]; exact hlt)
            obtain ⟨_, h6, _⟩ := h5
            exact absurd (h6.symm.trans h7) (by simp)
          · omega
        · exact .inl rfl
      have b4 := b4.trans (Below.mono (below_one w4 (.cells #[.int .u64 N4, .int .u64 T4, .string key4, .slice p4 n4 cap4] 51)) b4.size)
      have HB4 := Lib.hid (then_ HB3.out b4)
      have HO4 := Lib.hid (HO3.out.below b4)
      have qa := conv_bs HO4.out.bs 9 Try.underlying9
      have qb := conv_bs (HB.out.below HB4.out) 9 Try.underlying9
      obtain ⟨XA, hXA⟩ : ∃ XA, (⟨B.toArray⟩ : ByteArray) = XA := ⟨_, rfl⟩
      rw [hXA] at qa qb
      have HK4 := Lib.hid hk4
      clear h b4 HO3 hE4 htk hk4 HMo HE
      rcases HK4.out with rfl | ⟨rfl, hkb⟩
      · go_wp2_with fail
        all_goals
          go_meet
          exact HB4.out
      · have hd : decide ((k : Int) < (nB : Int)) = false := by simp; omega
        have hd1 : ¬ ((k : Int) < (nB : Int)) := by omega
        have hd2 : decide (k < nB) = false := by simp; omega
        clear hkb
        go_wp2_with fail
        all_goals
          go_meet
          exact HB4.out
    · go_wp2_with fail
      go_meet
      exact HB1.out
  case rest =>
  have HA3 := Lib.hid hcut
  obtain ⟨wA3, hwA⟩ : ∃ wA, wA = wc := ⟨_, rfl⟩
  subst hwA
  clear hcut HE HB1 HBe HX1
  go_wp2_with fail
  refine (tg_any (.slice p0 nB c0) B wA3 (HB.out.below HA3.out) HLe.out.1).mono ?_; intro e w1 h
  obtain ⟨c5, E, rfl, b1, hE⟩ := tke_g h
  have HB1 := Lib.hid (below_two (o := .cells #[.int .u64 c5.fr, .int .u64 c5.en, .slice c5.ip c5.its.length c5.ic, .slice c5.gp c5.gps.length c5.gc, .bool c5.last] 64) (then_ HA3.out b1))
  have HX1 := Lib.hid (Blk.new w1 64 #[.int .u64 c5.fr, .int .u64 c5.en, .slice c5.ip c5.its.length c5.ic, .slice c5.gp c5.gps.length c5.gc, .bool c5.last])
  have HBe := Lib.hid (below_one w1 (.cells #[.int .u64 c5.fr, .int .u64 c5.en, .slice c5.ip c5.its.length c5.ic, .slice c5.gp c5.gps.length c5.gc, .bool c5.last] 64))
  clear h b1
  rcases hE with ⟨rfl, htk, ho, hi, hg⟩ | ⟨rfl, hn, rfl⟩
  · skip
    obtain ⟨hput, hwf⟩ := again_g htk
    have HP := Lib.hid (pg_any c5 (w1.alloc (.cells #[.int .u64 c5.fr, .int .u64 c5.en, .slice c5.ip c5.its.length c5.ic, .slice c5.gp c5.gps.length c5.gc, .bool c5.last] 64)) ((pgin_own ho hi hg hwf).later HBe.out))
    rw [hput] at HP
    have HMo := Lib.hid (take_behind (t := [c]) codec_pgs htk (by simp))
    have q0_ := HX1.out.cell 0 rfl
    have q1_ := HX1.out.cell 1 rfl
    have q2_ := HX1.out.cell 2 rfl
    have q3_ := HX1.out.cell 3 rfl
    have q4_ := HX1.out.cell 4 rfl
    clear hput
    go_wp2_with fail
    refine HP.out.mono ?_; intro e w2 h
    obtain ⟨v2, rfl, ho2, b2⟩ := putr_yes h
    have HO2 := Lib.hid ho2
    obtain ⟨p2, c2, rfl⟩ := ho2.form
    rw [HnB.out] at HO2 ⊢
    have HB2 := Lib.hid (then_ HB1.out b2)
    clear ho2 b2 HP h
    go_wp2_with fail
    refine (tg_any (.slice pM (nB + 1) cM) (B ++ [c]) _ (HM.out.below HB2.out) HLe.out.2.1).mono ?_; intro e w3 h
    obtain ⟨rfl, b3⟩ := takeE_none h HMo.out
    have b3 := b3.trans (Below.mono (below_one w3 (.cells #[.int .u64 0, .int .u64 0, .slice none 0 0, .slice none 0 0, .bool false] 64)) b3.size)
    have HB3 := Lib.hid (then_ HB2.out b3)
    have HO3 := Lib.hid (HO2.out.below b3)
    clear h b3 HO2
    go_wp2_with fail
    refine (tg_any (.slice p0 k c0) (B.take k) _ (HL.out.below HB3.out) HLe.out.2.2).mono ?_; intro e w4 h
    obtain ⟨c6, E4, rfl, b4, hE4⟩ := tke_g h
    have hk4 : E4 = 5 ∨ (E4 = 0 ∧ k = nB) := by
      rcases hE4 with ⟨rfl, h5⟩ | ⟨rfl, _⟩
      · right
        refine ⟨rfl, ?_⟩
        rcases Nat.lt_or_ge k nB with hlt | hge
        · have h7 := take_ahead (k := k) codec_pgs htk (by rw [HnB.out]; exact hlt)
          exact absurd (h5.1.symm.trans h7) (by simp)
        · omega
      · exact .inl rfl
    have b4 := b4.trans (Below.mono (below_one w4 (.cells #[.int .u64 c6.fr, .int .u64 c6.en, .slice c6.ip c6.its.length c6.ic, .slice c6.gp c6.gps.length c6.gc, .bool c6.last] 64)) b4.size)
    have HB4 := Lib.hid (then_ HB3.out b4)
    have HO4 := Lib.hid (HO3.out.below b4)
    have qa := conv_bs HO4.out.bs 9 Try.underlying9
    have qb := conv_bs (HB.out.below HB4.out) 9 Try.underlying9
    obtain ⟨XA, hXA⟩ : ∃ XA, (⟨B.toArray⟩ : ByteArray) = XA := ⟨_, rfl⟩
    rw [hXA] at qa qb
    have HK4 := Lib.hid hk4
    clear h b4 HO3 hE4 htk hk4 HMo
    rcases HK4.out with rfl | ⟨rfl, hkb⟩
    · skip
      go_wp2_with fail
      refine (wakes_any _).mono ?_; rintro e wz ⟨rfl, hbz⟩
      have HBz := Lib.hid (then_ HB4.out hbz)
      clear hbz qa qb
      go_wp2_with fail
      go_ret
      exact ⟨rfl, then_ HW0.out HBz.out⟩
    · have hd : decide ((k : Int) = (nB : Int)) = true := by simp; omega
      have hd1 : ((k : Int) == (nB : Int)) = true := by simp; omega
      have hd2 : (k : Int) = (nB : Int) := by omega
      clear hkb
      go_wp2_with fail
      refine (wakes_any _).mono ?_; rintro e wz ⟨rfl, hbz⟩
      have HBz := Lib.hid (then_ HB4.out hbz)
      clear hbz qa qb
      go_wp2_with fail
      go_ret
      exact ⟨rfl, then_ HW0.out HBz.out⟩
  · have q1_ := HX1.out.cell 1 rfl
    have q2_ := HX1.out.cell 2 rfl
    go_wp2_with fail
    refine (wakes_any _).mono ?_; rintro e wz ⟨rfl, hbz⟩
    have HBz := Lib.hid (then_ HB1.out hbz)
    clear hbz q1_ q2_
    go_wp2_with fail
    go_ret
    exact ⟨rfl, then_ HW0.out HBz.out⟩
end Go.Proofs.Ytnolpglgabemfaa.Gm
