/- Layer 12: the document's Put. -/
import Derived.Test.YtelocbohiddpgaaGreatDoorSgd
import Derived.Test.YtelocbohiddpgaaGreatDoorFmi
import Derived.Test.YtelocbohiddpgaaGreatDoorWr
set_option linter.unusedSimpArgs false
set_option linter.unusedVariables false
namespace Go.Proofs.YtelocbohiddpgaaGreatDoor.Crc
open Go Go.RowKit Gm
attribute [local go_sem ↓] Go.wp_at_zero Go.wp_at_succ

set_option maxHeartbeats 8000000 in
set_option maxRecDepth 100000 in
theorem rput12_any (r : Rc) (hn : r.n < 18446744073709551616) (v : Value) (w : World) (hB : Bs w v r.d) : Calls Tryz.prog 7 #[recV r.n v] w (PutR12 r w) := by
  obtain ⟨i0, ii, iz0, iz1, iz2⟩ := info_parts infoB
  obtain ⟨n, d⟩ := r
  simp only at hn hB
  obtain ⟨p, cap, rfl⟩ := hB.form
  have hB1 := below_one w (.cells #[.int .u64 (n : Int), .slice p d.length cap] 25)
  have hK := Blk.new w 25 #[.int .u64 (n : Int), .slice p d.length cap]
  obtain ⟨W0, hW0⟩ : ∃ W0, w.alloc (.cells #[.int .u64 (n : Int), .slice p d.length cap] 25) = W0 := ⟨_, rfl⟩
  rw [hW0] at hB1 hK
  have HW0 := Lib.hid hW0
  have HB1 := Lib.hid hB1
  have HK := Lib.hid hK
  have HD := Lib.hid (hB.below hB1)
  have k0 := hK.cell 0 (u := .int .u64 (n : Int)) rfl
  have k1 := hK.cell 1 (u := .slice p d.length cap) rfl
  unfold PutR12 putE12 putB12
  have hfo := fault_ok n d
  simp only
  by_cases hok : okRc ⟨n, d⟩ = true
  · have hf0 := hfo.2 hok
    rw [hf0, if_pos hok]
    have HMy := Lib.hid (body_may hok)
    have hd : d.length ≤ 1500 := ((okRc_iff _).1 hok).2
    have hnb := ((okRc_iff _).1 hok).1
    simp only at hnb
    have n1 : ((n : Int) == 0) = false := by rw [beq_eq_false_iff_ne]; omega
    have n2 : ¬ ((1099511627776 : Int) < (n : Int)) := by omega
    have HBL : Hid (bodyL ⟨n, d⟩ = formN n ++ d) := Lib.hid rfl
    have HFR : Hid (formR ⟨n, d⟩ = frm (formN n ++ d)) := Lib.hid rfl
    rw [HBL.out] at HMy
    rw [HFR.out]
    have HF := Lib.hid (formN_length hn)
    have hfl : (formN n).length ≤ 10 := HF.out.2
    have HN := Lib.hid (rnum_any (.slice none 0 0) [] n hn W0.drew (Bs.nil _) (by simp))
    have HM : Hid (∀ e w', MadeB ([] ++ formN n) W0.drew e w' → ∃ p1 c1, e = .returned (.slice p1 (formN n).length c1) ∧ OwnB w' W0.heap.size (.slice p1 (formN n).length c1) (formN n) ∧ Below W0.heap.size W0 w') := Lib.hid (by
      rintro e w' ⟨v1, rfl, ho, hb⟩
      rw [List.nil_append] at ho
      obtain ⟨p1, c1, rfl⟩ := ho.form
      exact ⟨p1, c1, rfl, ho, ((Below.refl _ W0).drew).trans hb⟩)
    obtain ⟨Q, hQ⟩ : ∃ Q, formN n ++ d = Q := ⟨_, rfl⟩
    have HQ := Lib.hid hQ
    have hQl : Q.length = (formN n).length + d.length := by rw [← hQ, List.length_append]
    rw [hQ] at HMy ⊢
    have hpg := put_good HMy.out
    obtain ⟨fl, hfll⟩ : ∃ fl, (frm Q).length = fl := ⟨_, rfl⟩
    have HPR : Hid (∀ X e w', PutR Q X e w' → ∃ p3 c3, e = .returned (.tuple #[.slice p3 fl c3, .int .i64 0]) ∧ OwnB w' X.heap.size (.slice p3 fl c3) (frm Q) ∧ Below X.heap.size X w') := Lib.hid (by
      rintro X e w' ⟨v, h1, h2, h3⟩
      rw [hpg.1] at h1
      rw [hpg.2] at h2
      obtain ⟨p3, c3, rfl⟩ := h2.form
      rw [hfll] at h1 h2
      exact ⟨p3, c3, h1, h2, h3⟩)
    obtain ⟨nf, hnf⟩ : ∃ nf, (formN n).length = nf := ⟨_, rfl⟩
    have HNF := Lib.hid hnf
    obtain ⟨m, hm⟩ : ∃ m, d.length = m := ⟨_, rfl⟩
    have HMd := Lib.hid hm
    rw [hnf] at hfl HM hQl
    rw [hm] at hd HK HW0 HD hQl k1 ⊢
    have HQL := Lib.hid hQl
    have HS := Lib.hid (fun X (h : Below W0.heap.size W0 X) => by have := (HD.out.below h).src; rw [HMd.out] at this; exact this)
    have HK1 := Lib.hid (fun X (h : Below W0.heap.size W0 X) => (HK.out.later h).cell 1 (u := .slice p m cap) rfl)
    clear hB hnf hm hB1 hK hW0 hQ hpg hfll hok hf0 hfo hnb hQl
    go_enter Tryz.func7, Tryz.ntmps7
    go_wp2_with fail
    rw [HW0.out]
    go_wp2_with fail
    go_region_law (first
      | (go_simp; go_at_call 29; refine HN.out.mono ?_; intro e w1 h1; obtain ⟨p1, c1, rfl, ho1, hb1⟩ := HM.out _ _ h1; have HO1 := Lib.hid ho1; have HBw := Lib.hid hb1; have k2 := HK1.out _ hb1; clear h1 ho1 hb1; try go_wp2_with fail)
      | (refine step_append_src rfl _ _ 23 (by rfl) W0.heap.size 5 i0 (.int .u8 0) 1 1 Tryz.underlying23 ii iz0 iz1 iz2 rfl (by decide) _ _ _ (by rfl) HO1.out _ m (cellsB d) (by rfl) (HS.out _ HBw.out) (nf + m) (by rw [HNF.out]) (by unfold maxLen; omega) (by omega) (HBw.out.size) ?_; intro pA cA wA hownA hgrowA; have HOf := Lib.hid hownA; have HBf : Hid (Below W0.heap.size W0 wA) := Lib.hid (HBw.out.grown hgrowA HBw.out.size (fun j hj => (World.ownsRow.lt HO1.out j hj).1)); have HPf := Lib.hid (rfput_any (.slice pA (nf + m) cA) Q wA (by have h := ownB_app HOf.out (by rw [HNF.out, HMd.out]); have h2 := h.bs; rw [HQ.out] at h2; exact h2)); clear hownA hgrowA)
      | (go_simp; go_at_call 28; refine HPf.out.mono ?_; intro e w3 h3; obtain ⟨p3, c3, rfl, ho3, b3⟩ := HPR.out _ _ _ h3; have HO3 := Lib.hid ho3; have HB3 : Hid (Below W0.heap.size W0 w3) := Lib.hid (then_ HBf.out b3); clear h3 ho3 b3; try go_wp2_with fail))
    all_goals
      go_wp2_with fail
      go_ret2
      exact ⟨_, rfl, HO3.out.base (Nat.le_trans HB1.out.size HBf.out.size), then_ HB1.out HB3.out⟩
  · have hf0 : faultE n d.length ≠ 0 := fun e => hok (hfo.1 e)
    rw [if_neg hok]
    have hff : faultE n d.length = if okN n then (if 1500 < d.length then 3 else 0) else 1 := rfl
    have hon := okN_iff n
    obtain ⟨c, hc⟩ : ∃ c, faultE n d.length = c := ⟨_, rfl⟩
    rw [hc] at hff hf0 ⊢
    have HBw := Lib.hid hB1
    by_cases h0 : n = 0
    · have hkn : okN n = false := by cases h : okN n with | false => rfl | true => (have := hon.1 h; omega)
      rw [hkn] at hff
      have hc1 : c = 1 := by rw [hff]; rfl
      subst hc1 h0
      clear hff hc hf0 hok hfo hon hkn hB hB1 hK hW0
      generalize d.length = m at *
      go_enter Tryz.func7, Tryz.ntmps7
      go_wp2_with fail
      go_ret2
      exact ⟨_, rfl, OwnB.nil _ _, below_one w _⟩
    have n1 : ((n : Int) == 0) = false := by rw [beq_eq_false_iff_ne]; omega
    by_cases h1 : 1099511627776 < n
    · have hkn : okN n = false := by cases h : okN n with | false => rfl | true => (have := hon.1 h; omega)
      rw [hkn] at hff
      have hc1 : c = 1 := by rw [hff]; rfl
      subst hc1
      have n2 : (1099511627776 : Int) < (n : Int) := by omega
      clear hff hc hf0 hok hfo hon hkn hB hB1 hK hW0
      generalize d.length = m at *
      go_enter Tryz.func7, Tryz.ntmps7
      go_wp2_with fail
      rw [HW0.out]
      go_wp2_with fail
      go_ret2
      exact ⟨_, rfl, OwnB.nil _ _, HBw.out⟩
    · have hkn : okN n = true := hon.2 (by omega)
      rw [hkn, if_pos rfl] at hff
      have n2 : ¬ ((1099511627776 : Int) < (n : Int)) := by omega
      by_cases h2 : 1500 < d.length
      · rw [if_pos h2] at hff
        subst hff
        clear hc hf0 hok hfo hon hkn hB hB1 hK hW0
        generalize d.length = m at *
        have n3 : (1500 : Int) < (m : Int) := by omega
        go_enter Tryz.func7, Tryz.ntmps7
        go_wp2_with fail
        rw [HW0.out]
        go_wp2_with fail
        go_ret2
        exact ⟨_, rfl, OwnB.nil _ _, HBw.out⟩
      · rw [if_neg h2] at hff
        exact absurd hff hf0
end Go.Proofs.YtelocbohiddpgaaGreatDoor.Crc
