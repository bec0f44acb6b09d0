/- The walk of SegmentFrom. -/
import Derived.Test.YtelocbohiddpgaaDoorSgq
import Derived.Test.YtelocbohiddpgaaDoorSgr
set_option linter.unusedSimpArgs false
set_option linter.unusedVariables false
namespace Go.Proofs.YtelocbohiddpgaaDoor.Crc
open Go Go.RowKit Gm
attribute [local go_sem ↓] Go.wp_at_zero Go.wp_at_succ

/-- How many stand ahead of what is asked for. -/
theorem ahead_facts {l : List Rc} {F n : Nat} (h : rises F l) {k : Nat} (hk : k ≤ l.length) (h1 : ∀ i, i < k → (l.getD i default).n < n) (h2 : k < l.length → n ≤ (l.getD k default).n) : startK l n l.length ≤ k ∧ k ≤ startK l n l.length + 4 := by
  obtain ⟨s1, s2, s3, _, s5⟩ := start_facts l n l.length
  obtain ⟨j, hj⟩ : ∃ j, startK l n l.length = j := ⟨_, rfl⟩
  rw [hj] at s1 s2 s3 s5 ⊢
  constructor
  · rcases s2 with s2 | ⟨s2, s2'⟩
    · omega
    · rcases Nat.lt_or_ge k j with hlt | hge
      · have h3 := h2 (by omega)
        have h4 := rises_lt h (i := k) (j := j) (by omega) s2 hlt
        rw [getD_at12 (by omega)] at h3
        rw [getD_at12 s2] at s2'
        omega
      · exact hge
  · rcases Nat.lt_or_ge (j + 4) k with hlt | hge
    · have h3 := s5 (j + 4) (by omega) (by omega) (by omega)
      have h4 := h1 (j + 4) hlt
      omega
    · exact hge
set_option maxHeartbeats 16000000 in
set_option maxRecDepth 100000 in
theorem law_sfrom (x f : Nat) (hx : x < 18446744073709551616) (hf64 : f < 18446744073709551616) (v u r : Value) (steps R : List UInt8) (data : List (List UInt8)) (W : World) (hE : Env12 W) (hS : Bs W v steps) (hsl : steps.length ≤ maxTk) (hR : RowR W u data) (hdl : data.length ≤ maxTk) (hr : Bs W r R) :
    Calls Tryd.prog 6 #[segsV x v u r f] W (Gives (.bool true) W) := by
  have hF := first_ok x
  obtain ⟨F, hFF⟩ : ∃ F, firstN x = F := ⟨_, rfl⟩
  have hFi : 1 + (x : Int) % 1099511527776 = (F : Int) := by rw [← hFF]; unfold firstN; omega
  rw [hFF] at hF
  have hokF : okN F = true := (okN_iff F).2 (by omega)
  have hris := laid_rises hF.1 hF.2 steps data
  have hlen := laid_len F steps data
  have HLd := Lib.hid (fun X (h : Below W.heap.size W X) => laid_any F hF.1 hF.2 v steps u data X (hE.below h) (hS.below h) hsl (hR.later h) hdl)
  obtain ⟨l, hl⟩ : ∃ l, laidL F steps data = l := ⟨_, rfl⟩
  rw [hl] at hris hlen HLd
  have hsm := whole_small l (rises_ok hris)
  obtain ⟨nb, hnb⟩ : ∃ nb, wholeS l = nb := ⟨_, rfl⟩
  have hfl : (forms l).length = nb := by rw [forms_length]; exact hnb
  rw [hnb] at hsm
  have hst := start_facts l f l.length
  have hah := fun k (hk : k ≤ l.length) h1 h2 => ahead_facts (n := f) hris (k := k) hk h1 h2
  obtain ⟨k0, hk0⟩ : ∃ k0, startK l f l.length = k0 := ⟨_, rfl⟩
  rw [hk0] at hst hah
  obtain ⟨hs1, -, -, hs4, -⟩ := hst
  -- what is told from there on
  have hdr : forms (l.drop k0) = (forms l).drop (wholeS (l.take k0)) := by
    have e : forms l = forms (l.take k0) ++ forms (l.drop k0) := by rw [← forms_app, List.take_append_drop]
    rw [e, ← forms_length, List.drop_left' rfl]
  have hseg : segL ((forms l).drop (wholeS (l.take k0))) F = l.drop k0 := by rw [← hdr]; exact seg_all hokF (rises_drop hris k0)
  have hwd : wholeS (l.take k0) + wholeS (l.drop k0) = nb := by rw [← wholeS_app, List.take_append_drop, hnb]
  have hokl := fun k (hk : k < l.length) => put_at hris hk
  obtain ⟨at_, hat⟩ : ∃ a, wholeS (l.take k0) = a := ⟨_, rfl⟩
  obtain ⟨wd, hwdd⟩ : ∃ a, wholeS (l.drop k0) = a := ⟨_, rfl⟩
  rw [hat] at hs4 hseg hwd
  rw [hwdd] at hwd
  obtain ⟨no, hno⟩ : ∃ no, l.length = no := ⟨_, rfl⟩
  have HNO := Lib.hid hno
  rw [hno] at hlen hsm hs1 hs4
  obtain ⟨ps, cs, rfl⟩ := hS.form
  obtain ⟨pd, cd, rfl⟩ := hR.form
  obtain ⟨pr, cr, rfl⟩ := hr.form
  have hF64 : F < 18446744073709551616 := by omega
  have HE := Lib.hid hE
  have HSeg := Lib.hid hseg
  have HRis := Lib.hid hris
  have HFl := Lib.hid hfl
  have HAh := Lib.hid hah
  have HOkl := Lib.hid hokl
  have HFr := Lib.hid hs4
  have HWd := Lib.hid hwdd
  have hnb6 : nb ≤ 60720 := by omega
  have HPlL := Lib.hid (plcR_length l no)
  generalize steps.length = ns at *
  generalize data.length = nd at *
  generalize R.length = nr at *
  have B0 := below_one W (.cells #[.int .u64 (x : Int), .slice ps ns cs, .slice pd nd cd, .slice pr nr cr, .int .u64 (f : Int)] 37)
  have K0 := Blk.new W 37 #[.int .u64 (x : Int), .slice ps ns cs, .slice pd nd cd, .slice pr nr cr, .int .u64 (f : Int)]
  obtain ⟨G, hG⟩ : ∃ G, W.heap.size = G := ⟨_, rfl⟩
  obtain ⟨W0, hW0⟩ : ∃ W0, W.alloc (.cells #[.int .u64 (x : Int), .slice ps ns cs, .slice pd nd cd, .slice pr nr cr, .int .u64 (f : Int)] 37) = W0 := ⟨_, rfl⟩
  rw [hW0] at B0 K0
  rw [hG] at K0
  have k0c := K0.cell 0 rfl
  have k1c := K0.cell 1 rfl
  have k2c := K0.cell 2 rfl
  have HK0 := Lib.hid K0
  have HB0 := Lib.hid B0
  have HW0 := Lib.hid hW0
  have HG := Lib.hid hG
  clear hE hS hR hr hFF hl hno hnb hfl hris hokF B0 K0 hW0 hG hseg hah hokl hs4 hdr hwdd hat hk0
  go_enter Tryd.func6, Tryd.ntmps6
  go_upto_region 1 with (fail)
  rw [HW0.out, HG.out]
  go_wp2_with fail
  refine (HLd.out _ HB0.out).mono ?_; rintro e w1 ⟨v1, v2, rfl, hrow, hof, b1⟩
  obtain ⟨pl, cl, rfl, _⟩ := hrow.form
  obtain ⟨pf, cf, rfl⟩ := hof.form
  rw [HFl.out] at hof ⊢
  have HPl := Lib.hid (places_any (.slice pl l.length cl) l l.length (Nat.le_refl _) (by rw [HNO.out]; exact hlen) HOkl.out (fun h => absurd h (Nat.lt_irrefl _)) (fun k hk => okRc_64 (HOkl.out k hk)) w1.drew (HE.out.below (then_ HB0.out b1.drew)) (hrow.later (Below.refl _ w1).drew))
  unfold PlcR at HPl
  rw [HNO.out] at hrow HPl ⊢
  have HRow := Lib.hid hrow
  have HOf := Lib.hid hof
  have HB1 := Lib.hid (then_ HB0.out b1)
  have HK1 := Lib.hid (fun X (h : Below w1.heap.size w1 X) => ((HK0.out.later b1).later h).cell 4 (u := .int .u64 (f : Int)) rfl)
  have k4 := HK1.out _ (Below.refl _ _)
  clear hrow hof b1 HLd k0c k1c k2c
  have HAw := Lib.hid (fun X (h : Below W.heap.size W X) => awake_any X (HE.out.below h))
  go_upto_region 3 with (fail)
  go_cut [6] from 24 to 28 (fun t6 wf => t6 = .int .i64 (at_ : Nat) ∧ Hid (Below w1.heap.size w1 wf))
  case first =>
    go_region_law (first
      | (go_simp; go_at_call 19; refine HPl.out.mono ?_; rintro e wp ⟨pp, cp, rfl, hpo, hpb⟩; have HPo := Lib.hid hpo; have HPb : Hid (Below w1.heap.size w1 wp) := Lib.hid (((Below.refl _ w1).drew).trans hpb); have k5 := HK1.out _ HPb.out; clear hpo hpb; try go_wp2_with fail)
      | (go_simp; go_at_call 18; refine (from_any _ _ _ _ (plcR l no) HPlL.out (by omega) f wp HPo.out).mono ?_; rintro e wf ⟨rfl, hfb⟩; have HFb : Hid (Below w1.heap.size w1 wf) := Lib.hid (then_ HPb.out hfb); clear hfb; rw [HFr.out]; try go_wp2_with fail))
    all_goals
      go_wp2_with fail
      go_meet
      exact ⟨rfl, HFb⟩
  case rest =>
  obtain ⟨rfl, HFb⟩ := hcut
  have HB2 := Lib.hid (then_ HB1.out HFb.out)
  have HR2 := Lib.hid (HRow.out.later HFb.out)
  have HO2 := Lib.hid (HOf.out.below HFb.out)
  have HK2 := Lib.hid (fun X (h : Below wc.heap.size wc X) => HK1.out X (then_ HFb.out h))
  clear HPl HFb HRow HOf k4
  have hat0 : decide ((at_ : Int) < 0) = false := decide_eq_false (by omega)
  have hatn : ¬ ((nb : Int) < (at_ : Int)) := by omega
  go_upto_region 6 with (fail)
  clear hat0 hatn
  have hbf : Bs wc (.slice pf (forms l).length cf) (forms l) := by rw [HFl.out]; exact HO2.out.bs
  obtain ⟨pu, cu, ru, hcu⟩ := slice_from hbf (k := at_) (by rw [HFl.out]; omega) (by rw [HFl.out]; unfold maxTk; omega)
  rw [HFl.out] at ru hcu
  have htl : ((forms l).drop at_).length = nb - at_ := by rw [List.length_drop, HFl.out]
  have HSp := Lib.hid (ssplit_any (.slice pu (nb - at_) cu) ((forms l).drop at_) F hF64 wc (HE.out.below HB2.out).1 (HE.out.below HB2.out).2.1 hcu (by rw [htl]; unfold maxSp; omega))
  obtain ⟨nw, hnw⟩ : ∃ a, nb - at_ = a := ⟨_, rfl⟩
  rw [hnw] at ru HSp
  have hwn : wd = nw := by omega
  have hsub : (nb : Int) - (at_ : Int) = (nw : Int) := by omega
  have hld : (l.drop k0).length = no - k0 := by rw [List.length_drop, HNO.out]
  obtain ⟨ng, hng⟩ : ∃ a, no - k0 = a := ⟨_, rfl⟩
  rw [hng] at hld
  have HLd := Lib.hid hld
  have hsub2 : (no : Int) - (ng : Int) = (k0 : Int) := by omega
  clear hbf hcu htl hnw hld hng hwd
  go_wp2_with fail
  refine HSp.out.mono ?_; intro e w5 h5
  obtain ⟨px, cx, rfl, hrx, b5⟩ := h5.is HSeg.out
  rw [HLd.out] at hrx ⊢
  rw [HWd.out, hwn]
  have HB5 := Lib.hid (then_ HB2.out b5)
  have HR5 := Lib.hid (HR2.out.later b5)
  have HX5 := Lib.hid hrx
  have HK5 := Lib.hid (fun X (h : Below w5.heap.size w5 X) => HK2.out X (then_ b5 h))
  clear h5 hrx b5 HSp HR2 HO2 HK2 ru
  go_upto_block 0 with (fail)
  go_cut [9] from 51 to 66 (fun t9 wq => ∃ k : Nat, k ≤ no ∧ t9 = .int .i64 (k : Nat) ∧ Hid ((∀ i, i < k → (l.getD i default).n < f) ∧ (k < l.length → f ≤ (l.getD k default).n)) ∧ Hid (Below w5.heap.size w5 wq))
  case first =>
    go_wp2_with fail
    go_loopw [9] (fun iv wr => ∃ k : Nat, k ≤ no ∧ iv = .int .i64 (k : Nat) ∧ Hid (∀ i, i < k → (l.getD i default).n < f) ∧ Hid (Below w5.heap.size w5 wr)) (fun iv _ => no - (intOf iv).toNat)
    case atStart => exact ⟨0, Nat.zero_le _, rfl, Lib.hid (fun i hi => by omega), Lib.hid (Below.refl _ _)⟩
    case round =>
      obtain ⟨k, hk, rfl, HA, HBr⟩ := hrel
      by_cases hkn : k < no
      · have hkl : k < l.length := by rw [HNO.out]; exact hkn
        obtain ⟨b, o, vj, hp, hb, c0, c1, hbs⟩ := rowS_at (HR5.out.later HBr.out) hkl
        have hidx := idx_s pl b o no cl k hp hkn
        have k4 := HK5.out _ HBr.out
        obtain ⟨N, hN⟩ : ∃ n, (l.getD k default).n = n := ⟨_, rfl⟩
        rw [hN] at c0
        have HN := Lib.hid hN
        clear hp c1 hbs hN
        by_cases hlt : N < f
        · have e1 : (N : Int) < (f : Int) := by omega
          go_wp2_with fail
          go_quiet (fail)
          have HBq := Lib.hid (bel_drewN HBr.out nq)
          have HA2 : Hid (∀ i, i < k + 1 → (l.getD i default).n < f) := Lib.hid (fun i hi => by
            by_cases h : i = k
            · rw [h, HN.out]; exact hlt
            · exact HA.out i (by omega))
          go_wp2_with fail
          go_roundw
          case rel => exact ⟨k + 1, by omega, by go_num, HA2, HBq⟩
          case measure => simp [intOf]; omega
        · have e1 : ¬ ((N : Int) < (f : Int)) := by omega
          go_wp2_with fail
          go_quiet (fail)
          have HBq := Lib.hid (bel_drewN HBr.out nq)
          go_wp2_with fail
          go_meet
          exact ⟨k, hk, rfl, Lib.hid ⟨HA.out, fun _ => by rw [HN.out]; omega⟩, HBq⟩
      · obtain rfl : k = no := by omega
        go_wp2_with fail
        go_quiet (fail)
        have HBq := Lib.hid (bel_drewN HBr.out nq)
        go_wp2_with fail
        go_meet
        exact ⟨k, Nat.le_refl _, rfl, Lib.hid ⟨HA.out, fun h => by rw [HNO.out] at h; omega⟩, HBq⟩
  case rest =>
    obtain ⟨k, hk, rfl, HA, HBc⟩ := hcut
    obtain ⟨ha1, ha2⟩ := HAh.out k (by rw [HNO.out]; exact hk) HA.out.1 HA.out.2
    have hc1 : ¬ ((k : Int) < (k0 : Int)) := by omega
    have hc2 : (k : Int) - (k0 : Int) ≤ 4 := by omega
    have HBw := Lib.hid (then_ HB5.out HBc.out)
    obtain ⟨pt, ct, rt, hrt⟩ := rowS_from (HR5.out.later HBc.out) (k := k0) (by rw [HNO.out]; exact hs1)
    rw [HNO.out] at rt hrt
    rw [show no - k0 = ng by omega] at rt hrt
    have HSm := Lib.hid (sameS_any _ _ (l.drop k0) (l.drop k0) wc (HX5.out.later HBc.out) hrt (by rw [HLd.out]; omega))
    rw [show decide (l.drop k0 = l.drop k0) = true from decide_eq_true rfl] at HSm
    clear hrt
    go_wp2_with fail
    refine HSm.out.mono ?_; rintro e w6 ⟨rfl, b6⟩
    have HB6 := Lib.hid (then_ HBw.out b6)
    have HAw6 := Lib.hid (HAw.out _ HB6.out)
    clear b6 HSm
    go_wp2_with fail
    refine HAw6.out.mono ?_; rintro e w7 ⟨rfl, b7⟩
    have HB7 := Lib.hid (then_ HB6.out b7)
    clear b7 HAw6
    go_wp2_with fail
    go_ret
    exact ⟨rfl, HB7.out⟩
end Go.Proofs.YtelocbohiddpgaaDoor.Crc
