/- The walk of SegmentBack. -/
import Derived.Test.YtelocbohiddpgaaDoorSgq
import Derived.Test.YtelocbohiddpgaaDoorKL
set_option linter.unusedSimpArgs false
set_option linter.unusedVariables false
namespace Go.Proofs.YtelocbohiddpgaaDoor.Crc
open Go Go.RowKit Gm
attribute [local go_sem ↓] Go.wp_at_zero Go.wp_at_succ

theorem rise_at {F : Nat} {l : List Rc} (h : rises F l) {k : Nat} (hk : k < l.length) : nextN F (l.take k) ≤ (l.getD k default).n ∧ nextN F (l.take (k + 1)) = (l.getD k default).n + 1 := by
  rw [getD_at12 hk]
  have e := List.take_succ_eq_append_getElem hk
  have h2 := rises_take h (k + 1)
  rw [e] at h2 ⊢
  obtain ⟨_, h3⟩ := rises_app.1 h2
  exact ⟨h3.2.1, next_snoc _ _ _⟩
theorem forms_next {l : List Rc} {k : Nat} (hk : k < l.length) : forms (l.take (k + 1)) = forms (l.take k) ++ formR (l.getD k default) := by
  rw [List.take_succ_eq_append_getElem hk, forms_snoc, getD_at12 hk]
theorem formR_size (r : Rc) : (formR r).length = sizeF r := by rw [formR_length]; rfl
theorem forms_take_le (b : List UInt8) (F k : Nat) : wholeS ((segL b F).take k) ≤ b.length := Nat.le_trans (whole_take_le _ _) (seg_le b F)
set_option maxHeartbeats 16000000 in
set_option maxRecDepth 100000 in
theorem law_sback (x f : Nat) (hx : x < 18446744073709551616) (v u r : Value) (steps R : List UInt8) (data : List (List UInt8)) (W : World) (hE : Env12 W) (hS : Bs W v steps) (hsl : steps.length ≤ maxTk) (hR : RowR W u data) (hdl : data.length ≤ maxTk) (hr : Bs W r R) (hRl : R.length ≤ 1048576) :
    Calls Tryd.prog 4 #[segsV x v u r f] W (Gives (.bool true) W) := by
  obtain ⟨i0, ii, iz0, iz1, iz2⟩ := info_parts infoB
  have hF := first_ok x
  obtain ⟨F, hFF⟩ : ∃ F, firstN x = F := ⟨_, rfl⟩
  have hFi : 1 + (x : Int) % 1099511527776 = (F : Int) := by rw [← hFF]; unfold firstN; omega
  rw [hFF] at hF
  have hokF : okN F = true := (okN_iff F).2 (by omega)
  have hris := laid_rises hF.1 hF.2 steps data
  have hlen := laid_len F steps data
  have HLd := Lib.hid (fun X (h : Below W.heap.size W X) => laid_any F hF.1 hF.2 v steps u data X (hE.below h) (hS.below h) hsl (hR.later h) hdl)
  obtain ⟨l, hl⟩ : ∃ l, laidL F steps data = l := ⟨_, rfl⟩
  rw [hl] at hris hlen HLd
  have hsm := whole_small l (rises_ok hris)
  obtain ⟨nb, hnb⟩ : ∃ nb, wholeS l = nb := ⟨_, rfl⟩
  have hfl : (forms l).length = nb := by rw [forms_length]; exact hnb
  rw [hnb] at hsm
  have hall := seg_all hokF hris
  have happ := seg_app hokF hris R
  have hmr := seg_rises (forms l ++ R) F
  have hmt := seg_take (forms l ++ R) F
  have hmle := seg_le (forms l ++ R) F
  have hmc := seg_count (segL (forms l ++ R) F)
  have hlM : (forms l ++ R).length = nb + R.length := by rw [List.length_append, hfl]
  rw [hlM] at hmle
  obtain ⟨M, hM⟩ : ∃ M, forms l ++ R = M := ⟨_, rfl⟩
  rw [hM] at happ hmr hmt hmle hmc hlM
  obtain ⟨S, hS'⟩ : ∃ S, segL M F = S := ⟨_, rfl⟩
  have HSeg := Lib.hid hS'
  rw [hS'] at happ hmr hmt hmle hmc
  obtain ⟨no, hno⟩ : ∃ no, l.length = no := ⟨_, rfl⟩
  have HNO := Lib.hid hno
  have htk : S.take no = l := by rw [happ, ← hno]; exact List.take_left' rfl
  have hSl : no ≤ S.length := by rw [happ, List.length_append, hno]; omega
  have hSw : nb ≤ wholeS S := by rw [happ, wholeS_app, hnb]; omega
  rw [hno] at hlen hsm
  obtain ⟨nS, hnS⟩ : ∃ n, S.length = n := ⟨_, rfl⟩
  obtain ⟨wS, hwS⟩ : ∃ n, wholeS S = n := ⟨_, rfl⟩
  rw [hwS] at hmt hmle hmc hSw
  rw [hnS] at hmc hSl
  obtain ⟨ps, cs, rfl⟩ := hS.form
  obtain ⟨pd, cd, rfl⟩ := hR.form
  have HRB := Lib.hid hr
  obtain ⟨pr, cr, rfl⟩ := hr.form
  have hF64 : F < 18446744073709551616 := by omega
  have HE := Lib.hid hE
  have HOk := Lib.hid hokF
  have HRis := Lib.hid hris
  have HFl := Lib.hid hfl
  have HAll := Lib.hid hall
  have HNb := Lib.hid hnb
  have HMr := Lib.hid hmr
  have HMt := Lib.hid hmt
  have HTk := Lib.hid htk
  have HM := Lib.hid hM
  have HLM := Lib.hid hlM
  have HNS := Lib.hid hnS
  have HWS := Lib.hid hwS
  have hnb6 : nb ≤ 60720 := by omega
  obtain ⟨nr, hnr⟩ : ∃ n, R.length = n := ⟨_, rfl⟩
  have HNR := Lib.hid hnr
  rw [hnr] at hRl hmle HRB HLM ⊢
  generalize steps.length = ns at *
  generalize data.length = nd at *
  have B0 := below_one W (.cells #[.int .u64 (x : Int), .slice ps ns cs, .slice pd nd cd, .slice pr nr cr, .int .u64 (f : Int)] 37)
  have K0 := Blk.new W 37 #[.int .u64 (x : Int), .slice ps ns cs, .slice pd nd cd, .slice pr nr cr, .int .u64 (f : Int)]
  obtain ⟨G, hG⟩ : ∃ G, W.heap.size = G := ⟨_, rfl⟩
  obtain ⟨W0, hW0⟩ : ∃ W0, W.alloc (.cells #[.int .u64 (x : Int), .slice ps ns cs, .slice pd nd cd, .slice pr nr cr, .int .u64 (f : Int)] 37) = W0 := ⟨_, rfl⟩
  rw [hW0] at B0 K0
  rw [hG] at K0
  have k0c := K0.cell 0 rfl
  have k1c := K0.cell 1 rfl
  have k2c := K0.cell 2 rfl
  have HK0 := Lib.hid K0
  have HB0 := Lib.hid B0
  have HW0 := Lib.hid hW0
  have HG := Lib.hid hG
  clear hE hS hR hr hFF hl hno hnb hfl hris hokF B0 K0 hW0 hG hall happ hmr hmt hM hS' htk hlM hnS hwS hnr
  go_enter Tryd.func4, Tryd.ntmps4
  go_upto_region 1 with (fail)
  rw [HW0.out, HG.out]
  go_wp2_with fail
  refine (HLd.out _ HB0.out).mono ?_; rintro e w1 ⟨v1, v2, rfl, hrow, hof, b1⟩
  obtain ⟨pl, cl, rfl, _⟩ := hrow.form
  obtain ⟨pf, cf, rfl⟩ := hof.form
  have HSp := Lib.hid (ssplit_any _ (forms l) F hF64 w1 (HE.out.below (then_ HB0.out b1)).1 (HE.out.below (then_ HB0.out b1)).2.1 hof.bs (by rw [HFl.out]; unfold maxSp; omega))
  rw [HFl.out] at hof HSp ⊢
  rw [HNO.out] at hrow ⊢
  have HRow := Lib.hid hrow
  have HOf := Lib.hid hof
  have HB1 := Lib.hid (then_ HB0.out b1)
  have HK1 := Lib.hid (fun X (h : Below w1.heap.size w1 X) => ((HK0.out.later b1).later h).cell 3 (u := .slice pr nr cr) rfl)
  clear hrow hof b1 HLd k0c k1c k2c
  have HAw := Lib.hid (fun X (h : Below W.heap.size W X) => awake_any X (HE.out.below h))
  go_wp2_with fail
  refine HSp.out.mono ?_; intro e w2 h2
  obtain ⟨px, cx, rfl, hrx, b2⟩ := h2.is HAll.out
  rw [HNO.out] at hrx ⊢
  rw [HNb.out]
  have HB2 := Lib.hid (then_ HB1.out b2)
  have HR2 := Lib.hid (HRow.out.later b2)
  have HO2 := Lib.hid (HOf.out.below b2)
  have HK2 := Lib.hid (fun X (h : Below w2.heap.size w2 X) => HK1.out X (then_ b2 h))
  have HSm := Lib.hid (sameS_any _ _ l l w2 hrx (HRow.out.later b2) (by rw [HNO.out]; omega))
  rw [show decide (l = l) = true from decide_eq_true rfl] at HSm
  clear h2 hrx b2 HSp HRow HOf HK1
  go_wp2_with fail
  refine HSm.out.mono ?_; rintro e w3 ⟨rfl, b3⟩
  have HB3 := Lib.hid (then_ HB2.out b3)
  have HR3 := Lib.hid (HR2.out.later b3)
  have HO3 := Lib.hid (HO2.out.below b3)
  have k3 := HK2.out _ b3
  have HK3 := Lib.hid (fun X (h : Below w3.heap.size w3 X) => HK2.out X (then_ b3 h))
  clear b3 HSm HR2 HO2 HK2
  have HN7 := Lib.hid (ownB_lit w3 [] #[] 0 rfl rfl (by decide))
  have HB7 := Lib.hid ((below_one w3 (.cells #[] 5)).drew)
  have HN7d := Lib.hid (own_later11 HN7.out (Below.refl _ (w3.alloc (.cells #[] 5))).drew)
  have HSl := Lib.hid (fun X (h : Below w3.heap.size w3 X) => by have := (HO3.out.bs.below h).src; rw [HFl.out] at this; exact this)
  have HSr := Lib.hid (fun X (h : Below w3.heap.size w3 X) => by have := (HRB.out.below (then_ HB3.out h)).src; rw [HNR.out] at this; exact this)
  have k3d := HK3.out _ HB7.out
  go_upto_region 6 with (fail)
  go_cut [8] from 46 to 51 (fun t8 wq => ∃ pM cM, t8 = .slice pM (nb + nr) cM ∧ Hid (wq.ownsRow w3.heap.size 5 1 (.slice pM (nb + nr) cM) (nb + nr) (cellsB M)) ∧ Hid (Below w3.heap.size w3 wq))
  case first =>
    go_region_law (first
      | (refine step_append_src rfl _ _ 34 (by rfl) w3.heap.size 5 i0 (.int .u8 0) 1 1 Tryd.underlying34 ii iz0 iz1 iz2 rfl (by decide) _ _ _ (by rfl) HN7d.out _ nb (cellsB (forms l)) (by rfl) (HSl.out _ HB7.out) nb (by simp) (by unfold maxLen; omega) (by omega) (HB7.out.size) ?_; intro pA cA wA hownA hgrowA; have HOA := Lib.hid hownA; have HBA : Hid (Below w3.heap.size w3 wA) := Lib.hid (HB7.out.grown hgrowA HB7.out.size (fun j hj => (World.ownsRow.lt HN7d.out j hj).1)); have kA := HK3.out _ HBA.out; clear hownA hgrowA)
      | (refine step_append_src rfl _ _ 34 (by rfl) w3.heap.size 5 i0 (.int .u8 0) 1 1 Tryd.underlying34 ii iz0 iz1 iz2 rfl (by decide) _ _ _ (by rfl) HOA.out _ nr (cellsB R) (by rfl) (HSr.out _ HBA.out) (nb + nr) (by rfl) (by unfold maxLen; omega) (by omega) (HBA.out.size) ?_; intro pB cB wB hownB hgrowB; have HOB := Lib.hid hownB; have HBB : Hid (Below w3.heap.size w3 wB) := Lib.hid (HBA.out.grown hgrowB HBA.out.size (fun j hj => (World.ownsRow.lt HOA.out j hj).1)); clear hownB hgrowB))
    all_goals
      go_wp2_with fail
      go_meet
      exact ⟨pB, cB, rfl, Lib.hid (by rw [← HM.out, cellsB_append]; exact HOB.out), HBB⟩
  case rest =>
  obtain ⟨pM, cM, rfl, HOw, HBw⟩ := hcut
  obtain ⟨nm, hnm⟩ : ∃ n, nb + nr = n := ⟨_, rfl⟩
  have HB4 := Lib.hid (then_ HB3.out HBw.out)
  have HR4 := Lib.hid (HR3.out.later HBw.out)
  have hwm : wS ≤ nm := by omega
  have hnm2 : nm ≤ 1109296 := by omega
  rw [hnm] at HOw HLM ⊢
  have HOM : Hid (Bs wc (.slice pM nm cM) M) := Lib.hid (by
    have h : OwnB wc w3.heap.size (.slice pM nm cM) M := by unfold OwnB; rw [HLM.out]; exact HOw.out
    exact h.bs)
  have HSp := Lib.hid (ssplit_any _ M F hF64 wc (HE.out.below HB4.out).1 (HE.out.below HB4.out).2.1 HOM.out (by rw [HLM.out]; unfold maxSp; omega))
  clear hnm HOw HBw HN7 HB7 HN7d HSl HSr k3d k3 HK3 HR3 HO3 HRB
  go_wp2_with fail
  refine HSp.out.mono ?_; intro e w5 h5
  obtain ⟨py, cy, rfl, hry, b5⟩ := h5.is HSeg.out
  rw [HNS.out] at hry ⊢
  rw [HWS.out]
  have HB5 := Lib.hid (then_ HB4.out b5)
  have HR5 := Lib.hid (HR4.out.later b5)
  have HM5 := Lib.hid (HOM.out.below b5)
  have HY5 := Lib.hid hry
  obtain ⟨pt, ctt, rt, hrt⟩ := rowS_upto HY5.out (k := no) (by rw [HNS.out]; exact hSl)
  rw [HTk.out] at hrt
  have HSm := Lib.hid (sameS_any _ _ l l w5 hrt HR5.out (by rw [HNO.out]; omega))
  rw [show decide (l = l) = true from decide_eq_true rfl] at HSm
  have g1 : ¬ (nS < no) := by omega
  have g1i : decide ((nS : Int) < (no : Int)) = false := decide_eq_false (by omega)
  clear h5 hry b5 HSp HR4 HOM hrt
  go_wp2_with fail
  refine HSm.out.mono ?_; rintro e w6 ⟨rfl, b6⟩
  have HB6 := Lib.hid (then_ HB5.out b6)
  have HY6 := Lib.hid (HY5.out.later b6)
  have HM6 := Lib.hid (HM5.out.below b6)
  have g2 : ¬ (wS < nb) := by omega
  have g2i : decide ((wS : Int) < (nb : Int)) = false := decide_eq_false (by omega)
  have g3 : ¬ (nm < wS) := by omega
  have g3i : decide ((nm : Int) < (wS : Int)) = false := decide_eq_false (by omega)
  obtain ⟨F1, hF1⟩ : ∃ F1, F = F1 + 1 := ⟨F - 1, by omega⟩
  have hFs : (F : Int) - 1 = (F1 : Int) := by omega
  have HF1 := Lib.hid hF1
  have hF1b : F1 < 18446744073709551616 := by omega
  have hw1 : IntKind.u64.wrap (F1 : Int) = (F1 : Int) := by rw [IntKind.wrap_u64]; omega
  clear b6 HSm HY5 HM5 HR5 hF1 rt g1 g1i
  have hnS6 : nS ≤ 1109296 := by omega
  go_wp2_with fail
  go_loopw [11, 12, 88] (fun av lv iv wr => ∃ (k na L : Nat) (pa : Option Addr) (ca : Nat), k ≤ nS ∧ na ≤ wS ∧ av = .slice pa na ca ∧ lv = .int .u64 (L : Nat) ∧ iv = .int .i64 (k : Nat) ∧ Hid (wholeS (S.take k) = na ∧ nextN F (S.take k) = L + 1) ∧ Hid (wr.ownsRow w6.heap.size 5 1 (.slice pa na ca) na (cellsB (forms (S.take k)))) ∧ Hid (Below w6.heap.size w6 wr)) (fun _ _ iv _ => nS - (intOf iv).toNat)
  case atStart => exact ⟨0, 0, F1, none, 0, Nat.zero_le _, Nat.zero_le _, rfl, rfl, rfl, Lib.hid ⟨rfl, HF1.out⟩, Lib.hid (World.ownsRow_nil _ _ _ _), Lib.hid (Below.refl _ _)⟩
  case round =>
    obtain ⟨k, na, L, pa, ca, hk, hna, rfl, rfl, rfl, HNa, HO, HBr⟩ := hrel
    by_cases hkn : k < nS
    · have hkl : k < S.length := by rw [HNS.out]; exact hkn
      obtain ⟨b, o, vj, hp, hb, c0, c1, hbs⟩ := rowS_at (HY6.out.later HBr.out) hkl
      have hidx := idx_s py b o nS cy k hp hkn
      clear hp
      obtain ⟨pv, cv, rfl⟩ := hbs.form
      have hok := put_at HMr.out hkl
      have hnx : wholeS (S.take (k + 1)) = na + sizeF (S.getD k default) := by rw [whole_next12 hkl, HNa.out.1, getD_at12 hkl]
      have htk := forms_next hkl
      have hri := rise_at HMr.out hkl
      have hle : wholeS (S.take (k + 1)) ≤ wS := by rw [← HWS.out]; exact whole_take_le _ _
      obtain ⟨rc, hrc⟩ : ∃ rc, S.getD k default = rc := ⟨_, rfl⟩
      rw [hrc] at c0 c1 hbs hok hnx htk hri
      obtain ⟨nv, hnv⟩ : ∃ n, rc.d.length = n := ⟨_, rfl⟩
      have HBs := Lib.hid hbs
      rw [hnv] at HBs c1
      obtain ⟨N, hN⟩ : ∃ n, rc.n = n := ⟨_, rfl⟩
      rw [hN] at c0 hri
      rw [HNa.out.2] at hri
      obtain ⟨s1, hs1⟩ : ∃ n, sizeF rc = n := ⟨_, rfl⟩
      rw [hs1] at hnx
      rw [hnx] at hle
      have hs1b : s1 ≤ 1518 := by have := body_len hok; rw [← hs1]; unfold sizeF; omega
      have HNx := Lib.hid hnx
      have HTk2 := Lib.hid htk
      have HNxt := Lib.hid hri.2
      have hLN := hri.1
      have HFs : Hid ((formR rc).length = s1) := Lib.hid (by rw [formR_size, hs1])
      have HOkr := Lib.hid hok
      have B7 := below_one wr (.cells #[.int .u64 (N : Int), .slice pv nv cv] 45)
      have K7 := Blk.new wr 45 #[.int .u64 (N : Int), .slice pv nv cv]
      obtain ⟨z, hz⟩ : ∃ z, wr.heap.size = z := ⟨_, rfl⟩
      obtain ⟨W7, hW7⟩ : ∃ W7, wr.alloc (.cells #[.int .u64 (N : Int), .slice pv nv cv] 45) = W7 := ⟨_, rfl⟩
      rw [hW7] at B7 K7
      rw [hz] at K7
      have q0 := K7.cell 0 rfl
      have q1 := K7.cell 1 rfl
      have HW7 := Lib.hid hW7
      have HZ := Lib.hid hz
      have HK7 := Lib.hid K7
      have HB7 := Lib.hid (then_ HBr.out B7)
      have HO7 := Lib.hid (own_later11 HO.out B7)
      have hput := sput_any rc (okRc_64 hok) (.slice pv nv cv) W7 (HE.out.below (then_ HB6.out HB7.out)).1 (HE.out.below (then_ HB6.out HB7.out)).2.1 (HBs.out.below B7)
      rw [hN] at hput
      have HPut := Lib.hid hput
      have HS1 := Lib.hid hs1
      clear hrc hnv hN hs1 hnx hok B7 K7 hW7 hz hbs hput htk hri HBs HO
      go_upto_region 15 with (fail)
      rw [HW7.out, HZ.out]
      go_wp2_with fail
      refine HPut.out.mono ?_; intro e w8 h8
      obtain ⟨p8, c8, rfl, ho8, b8⟩ := h8.good HOkr.out
      rw [HS1.out] at ho8 ⊢
      have HB8 := Lib.hid (then_ HB7.out b8)
      have HK8 := Lib.hid (fun X (h : Below w8.heap.size w8 X) => ((HK7.out.later b8).later h).cell 0 (u := .int .u64 (N : Int)) rfl)
      have r0 := HK8.out _ (Below.refl _ _)
      have r1 := HK8.out _ (Below.refl _ w8).drew
      have HSc := Lib.hid (fun X (h : Below w8.heap.size w8 X) => by have := (ho8.bs.below h).src; rw [HFs.out] at this; exact this)
      have HOd := Lib.hid (own_later11 (own_later11 HO7.out b8) (Below.refl _ w8).drew)
      have HBd : Hid (Below w6.heap.size w6 w8.drew) := Lib.hid (HB8.out.drew)
      have HKd := Lib.hid (HK7.out.later b8.drew)
      have HKne := Lib.hid (HKd.out.apart HOd.out (by decide))
      have n1 : ¬ (N ≤ L) := by omega
      have n1i : decide ((N : Int) ≤ (L : Int)) = false := decide_eq_false (by omega)
      clear h8 ho8 b8 HPut q0 q1 HO7
      go_wp2_with fail
      go_region_law (first | (refine step_append_src rfl _ _ 34 (by rfl) w6.heap.size 5 i0 (.int .u8 0) 1 1 Tryd.underlying34 ii iz0 iz1 iz2 rfl (by decide) _ _ _ (by rfl) HOd.out _ s1 (cellsB (formR rc)) (by rfl) (HSc.out _ (Below.refl _ w8).drew) (na + s1) (by rfl) (by unfold maxLen; omega) (by omega) (HBd.out.size) ?_; intro pA cA wA hownA hgrowA; have HOA := Lib.hid hownA; have HBA : Hid (Below w6.heap.size w6 wA) := Lib.hid (HBd.out.grown hgrowA HBd.out.size (fun j hj => (World.ownsRow.lt HOd.out j hj).1)); have rA := (HKd.out.grown hgrowA HKne.out).cell 0 (u := .int .u64 (N : Int)) rfl; clear hownA hgrowA))
      all_goals
        go_wp2_with fail
        go_roundw
        case rel => exact ⟨k + 1, na + s1, N, pA, cA, by omega, hle, rfl, rfl, by go_num, Lib.hid ⟨HNx.out, HNxt.out⟩, Lib.hid (by rw [HTk2.out, cellsB_append]; exact HOA.out), HBA⟩
        case measure => simp [intOf]; omega
    · obtain rfl : k = nS := by omega
      have ht : S.take k = S := List.take_of_length_le (by rw [HNS.out]; exact Nat.le_refl _)
      have hna2 : na = wS := by have := HNa.out.1; rw [ht, HWS.out] at this; omega
      have ho := HO.out
      rw [ht] at ho
      subst hna2
      have hlen : (forms S).length = na := by rw [forms_length, HWS.out]
      have hbA : Bs wr (.slice pa na ca) (forms S) := by
        have h : OwnB wr w6.heap.size (.slice pa na ca) (forms S) := by unfold OwnB; rw [hlen]; exact ho
        exact h.bs
      have hMr := HM6.out.below HBr.out
      have hMl : Bs wr (.slice pM M.length cM) M := by rw [HLM.out]; exact hMr
      obtain ⟨pu, cu, ru, hu⟩ := slice_upto hMl (k := na) (by rw [HLM.out]; exact hwm)
      rw [HLM.out] at ru
      rw [HMt.out] at hu
      have HBf := Lib.hid (then_ HB6.out HBr.out)
      have HAf := Lib.hid (HAw.out _ HBf.out)
      have HEq := Lib.hid (fun X (h : Below wr.heap.size wr X) => equal_any (.slice pa na ca) (.slice pu na cu) (forms S) (forms S) X (hbA.below h) (hu.below h))
      rw [show (forms S == forms S) = true from beq_self_eq_true _] at HEq
      clear ht ho hlen hbA hMr hMl hu HO HBr HNa
      go_wp2_with fail
      refine HAf.out.mono ?_; rintro e w7 ⟨rfl, b7⟩
      have HB7 := Lib.hid (then_ HBf.out b7)
      have HEq7 := Lib.hid (HEq.out _ b7)
      clear b7 HEq HAf
      go_wp2_with fail
      refine HEq7.out.mono ?_; rintro e w8 ⟨rfl, rfl⟩
      go_wp2_with fail
      go_ret
      exact ⟨rfl, HB7.out⟩
end Go.Proofs.YtelocbohiddpgaaDoor.Crc
