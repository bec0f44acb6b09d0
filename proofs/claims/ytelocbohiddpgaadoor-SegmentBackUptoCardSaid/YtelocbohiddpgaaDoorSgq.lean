/- The walk of SegmentTorn. -/
import Derived.Test.YtelocbohiddpgaaDoorSgp
set_option linter.unusedSimpArgs false
set_option linter.unusedVariables false
namespace Go.Proofs.YtelocbohiddpgaaDoor.Crc
open Go Go.RowKit Gm
attribute [local go_sem ↓] Go.wp_at_zero Go.wp_at_succ

abbrev segsV (x : Nat) (v u r : Value) (f : Nat) : Value := .agg #[.int .u64 (x : Int), v, u, r, .int .u64 (f : Int)]
/-- The first number that the statements take. -/
def firstN (x : Nat) : Nat := 1 + x % 1099511527776
theorem first_ok (x : Nat) : 1 ≤ firstN x ∧ firstN x ≤ 1099511527776 := by unfold firstN; omega
set_option maxHeartbeats 16000000 in
set_option maxRecDepth 100000 in
theorem law_storn (x f : Nat) (hx : x < 18446744073709551616) (v u r : Value) (steps R : List UInt8) (data : List (List UInt8)) (ct : Nat) (hct : ct < 65536) (d : UInt8) (W : World) (hE : Env12 W) (hS : Bs W v steps) (hsl : steps.length ≤ maxTk) (hR : RowR W u data) (hdl : data.length ≤ maxTk) (hr : Bs W r R) :
    Calls Tryd.prog 5 #[segsV x v u r f, .int .u16 (ct : Int), .int .u8 (d.toNat : Int)] W (Gives (.bool true) W) := by
  obtain ⟨i0, ii, iz0, iz1, iz2⟩ := info_parts infoB
  have hF := first_ok x
  obtain ⟨F, hFF⟩ : ∃ F, firstN x = F := ⟨_, rfl⟩
  have hFi : 1 + (x : Int) % 1099511527776 = (F : Int) := by rw [← hFF]; unfold firstN; omega
  rw [hFF] at hF
  have hokF : okN F = true := (okN_iff F).2 (by omega)
  have hris := laid_rises hF.1 hF.2 steps data
  have hlen := laid_len F steps data
  have HLd := Lib.hid (fun X (h : Below W.heap.size W X) => laid_any F hF.1 hF.2 v steps u data X (hE.below h) (hS.below h) hsl (hR.later h) hdl)
  obtain ⟨l, hl⟩ : ∃ l, laidL F steps data = l := ⟨_, rfl⟩
  rw [hl] at hris hlen HLd
  have hsm := whole_small l (rises_ok hris)
  obtain ⟨nb, hnb⟩ : ∃ nb, wholeS l = nb := ⟨_, rfl⟩
  have hfl : (forms l).length = nb := by rw [forms_length]; exact hnb
  rw [hnb] at hsm
  obtain ⟨no, hno⟩ : ∃ no, l.length = no := ⟨_, rfl⟩
  have HNO := Lib.hid hno
  rw [hno] at hlen hsm
  obtain ⟨ps, cs, rfl⟩ := hS.form
  obtain ⟨pd, cd, rfl⟩ := hR.form
  obtain ⟨pr, cr, rfl⟩ := hr.form
  have hF64 : F < 18446744073709551616 := by omega
  have HE := Lib.hid hE
  have HOk := Lib.hid hokF
  have HRis := Lib.hid hris
  have HNb := Lib.hid hnb
  have HFl := Lib.hid hfl
  have hd256 := d.toNat_lt
  have hnb6 : nb ≤ 60720 := by omega
  generalize steps.length = ns at *
  generalize data.length = nd at *
  generalize R.length = nr at *
  have B0 := below_one W (.cells #[.int .u64 (x : Int), .slice ps ns cs, .slice pd nd cd, .slice pr nr cr, .int .u64 (f : Int)] 37)
  have K0 := Blk.new W 37 #[.int .u64 (x : Int), .slice ps ns cs, .slice pd nd cd, .slice pr nr cr, .int .u64 (f : Int)]
  obtain ⟨G, hG⟩ : ∃ G, W.heap.size = G := ⟨_, rfl⟩
  obtain ⟨W0, hW0⟩ : ∃ W0, W.alloc (.cells #[.int .u64 (x : Int), .slice ps ns cs, .slice pd nd cd, .slice pr nr cr, .int .u64 (f : Int)] 37) = W0 := ⟨_, rfl⟩
  rw [hW0] at B0 K0
  rw [hG] at K0
  have k0 := K0.cell 0 rfl
  have k1 := K0.cell 1 rfl
  have k2 := K0.cell 2 rfl
  have HB0 := Lib.hid B0
  have HW0 := Lib.hid hW0
  have HG := Lib.hid hG
  clear hE hS hR hr hFF hl hno hnb hfl hris hokF B0 K0 hW0 hG
  go_enter Tryd.func5, Tryd.ntmps5
  go_upto_region 1 with (fail)
  rw [HW0.out, HG.out]
  go_wp2_with fail
  refine (HLd.out _ HB0.out).mono ?_; rintro e w1 ⟨v1, v2, rfl, hrow, hof, b1⟩
  obtain ⟨pl, cl, rfl, _⟩ := hrow.form
  obtain ⟨pf, cf, rfl⟩ := hof.form
  rw [HFl.out] at hof ⊢
  rw [HNO.out] at hrow ⊢
  have HRow := Lib.hid hrow
  have HOf := Lib.hid hof
  have HB1 := Lib.hid (then_ HB0.out b1)
  clear hrow hof b1 HLd k0 k1 k2
  have HAw := Lib.hid (fun X (h : Below W.heap.size W X) => awake_any X (HE.out.below h))
  by_cases h0 : nb = 0
  · subst h0
    go_wp2_with fail
    refine (HAw.out _ HB1.out).mono ?_; rintro e w2 ⟨rfl, b2⟩
    have HB2 := Lib.hid (then_ HB1.out b2)
    clear b2 HAw
    go_wp2_with fail
    go_ret
    exact ⟨rfl, HB2.out⟩
  have h0b : ((nb : Int) == 0) = false := by rw [beq_eq_false_iff_ne]; omega
  have h0c : ¬ ((nb : Int) = 0) := by omega
  obtain ⟨q, hq⟩ : ∃ q, ct % (nb + 1) = q := ⟨_, rfl⟩
  have hqn : q ≤ nb := by rw [← hq]; have := Nat.mod_lt ct (show 0 < nb + 1 by omega); omega
  have hcast : ((nb : Int) + 1) = ((nb + 1 : Nat) : Int) := by omega
  have hq1 : Int.tmod (ct : Int) ((nb : Int) + 1) = (q : Int) := by rw [hcast, ← hq]; rfl
  have hq2 : (ct : Int) % ((nb : Int) + 1) = (q : Int) := by rw [hcast, ← hq]; rfl
  have hne1 : ¬ ((nb : Int) + 1 = 0) := by omega
  have hne2 : ((nb : Int) + 1 == 0) = false := by rw [beq_eq_false_iff_ne]; omega
  clear hq hcast
  go_upto_block 0 with (fail)
  go_cut [11, 12, 14, 15, 16] from 45 to 68 (fun t11 t12 t14 t15 t16 wq => ∃ k sz : Nat, k ≤ no ∧ sz ≤ q ∧ t11 = .int .i64 (k : Nat) ∧ t12 = .int .i64 (sz : Nat) ∧ Hid (wholeS (l.take k) = sz ∧ (k < l.length → q < wholeS (l.take (k + 1)))) ∧ Hid (Below w1.heap.size w1 wq))
  case first =>
    go_wp2_with fail
    go_loopw [11, 12, 47] (fun wv sv iv wr => ∃ k sz : Nat, k ≤ no ∧ sz ≤ q ∧ wv = .int .i64 (k : Nat) ∧ iv = .int .i64 (k : Nat) ∧ sv = .int .i64 (sz : Nat) ∧ Hid (wholeS (l.take k) = sz) ∧ Hid (Below w1.heap.size w1 wr)) (fun _ _ iv _ => no - (intOf iv).toNat)
    case atStart => exact ⟨0, 0, Nat.zero_le _, Nat.zero_le _, rfl, rfl, rfl, Lib.hid rfl, Lib.hid (Below.refl _ _)⟩
    case round =>
      obtain ⟨k, sz, hk, hsz, rfl, rfl, rfl, HSz, HBr⟩ := hrel
      by_cases hkn : k < no
      · have hkl : k < l.length := by rw [HNO.out]; exact hkn
        obtain ⟨b, o, vj, hp, hb, c0, c1, hbs⟩ := rowS_at (HRow.out.later HBr.out) hkl
        have hidx := idx_s pl b o no cl k hp hkn
        clear hp
        obtain ⟨pv, cv, rfl⟩ := hbs.form
        have hok := put_at HRis.out hkl
        have hnx : wholeS (l.take (k + 1)) = sz + sizeF (l.getD k default) := by rw [whole_next12 hkl, HSz.out, getD_at12 hkl]
        obtain ⟨rc, hrc⟩ : ∃ rc, l.getD k default = rc := ⟨_, rfl⟩
        rw [hrc] at c0 c1 hbs hok hnx
        obtain ⟨nv, hnv⟩ : ∃ n, rc.d.length = n := ⟨_, rfl⟩
        have HBs := Lib.hid hbs
        rw [hnv] at HBs c1
        obtain ⟨N, hN⟩ : ∃ n, rc.n = n := ⟨_, rfl⟩
        rw [hN] at c0
        obtain ⟨s1, hs1⟩ : ∃ n, sizeF rc = n := ⟨_, rfl⟩
        rw [hs1] at hnx
        have hs1b : s1 ≤ 1518 := by have := body_len hok; rw [← hs1]; unfold sizeF; omega
        have HNx := Lib.hid hnx
        have HOkr := Lib.hid hok
        have B5 := below_one wr (.cells #[.int .u64 (N : Int), .slice pv nv cv] 45)
        have K5 := Blk.new wr 45 #[.int .u64 (N : Int), .slice pv nv cv]
        obtain ⟨z, hz⟩ : ∃ z, wr.heap.size = z := ⟨_, rfl⟩
        obtain ⟨W5, hW5⟩ : ∃ W5, wr.alloc (.cells #[.int .u64 (N : Int), .slice pv nv cv] 45) = W5 := ⟨_, rfl⟩
        rw [hW5] at B5 K5
        rw [hz] at K5
        have q0 := K5.cell 0 rfl
        have q1 := K5.cell 1 rfl
        have HW5 := Lib.hid hW5
        have HZ := Lib.hid hz
        have HB5 := Lib.hid (then_ HBr.out B5)
        have hput := sput_any rc (okRc_64 hok) (.slice pv nv cv) W5 (HE.out.below (then_ HB1.out HB5.out)).1 (HE.out.below (then_ HB1.out HB5.out)).2.1 (HBs.out.below B5)
        rw [hN] at hput
        have HPut := Lib.hid hput
        have HS1 := Lib.hid hs1
        clear hrc hnv hN hs1 hnx hok B5 K5 hW5 hz hbs hput
        go_upto_region 10 with (fail)
        rw [HW5.out, HZ.out]
        go_wp2_with fail
        refine HPut.out.mono ?_; intro e w6 h6
        obtain ⟨p6, c6, rfl, -, b6⟩ := h6.good HOkr.out
        rw [HS1.out]
        have HB6 := Lib.hid (then_ HB5.out b6)
        clear h6 b6 HPut q0 q1
        by_cases hgt : q < sz + s1
        · have hgi : (q : Int) < (sz : Int) + (s1 : Int) := by omega
          go_wp2_with fail
          go_meet
          exact ⟨k, sz, hk, hsz, rfl, rfl, Lib.hid ⟨HSz.out, fun _ => by rw [HNx.out]; exact hgt⟩, HB6⟩
        · have hgi : ¬ ((q : Int) < (sz : Int) + (s1 : Int)) := by omega
          go_wp2_with fail
          go_roundw
          case rel => exact ⟨k + 1, sz + s1, by omega, by omega, by go_num, by go_num, by go_num, HNx, HB6⟩
          case measure => simp [intOf]; omega
      · obtain rfl : k = no := by omega
        go_wp2_with fail
        go_meet
        exact ⟨k, sz, Nat.le_refl _, hsz, rfl, rfl, Lib.hid ⟨HSz.out, fun h => by rw [HNO.out] at h; omega⟩, HBr⟩
  case rest =>
    obtain ⟨k, sz, hk, hsz, rfl, rfl, HK, HBc⟩ := hcut
    have hkl : k ≤ l.length := by rw [HNO.out]; exact hk
    have HRc := Lib.hid (HRow.out.later HBc.out)
    have HOc := Lib.hid (HOf.out.below HBc.out)
    have HBw := Lib.hid (then_ HB1.out HBc.out)
    have hbf : Bs wc (.slice pf (forms l).length cf) (forms l) := by rw [HFl.out]; exact HOc.out.bs
    obtain ⟨pu, cu, ru, hcu⟩ := slice_upto hbf (k := q) (by rw [HFl.out]; exact hqn)
    rw [HFl.out] at ru
    have hseg := seg_at HOk.out HRis.out hkl (by rw [HK.out.1]; exact hsz) HK.out.2 (by rw [HNb.out]; exact hqn)
    have htl : ((forms l).take q).length = q := by rw [List.length_take, HFl.out]; omega
    have HSp := Lib.hid (ssplit_any (.slice pu q cu) ((forms l).take q) F hF64 wc (HE.out.below HBw.out).1 (HE.out.below HBw.out).2.1 (hcu) (by rw [htl]; unfold maxSp; omega))
    have HSeg := Lib.hid hseg
    have HCu := Lib.hid hcu
    obtain ⟨pt, ctt, rt, hrt⟩ := rowS_upto HRc.out hkl
    have HRt := Lib.hid hrt
    have HTl := Lib.hid htl
    have HKl := Lib.hid hkl
    have hlt : (l.take k).length = k := by rw [List.length_take]; omega
    have HLt := Lib.hid hlt
    clear hbf hseg htl hcu hrt hkl hlt
    go_wp2_with fail
    refine HSp.out.mono ?_; intro e w5 h5
    obtain ⟨px, cx, rfl, hrx, b5⟩ := h5.is HSeg.out
    rw [HLt.out] at hrx ⊢
    rw [HK.out.1]
    have HB5 := Lib.hid (then_ HBw.out b5)
    have HR5 := Lib.hid (HRc.out.later b5)
    have HO5 := Lib.hid (HOc.out.below b5)
    have HCu5 := Lib.hid (HCu.out.below b5)
    have HSm := Lib.hid (sameS_any (.slice px k cx) (.slice pt k ctt) (l.take k) (l.take k) w5 hrx (HRt.out.later b5) (by rw [HLt.out]; omega))
    rw [show decide (l.take k = l.take k) = true from decide_eq_true rfl] at HSm
    clear h5 hrx b5 HSp HRt HRc HOc HCu
    go_wp2_with fail
    refine HSm.out.mono ?_; rintro e w6 ⟨rfl, b6⟩
    have HB6 := Lib.hid (then_ HB5.out b6)
    have HR6 := Lib.hid (HR5.out.later b6)
    have HO6 := Lib.hid (HO5.out.below b6)
    have HCu6 := Lib.hid (HCu5.out.below b6)
    clear b6 HSm HR5 HO5 HCu5
    have HAw6 := Lib.hid (HAw.out _ HB6.out)
    by_cases hq0 : q = 0
    · subst hq0
      go_wp2_with fail
      refine HAw6.out.mono ?_; rintro e w7 ⟨rfl, b7⟩
      have HB7 := Lib.hid (then_ HB6.out b7)
      clear b7 HAw6
      go_wp2_with fail
      go_ret
      exact ⟨rfl, HB7.out⟩
    have hq0b : ((q : Int) == 0) = false := by rw [beq_eq_false_iff_ne]; omega
    have hq0c : ¬ ((q : Int) = 0) := by omega
    by_cases hd0 : d.toNat = 0
    · have hd1 : ((d.toNat : Int) == 0) = true := by rw [beq_iff_eq]; omega
      have hd2 : (d.toNat : Int) = 0 := by omega
      go_wp2_with fail
      refine HAw6.out.mono ?_; rintro e w7 ⟨rfl, b7⟩
      have HB7 := Lib.hid (then_ HB6.out b7)
      clear b7 HAw6
      go_wp2_with fail
      go_ret
      exact ⟨rfl, HB7.out⟩
    have hd1 : ((d.toNat : Int) == 0) = false := by rw [beq_eq_false_iff_ne]; omega
    have hd2 : ¬ ((d.toNat : Int) = 0) := by omega
    have hdn : d ≠ 0 := fun h => hd0 (by rw [h]; rfl)
    clear HAw6 hd0
    obtain ⟨j, hj⟩ : ∃ j, q = j + 1 := ⟨q - 1, by omega⟩
    have hji : (q : Int) - 1 = (j : Int) := by omega
    have hjq : j < q := by omega
    have HJ := Lib.hid hj
    clear hj
    -- the bytes that are turned
    have HN7 := Lib.hid (ownB_lit w6 [] #[] 0 rfl rfl (by decide))
    have HB7 := Lib.hid (below_one w6 (.cells #[] 5))
    have HS7 := Lib.hid (by have := (HCu6.out.below HB7.out).src; rw [HTl.out] at this; exact this)
    have HBB := Lib.hid (then_ HB6.out HB7.out)
    obtain ⟨c0, hc0⟩ : ∃ c0, ((forms l).take q).getD j 0 = c0 := ⟨_, rfl⟩
    have HC0 := Lib.hid hc0
    have hxor := xor_u8_12 c0 d
    obtain ⟨c1, hc1⟩ : ∃ c1, c0 ^^^ d = c1 := ⟨_, rfl⟩
    rw [hc1] at hxor
    have HC1 := Lib.hid hc1
    clear hc0 hc1
    go_upto_if 110 with (at_builtin; refine wpList_append_src rfl _ _ 34 (by rfl) w6.heap.size 5 i0 (.int .u8 0) 1 1 Tryd.underlying34 ii iz0 iz1 iz2 rfl (by decide) _ _ _ (by rfl) HN7.out _ q (cellsB ((forms l).take q)) (by rfl) HS7.out q (by simp) (by unfold maxLen; omega) (by omega) HB7.out.size ?_; intro pT cT w8 hownT hgrowT; have HOT := Lib.hid hownT; have HBT := Lib.hid (HB7.out.grown hgrowT HB7.out.size (fun j hj => (World.ownsRow.lt HN7.out j hj).1)); clear hownT hgrowT; obtain ⟨gT, rfl, hgb, hgl, tc, tf, ho⟩ := torn_row12 HOT.out HTl.out hjq; rw [HC0.out] at tc; have hidT := idx_b (some ⟨gT, 0, none⟩) gT 0 q cT j rfl hjq; rw [Nat.zero_add] at hidT)
    have hset := own_turn12 HTl.out ho j c1
    have HOs := Lib.hid hset
    have HBs := Lib.hid (set_below12 (i := j) HBT.out hgb (byteV c1))
    have HBs2 := Lib.hid (then_ HB6.out HBs.out)
    have htorn := seg_torn_at HOk.out HRis.out HKl.out (by rw [HK.out.1]; exact hsz) HK.out.2 (by rw [HNb.out]; exact hqn) (by omega) (c := c1) (by
      rw [show q - 1 = j by omega]
      have e : (forms l).getD j 0 = c0 := by
        rw [← HC0.out, List.getD_eq_getElem?_getD, List.getD_eq_getElem?_getD, List.getElem?_take, if_pos hjq]
      rw [e, ← HC1.out]
      exact xor_ne12 hdn)
    rw [show q - 1 = j by omega, HK.out.1] at htorn
    have HTorn := Lib.hid htorn
    obtain ⟨K, hKK⟩ : ∃ K, tornK q sz k = K := ⟨_, rfl⟩
    have HKK := Lib.hid hKK
    rw [hKK] at HTorn
    obtain ⟨W9, hW9⟩ : ∃ W9, w8.setCell ⟨gT, j, none⟩ (byteV c1) = W9 := ⟨_, rfl⟩
    rw [hW9] at HOs HBs HBs2 ⊢
    have HR9 := Lib.hid (HR6.out.later HBs.out)
    have hKk : K ≤ k := by rw [← hKK]; unfold tornK; split <;> omega
    clear hset htorn hKK hW9 tc tf ho hidT HOT HBT HN7 HS7 HB7
    go_cut [11, 12, 20, 21] from 110 to 126 (fun t11 t12 t20 t21 wq => t11 = .int .i64 (K : Nat) ∧ t12 = .int .i64 (wholeS (l.take K) : Nat) ∧ Hid (Below W9.heap.size W9 wq))
    case first =>
      by_cases hqs : q = sz
      · have hk0 : 1 ≤ k := by
          rcases Nat.eq_zero_or_pos k with h | h
          · have := HK.out.1
            rw [h, List.take_zero, wholeS_nil] at this
            omega
          · exact h
        have hK1 : K + 1 = k := by have := HKK.out; unfold tornK at this; rw [if_pos hqs] at this; omega
        have hk1 : (k : Int) - 1 = (K : Int) := by omega
        have e1 : ((q : Int) == (sz : Int)) = true := by rw [beq_iff_eq]; omega
        have e3 : (q == sz) = true := by rw [beq_iff_eq]; exact hqs
        have hKn : K < no := by omega
        have hKl : K < l.length := by rw [HNO.out]; exact hKn
        obtain ⟨b, o, vj, hp, hb, g0, g1, hbs⟩ := rowS_at HR9.out hKl
        have hidx := idx_s pl b o no cl K hp hKn
        clear hp
        obtain ⟨pv, cv, rfl⟩ := hbs.form
        have hok := put_at HRis.out hKl
        have hnx := whole_next12 hKl
        rw [hK1, HK.out.1, ← getD_at12 hKl] at hnx
        obtain ⟨rc, hrc⟩ : ∃ rc, l.getD K default = rc := ⟨_, rfl⟩
        rw [hrc] at g0 g1 hbs hok hnx
        have hput := sput_any rc (okRc_64 hok) _ W9 (HE.out.below HBs2.out).1 (HE.out.below HBs2.out).2.1 hbs
        obtain ⟨nv, hnv⟩ : ∃ n, rc.d.length = n := ⟨_, rfl⟩
        rw [hnv] at g1 hput
        obtain ⟨N, hN⟩ : ∃ n, rc.n = n := ⟨_, rfl⟩
        rw [hN] at g0 hput
        obtain ⟨s1, hs1⟩ : ∃ n, sizeF rc = n := ⟨_, rfl⟩
        rw [hs1] at hnx
        obtain ⟨s0, hs0⟩ : ∃ n, wholeS (l.take K) = n := ⟨_, rfl⟩
        rw [hs0] at hnx
        have hsub : (sz : Int) - (s1 : Int) = (s0 : Int) := by omega
        have HS0 := Lib.hid hs0
        have HS1 := Lib.hid hs1
        have HPut := Lib.hid hput
        have HOkr := Lib.hid hok
        clear hqs hK1 hrc hnv hN hs1 hs0 hnx hok hbs hput
        go_wp2_with fail
        refine HPut.out.mono ?_; intro e w10 h10
        obtain ⟨p6, c6, rfl, -, b10⟩ := h10.good HOkr.out
        rw [HS1.out]
        have HB10 := Lib.hid b10
        clear h10 b10 HPut g0 g1
        go_wp2_with fail
        go_meet
        exact ⟨rfl, by rw [HS0.out], HB10⟩
      · have hK1 : K = k := by have := HKK.out; unfold tornK at this; rw [if_neg hqs] at this; exact this.symm
        have e1 : ((q : Int) == (sz : Int)) = false := by rw [beq_eq_false_iff_ne]; omega
        have e2 : ¬ ((q : Int) = (sz : Int)) := by omega
        have HK1 := Lib.hid hK1
        clear hqs hK1
        go_wp2_with fail
        go_meet
        exact ⟨by rw [HK1.out], by rw [HK1.out, HK.out.1], Lib.hid (Below.refl _ _)⟩
    case rest =>
      obtain ⟨rfl, rfl, HBc2⟩ := hcut
      have HBx := Lib.hid (then_ HBs2.out HBc2.out)
      have HRx := Lib.hid (HR9.out.later HBc2.out)
      have HOx := Lib.hid (HOs.out.below HBc2.out)
      have hlT : (((forms l).take q).set j c1).length = q := by rw [List.length_set]; exact HTl.out
      have hbT : Bs wc (.slice (some ⟨gT, 0, none⟩) q cT) (((forms l).take q).set j c1) := by
        have h := HOx.out
        have h2 : OwnB wc w6.heap.size (.slice (some ⟨gT, 0, none⟩) (((forms l).take q).set j c1).length cT) (((forms l).take q).set j c1) := by rw [hlT]; exact h
        have h3 := h2.bs
        rw [hlT] at h3
        exact h3
      have HSp := Lib.hid (ssplit_any _ _ F hF64 wc (HE.out.below HBx.out).1 (HE.out.below HBx.out).2.1 hbT (by rw [hlT]; unfold maxSp; omega))
      have hKn : K ≤ l.length := Nat.le_trans hKk HKl.out
      obtain ⟨pt2, ct2, rt2, hrt2⟩ := rowS_upto HRx.out hKn
      have HRt := Lib.hid hrt2
      have hlK : (l.take K).length = K := by rw [List.length_take]; omega
      have HLK := Lib.hid hlK
      obtain ⟨s0, hs0⟩ : ∃ n, wholeS (l.take K) = n := ⟨_, rfl⟩
      have HS0 := Lib.hid hs0
      rw [hs0]
      clear hlT hbT hrt2 hKn hlK hs0 rt ru
      go_wp2_with fail
      refine HSp.out.mono ?_; intro e wd hd
      obtain ⟨px2, cx2, rfl, hrx2, bd⟩ := hd.is HTorn.out
      rw [HLK.out] at hrx2 ⊢
      rw [HS0.out]
      have HBd := Lib.hid (then_ HBx.out bd)
      have HRd := Lib.hid hrx2
      have HRt2 := Lib.hid (HRt.out.later bd)
      clear hd hrx2 bd HSp HRt
      have HAwd := Lib.hid (HAw.out _ HBd.out)
      go_wp2_with fail
      refine HAwd.out.mono ?_; rintro e we ⟨rfl, be⟩
      have HBe := Lib.hid (then_ HBd.out be)
      have HSm := Lib.hid (sameS_any _ _ (l.take K) (l.take K) we (HRd.out.later be) (HRt2.out.later be) (by rw [HLK.out]; omega))
      rw [show decide (l.take K = l.take K) = true from decide_eq_true rfl] at HSm
      clear be HAwd HRd HRt2
      go_wp2_with fail
      refine HSm.out.mono ?_; rintro e wf ⟨rfl, bf⟩
      have HBf := Lib.hid (then_ HBe.out bf)
      clear bf HSm
      go_wp2_with fail
      go_ret
      exact ⟨rfl, HBf.out⟩
end Go.Proofs.YtelocbohiddpgaaDoor.Crc
