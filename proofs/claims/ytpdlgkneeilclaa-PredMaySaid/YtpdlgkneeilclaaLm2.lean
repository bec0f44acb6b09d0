/- The walk of the statement PredMay. -/
import Derived.Test.YtpdlgkneeilclaaLm1
import Derived.Test.YtpdlgkneeilclaaKz
set_option linter.unusedSimpArgs false
set_option linter.unusedVariables false
namespace Go.Proofs.Ytpdlgkneeilclaa.Gm
open Go Go.RowKit
attribute [local go_sem ↓] Go.wp_at_zero Go.wp_at_succ

set_option maxHeartbeats 8000000 in
set_option maxRecDepth 100000 in
theorem law_pmay (vp vq : Value) (l m : List Cn) (w : World) (hP : Cs w vp l) (hQ : Cs w vq m) :
    Calls Try.prog 3 #[vp, vq] w (Gives (.bool true) w) := by
  obtain ⟨p0, c0, rfl⟩ := hP.1.form
  obtain ⟨q0, d0, rfl⟩ := hQ.1.form
  have hro := row_room hP.1
  have hrq := row_room hQ.1
  have hlp := hP.2.1
  have hlq := hQ.2.1
  obtain ⟨K, hK⟩ : ∃ K, K = min l.length 100 := ⟨_, rfl⟩
  obtain ⟨J, hJ⟩ : ∃ J, J = min m.length 100 := ⟨_, rfl⟩
  have hs1 := fun W => slice_pre_c p0 l.length c0 K (by omega) hro.1 hro.2 W
  have hs2 := fun W => slice_pre_c q0 m.length d0 J (by omega) hrq.1 hrq.2 W
  rw [show (K : Int) = min (l.length : Int) 100 by omega] at hs1
  rw [show (J : Int) = min (m.length : Int) 100 by omega] at hs2
  have HP := Lib.hid (cs_pre hP (by omega : K ≤ l.length))
  have HQ := Lib.hid (cs_pre hQ (by omega : J ≤ m.length))
  have hPl : (l.take K).length = K := by rw [List.length_take]; omega
  have hQl : (m.take J).length = J := by rw [List.length_take]; omega
  have hK1 : K ≤ 100 := by omega
  clear hP hQ hro hrq hK hJ
  go_enter Try.func3, Try.ntmps3
  go_upto_region 1 with (fail)
  go_region
  have HBa : Hid (Below w.heap.size w w.drew) := Lib.hid (Below.refl _ w).drew
  obtain ⟨wa, hwa⟩ : ∃ wa, wa = w.drew := ⟨_, rfl⟩
  rw [← hwa] at HBa ⊢
  obtain ⟨P, hPe⟩ : ∃ P, l.take K = P := ⟨_, rfl⟩
  obtain ⟨Q, hQe⟩ : ∃ Q, m.take J = Q := ⟨_, rfl⟩
  rw [hPe] at HP hPl
  rw [hQe] at HQ hQl
  clear hs1 hs2 hwa hPe hQe hlp hlq
  subst hPl hQl
  have HP := Lib.hid (HP.out.later HBa.out)
  have HQ := Lib.hid (HQ.out.later HBa.out)
  go_wp2_with fail
  refine (own_any _ P _ HP.out hK1).mono ?_; rintro e w1 ⟨pO, cO, O, rfl, hO⟩
  obtain ⟨hOc, hOb⟩ := ownr_cs hO HP.out
  have HB1 := Lib.hid hO.bel
  have hOl := len_of_bare hOb
  rw [hOl] at hOc ⊢
  have HOc := Lib.hid hOc
  have HOb := Lib.hid hOb
  have HOl := Lib.hid hOl
  clear hO hOc hOb hOl
  go_wp2_with fail
  refine (normalx _ O w1 HOc.out).mono ?_; rintro e w2 ⟨pA, cA, r, rfl, hN⟩
  have HB2 := Lib.hid (then_ HB1.out hN.bel)
  have HN := Lib.hid hN
  have hr6 := hN.len
  clear hN
  go_wp2_with fail
  refine (rnormalx _ P w2 (HP.out.later HB2.out)).mono ?_; rintro e w3 ⟨pB, cB, r2, rfl, hM⟩
  have hrb : r.map bare = r2.map bare := by rw [HN.out.is, hM.is, (normX_of_bare HOb.out).1]
  have hrl := len_of_bare hrb
  have her : errX O = errX P := (normX_of_bare HOb.out).2
  have HM3 := Lib.hid (normx_cs hM)
  have HN3 := Lib.hid ((normx_cs HN.out).later hM.bel)
  have HB3 := Lib.hid hM.bel
  have H0 : Hid (cmpL cmpC r r2 = 0) := Lib.hid (same_bare hrb)
  rw [her]
  rw [← hrl] at HM3 ⊢
  generalize errX P = ex
  clear hM hrb hrl her
  go_wp2_with fail
  have h1 := rcompare_any _ _ r r2 w3 HN3.out HM3.out
  rw [H0.out] at h1
  refine h1.mono ?_; rintro e w4 ⟨rfl, b4⟩
  have HB4 := Lib.hid (then_ HB3.out b4)
  clear h1 b4
  go_wp2_with fail
  have HBo := Lib.hid (then_ HN.out.bel HB4.out)
  have h1 := maypred_any _ O w4 (HOc.out.later HBo.out)
  rw [may_of_bare HOb.out] at h1
  refine h1.mono ?_; rintro e w5 ⟨rfl, b5⟩
  have HB5 := Lib.hid (then_ HB4.out b5)
  clear h1 b5
  go_wp2_with fail
  refine (rmaypr_any _ P w5 (HP.out.later (then_ HB2.out HB5.out))).mono ?_; rintro e w6 ⟨rfl, b6⟩
  have HB6 := Lib.hid (then_ HB5.out b6)
  clear b6
  generalize mayPr P = mP
  go_wp2_with fail
  have h1 := pcompare_any _ _ O Q w6 (HOc.out.later (then_ HN.out.bel HB6.out)) (HQ.out.later (then_ HB2.out HB6.out))
  rw [cmp_of_bare HOb.out] at h1
  refine h1.mono ?_; rintro e w7 ⟨rfl, b7⟩
  have HB7 := Lib.hid (then_ HB6.out b7)
  clear h1 b7
  go_wp2_with fail
  refine (rcompare_any _ _ P Q w7 (HP.out.later (then_ HB2.out HB7.out)) (HQ.out.later (then_ HB2.out HB7.out))).mono ?_; rintro e w8 ⟨rfl, b8⟩
  have HB8 := Lib.hid (then_ HB7.out b8)
  clear b8
  have h1 := psame_any _ _ O Q w8 (HOc.out.later (then_ HN.out.bel HB8.out)) (HQ.out.later (then_ HB2.out HB8.out))
  rw [cmp_of_bare HOb.out] at h1
  have h2 := fun W h => rsame_any _ _ P Q W (HP.out.later (then_ HB2.out (then_ HB8.out h))) (HQ.out.later (then_ HB2.out (then_ HB8.out h)))
  generalize cmpL cmpC P Q = rc at h1 h2 ⊢
  generalize decide (rc = 0) = rs at h1 h2
  have HS1 := Lib.hid h1
  have HS2 := Lib.hid h2
  clear h1 h2
  go_wp2_with fail
  refine HS1.out.mono ?_; rintro e w9 ⟨rfl, b9⟩
  have HB9 := Lib.hid (then_ HB8.out b9)
  go_wp2_with fail
  refine (HS2.out w9 b9).mono ?_; rintro e w10 ⟨rfl, b10⟩
  have HB10 := Lib.hid (then_ HB9.out b10)
  have HW0 := Lib.hid (wipe_of HN.out HB10.out)
  clear b9 b10 HS1 HS2 HB9 HB8 HB7 HB6 HB5 HB4 HB3 HM3 HN3 H0
  go_wp2_with fail
  go_loopw [78] (fun i wr => ∃ k : Nat, k ≤ r.length ∧ i = .int .i64 k ∧ Hid (Wipe w1 wr (.slice pA r.length cA) r)) (fun i _ => r.length - (intOf i).toNat)
  case atStart => exact ⟨0, Nat.zero_le _, rfl, HW0⟩
  case round =>
    obtain ⟨k, hk, rfl, HW⟩ := hrel
    by_cases hkl : k < r.length
    · obtain ⟨p1, cap1, b, o, hv, hp, hb, h4⟩ := seven_at (row_of_own encC_length HW.out.row) hkl
      simp only [Value.slice.injEq] at hv
      obtain ⟨rfl, _, rfl⟩ := hv
      have hidx := idx_c3 pA b o r.length cA k hp hkl
      obtain ⟨c0, c1, c2, c3, c4, c5, c6⟩ := h4
      obtain ⟨c, hx⟩ : ∃ c, r.getD k default = c := ⟨_, rfl⟩
      rw [hx] at c6
      have HCm : Hid (c ∈ r) := Lib.hid (by rw [← hx]; exact getD_mem hkl)
      have hc6 := HN.out.sets c HCm.out
      clear c0 c1 c2 c3 c4 c5 hb
      go_wp2_with fail
      clear hidx c6 hp
      go_loopw [87] (fun i wr => ∃ t : Nat, t ≤ c.set.length ∧ i = .int .i64 t ∧ Hid (Wipe w1 wr (.slice pA r.length cA) r)) (fun i _ => c.set.length - (intOf i).toNat)
      case atStart => exact ⟨0, Nat.zero_le _, rfl, HW⟩
      case round =>
        obtain ⟨t, ht, rfl, HW2⟩ := hrel
        by_cases htl : t < c.set.length
        · obtain ⟨p1, cap1, b, o, hv, hp, hb, h4⟩ := seven_at (row_of_own encC_length HW2.out.row) hkl
          simp only [Value.slice.injEq] at hv
          obtain ⟨rfl, _, rfl⟩ := hv
          have hidx := idx_c3 pA b o r.length cA k hp hkl
          obtain ⟨c0, c1, c2, c3, c4, c5, c6⟩ := h4
          rw [hx] at c6
          obtain ⟨g, cs, hsp, hg, hB, hsz⟩ := (HW2.out.room c HCm.out).resolve_left (by omega)
          have hidx2 := idx_v1 c.sp g 0 c.set.length c.sc t hsp htl
          rw [Nat.zero_add] at hidx2
          have q0 := hB.cell (t * 4) (Array.getElem?_eq_getElem (by omega))
          have q1 := hB.cell (t * 4 + 1) (Array.getElem?_eq_getElem (by omega))
          have q2 := hB.cell (t * 4 + 2) (Array.getElem?_eq_getElem (by omega))
          have q3 := hB.cell (t * 4 + 3) (Array.getElem?_eq_getElem (by omega))
          have f0 := hB.free (t * 4)
          have f1 := hB.free (t * 4 + 1)
          have f2 := hB.free (t * 4 + 2)
          have f3 := hB.free (t * 4 + 3)
          have HW3 := Lib.hid (wipe_set HW2.out hg hB (o := t * 4) [.int .i64 0, .int .i64 0, .string ⟨#[]⟩, .bool false] (by simp; omega))
          clear c0 c1 c2 c3 c4 c5 hb hp hB
          go_wp2_with fail
          go_roundw
          case rel => exact ⟨t + 1, by omega, by simp, HW3⟩
          case measure => simp [intOf]; omega
        · have hte : t = c.set.length := by omega
          subst hte
          go_wp2_with fail
          go_roundw
          case rel => exact ⟨k + 1, by omega, by simp, HW2⟩
          case measure => simp [intOf]; omega
    · have hke : k = r.length := by omega
      subst hke
      go_wp2_with fail
      have HP1 := Lib.hid (HP.out.later HB1.out)
      have HB0 := Lib.hid HW.out.bel
      go_loopw [102] (fun i wr => ∃ k : Nat, k ≤ P.length ∧ i = .int .i64 k ∧ Hid (Below w1.heap.size w1 wr)) (fun i _ => P.length - (intOf i).toNat)
      case atStart => exact ⟨0, Nat.zero_le _, rfl, HB0⟩
      case round =>
        obtain ⟨k, hk2, rfl, HB⟩ := hrel
        by_cases hkl2 : k < P.length
        · have hkO : k < O.length := by rw [HOl.out]; exact hkl2
          obtain ⟨p1, cap1, b, o, hv, hp, hb, h4⟩ := seven_at (HOc.out.later HB.out).1 hkO
          simp only [Value.slice.injEq] at hv
          obtain ⟨rfl, hle, rfl⟩ := hv
          clear hle
          have hidx := idx_c3 pO b o P.length cO k hp hkl2
          obtain ⟨p2, cap2, b2, o2, hv2, hp2, hb2, h5⟩ := seven_at (HP1.out.later HB.out).1 hkl2
          simp only [Value.slice.injEq] at hv2
          obtain ⟨rfl, _, rfl⟩ := hv2
          have hidx2 := idx_c3 p0 b2 o2 P.length c0 k hp2 hkl2
          have HSx := Lib.hid ((HOc.out.at hkO).later HB.out)
          have HSy := Lib.hid ((HP1.out.at hkl2).later HB.out)
          have hbar := at_of_bare HOb.out hkO
          obtain ⟨x, hx⟩ : ∃ x, O.getD k default = x := ⟨_, rfl⟩
          obtain ⟨y, hy⟩ : ∃ y, P.getD k default = y := ⟨_, rfl⟩
          rw [hx] at h4 HSx hbar
          rw [hy] at h5 HSy hbar
          have HM1 := Lib.hid (fun W (h : Below wr.heap.size wr W) => maycons_any x W (HSx.out.later h))
          have HM2 := Lib.hid (fun W (h : Below wr.heap.size wr W) => rmc_any y W (HSy.out.later h))
          have HOr := Lib.hid (fun W (h : Below wr.heap.size wr W) => order_any x y W (HSx.out.later h) (HSy.out.later h))
          rw [mayCn_of_bare hbar] at HM1
          rw [cmpC_of_bare hbar] at HOr
          generalize mayCn y = mc at HM1 HM2
          clear hx hy hbar hp hp2 hb hb2 HSx HSy
          have e0 := fun (z : Later wr) => Later.cell h4.1 z
          have g0 := fun (z : Later wr) => Later.cell h5.1 z
          have e1 := fun (z : Later wr) => Later.cell h4.2.1 z
          have g1 := fun (z : Later wr) => Later.cell h5.2.1 z
          have e2 := fun (z : Later wr) => Later.cell h4.2.2.1 z
          have g2 := fun (z : Later wr) => Later.cell h5.2.2.1 z
          have e3 := fun (z : Later wr) => Later.cell h4.2.2.2.1 z
          have g3 := fun (z : Later wr) => Later.cell h5.2.2.2.1 z
          have e4 := fun (z : Later wr) => Later.cell h4.2.2.2.2.1 z
          have g4 := fun (z : Later wr) => Later.cell h5.2.2.2.2.1 z
          have e5 := fun (z : Later wr) => Later.cell h4.2.2.2.2.2.1 z
          have g5 := fun (z : Later wr) => Later.cell h5.2.2.2.2.2.1 z
          have e6 := fun (z : Later wr) => Later.cell h4.2.2.2.2.2.2 z
          have g6 := fun (z : Later wr) => Later.cell h5.2.2.2.2.2.2 z
          clear h4 h5
          go_wp2_with fail
          refine wp_region_later (by kernel_rfl) (by kernel_rfl) ?_
          repeat (quiet_step ((first | (go_at_call 18; exact later_call _ (HM1.out _ (Later.bel _))) | (go_at_call 19; exact later_call _ (HM2.out _ (Later.bel _))) | (go_at_call 20; exact later_call _ (HOr.out _ (Later.bel _))))))
          refine wpQuiet_nil ?_
          intro wz hw'
          obtain ⟨⟨_, hbz⟩, rfl⟩ := hw'
          have HBz := Lib.hid (then_ HB.out hbz)
          clear hbz e0 g0 e1 g1 e2 g2 e3 g3 e4 g4 e5 g5 e6 g6
          go_wp2_with fail
          go_roundw
          case rel => exact ⟨k + 1, by omega, by simp, HBz⟩
          case measure => simp [intOf]; omega
        · have hke2 : k = P.length := by omega
          subst hke2
          go_wp2_with fail
          refine (awake_any _).mono ?_; rintro e w20 ⟨rfl, b20⟩
          have HBe := Lib.hid (then_ HBa.out (then_ HB1.out (then_ HB.out b20)))
          clear b20
          go_wp2_with fail
          go_ret
          exact ⟨rfl, HBe.out⟩
end Go.Proofs.Ytpdlgkneeilclaa.Gm
