/- The walk of SegmentPuts. -/
import Derived.Test.YtelocbohiddpgaaGreatDoorSpd
import Derived.Test.YtelocbohiddpgaaGreatDoorKL
import Derived.Test.YtelocbohiddpgaaGreatDoorGc
import Derived.Test.YtelocbohiddpgaaGreatDoorSpc
import Derived.Test.YtelocbohiddpgaaGreatDoorSgp
/- Layer 12: the document's Same. -/
set_option linter.unusedSimpArgs false
set_option linter.unusedVariables false
namespace Go.Proofs.YtelocbohiddpgaaGreatDoor.Crc
open Go Go.RowKit Gm
attribute [local go_sem ↓] Go.wp_at_zero Go.wp_at_succ

set_option maxHeartbeats 8000000 in
set_option maxRecDepth 100000 in
theorem rsame12_any (v1 v2 : Value) (l m : List Rc) (w : World) (h1 : RowS w v1 l) (h2 : RowS w v2 m) (hl : l.length ≤ 140737488355328) : Calls Tryz.prog 12 #[v1, v2] w (Gives (.bool (decide (l = m))) w) := by
  obtain ⟨p1, c1, rfl, _, hc1⟩ := h1
  obtain ⟨p2, c2, rfl, _, hc2⟩ := h2
  have HC1 := Lib.hid hc1
  have HC2 := Lib.hid hc2
  clear hc1 hc2
  by_cases hlm : l.length = m.length
  · have HLM := Lib.hid hlm
    have HL : Hid (∀ k, k < l.length → k < m.length) := Lib.hid (fun k hk => by omega)
    rw [← hlm]
    obtain ⟨n, hn⟩ : ∃ n, l.length = n := ⟨_, rfl⟩
    have HN := Lib.hid hn
    rw [hn] at hl ⊢
    clear hlm hn
    go_enter Tryz.func12, Tryz.ntmps12
    go_wp2_with fail
    go_loopw [5] (fun i wr => ∃ k : Nat, k ≤ n ∧ i = .int .i64 k ∧ Hid (∀ j, j < k → l.getD j default = m.getD j default) ∧ Hid (Below w.heap.size w wr)) (fun i _ => n - (intOf i).toNat)
    case atStart => exact ⟨0, Nat.zero_le _, rfl, Lib.hid (fun j hj => absurd hj (Nat.not_lt_zero j)), Lib.hid (Below.refl _ _)⟩
    case round =>
      obtain ⟨k, hk, rfl, HE, HB⟩ := hrel
      by_cases hkn : k < n
      · have hkl : k < l.length := by rw [HN.out]; exact hkn
        obtain ⟨b1, o1, u1, rfl, hb1, e1, f1, q1⟩ := HC1.out k hkl
        obtain ⟨b2, o2, u2, rfl, hb2, e2, f2, q2⟩ := HC2.out k (HL.out k hkl)
        obtain ⟨pa, ca, rfl⟩ := q1.form
        obtain ⟨pb, cb, rfl⟩ := q2.form
        have i1 := idx_t _ b1 o1 n c1 k rfl hkn
        have i2 := idx_t _ b2 o2 n c2 k rfl hkn
        have d1 := (HB.out.cell (p := ⟨b1, o1 + k * 2, none⟩) hb1).trans e1
        have d2 := (HB.out.cell (p := ⟨b1, o1 + k * 2 + 1, none⟩) hb1).trans f1
        have d3 := (HB.out.cell (p := ⟨b2, o2 + k * 2, none⟩) hb2).trans e2
        have d4 := (HB.out.cell (p := ⟨b2, o2 + k * 2 + 1, none⟩) hb2).trans f2
        obtain ⟨x, hx⟩ : ∃ x, l.getD k default = x := ⟨_, rfl⟩
        obtain ⟨y, hy⟩ : ∃ y, m.getD k default = y := ⟨_, rfl⟩
        rw [hx] at d1 d2 q1
        rw [hy] at d3 d4 q2
        have HX := Lib.hid hx
        have HY := Lib.hid hy
        obtain ⟨xn, xd⟩ := x
        obtain ⟨yn, yd⟩ := y
        simp only at d1 d2 d3 d4 q1 q2
        have cv1 := fun (z : Later wr) => conv_bs ((q1.below HB.out).below z.bel) 9 Tryz.underlying9
        have cv2 := fun (z : Later wr) => conv_bs ((q2.below HB.out).below z.bel) 9 Tryz.underlying9
        have g1 := fun (z : Later wr) => Later.cell d1 z
        have g2 := fun (z : Later wr) => Later.cell d2 z
        have g3 := fun (z : Later wr) => Later.cell d3 z
        have g4 := fun (z : Later wr) => Later.cell d4 z
        generalize xd.length = nx at *
        generalize yd.length = ny at *
        clear hx hy e1 e2 f1 f2 hkl q1 q2 d1 d2 d3 d4
        by_cases hn : xn = yn
        · subst hn
          by_cases hxy : xd = yd
          · subst hxy
            have HN2 : Hid (∀ j, j < k + 1 → l.getD j default = m.getD j default) := Lib.hid (fun j hj => by
              by_cases e : j = k
              · rw [e, HX.out, HY.out]
              · exact HE.out j (by omega))
            go_wp2_with fail
            refine wp_region_later (by kernel_rfl) (by kernel_rfl) ?_
            repeat (quiet_step (fail))
            refine wpQuiet_nil ?_
            intro wz hw'
            obtain ⟨⟨_, hbz⟩, rfl⟩ := hw'
            have HBn := Lib.hid (then_ HB.out hbz)
            clear hbz cv1 cv2 g1 g2 g3 g4
            go_wp2_with fail
            go_roundw
            case rel => exact ⟨k + 1, by omega, by go_num, HN2, HBn⟩
            case measure => simp [intOf]; omega
          · have hba : ¬ (⟨xd.toArray⟩ : ByteArray) = ⟨yd.toArray⟩ := fun e => hxy (by injection e with e; exact congrArg Array.toList e)
            have hbb : (xd == yd) = false := beq_eq_false_iff_ne.2 hxy
            have HD : Hid (decide (l = m) = false) := Lib.hid (decide_eq_false (fun e => hxy (Rc.mk.inj (show Rc.mk xn xd = Rc.mk xn yd by rw [← HX.out, ← HY.out, e])).2))
            go_wp2_with fail
            refine wp_region_later (by kernel_rfl) (by kernel_rfl) ?_
            repeat (quiet_step (fail))
            refine wpQuiet_nil ?_
            intro wz hw'
            obtain ⟨⟨_, hbz⟩, rfl⟩ := hw'
            have HBn := Lib.hid (then_ HB.out hbz)
            clear hbz cv1 cv2 g1 g2 g3 g4
            go_wp2_with fail
            go_ret
            exact ⟨ret_bool (by rw [HD.out]), HBn.out⟩
        · have hnb : ((xn : Int) == (yn : Int)) = false := by rw [beq_eq_false_iff_ne]; omega
          have hnc : ¬ ((xn : Int) = (yn : Int)) := by omega
          have HD : Hid (decide (l = m) = false) := Lib.hid (decide_eq_false (fun e => hn (Rc.mk.inj (show Rc.mk xn xd = Rc.mk yn yd by rw [← HX.out, ← HY.out, e])).1))
          go_wp2_with fail
          refine wp_region_later (by kernel_rfl) (by kernel_rfl) ?_
          repeat (quiet_step (fail))
          refine wpQuiet_nil ?_
          intro wz hw'
          obtain ⟨⟨_, hbz⟩, rfl⟩ := hw'
          have HBn := Lib.hid (then_ HB.out hbz)
          clear hbz cv1 cv2 g1 g2 g3 g4
          go_wp2_with fail
          go_ret
          exact ⟨ret_bool (by rw [HD.out]), HBn.out⟩
      · obtain rfl : k = n := by omega
        have heq : l = m := rcs_eq HLM.out (fun j hj => HE.out j (by rw [HN.out] at hj; exact hj))
        have HD : Hid (decide (l = m) = true) := Lib.hid (decide_eq_true heq)
        go_wp2_with fail
        go_ret
        exact ⟨ret_bool (by rw [HD.out]), HB.out⟩
  · have hf : ¬ (l = m) := fun e => hlm (by rw [e])
    have hne : ¬ ((l.length : Int) = (m.length : Int)) := by omega
    have hne2 : ((l.length : Int) == (m.length : Int)) = false := by rw [beq_eq_false_iff_ne]; exact hne
    rw [decide_eq_false hf]
    generalize l.length = nl at *
    generalize m.length = nm at *
    clear hf HC1 HC2
    go_enter Tryz.func12, Tryz.ntmps12
    go_wp2_with fail
    go_ret
    exact ⟨rfl, Below.refl _ _⟩
end Go.Proofs.YtelocbohiddpgaaGreatDoor.Crc
set_option linter.unusedSimpArgs false
set_option linter.unusedVariables false
namespace Go.Proofs.YtelocbohiddpgaaGreatDoor.Crc
open Go Go.RowKit Gm
attribute [local go_sem ↓] Go.wp_at_zero Go.wp_at_succ

/-- A row of records in memory of its own, and what they hold. -/
def Kp (w : World) (B : Nat) (t : TypeId) (v : Value) (ys : List Rx) : Prop := w.ownsRow B t 2 v ys.length (cellsR ys) ∧ ∀ y ∈ ys, ∃ vo fo, OwnB w B vo fo ∧ ∀ V, OwnB V B vo fo → Bs V y.v y.d
theorem Kp.kept {w w' : World} {B g : Nat} {t : TypeId} {v : Value} {ys : List Rx} (h : Kp w B t v ys) (hg : w.grownBy w' (some g)) (hlt : g < B) : Kp w' B t v ys := by
  have hne : ∀ {t2 : TypeId} {size n : Nat} {u : Value} {xs : List Value}, w.ownsRow B t2 size u n xs → w'.ownsRow B t2 size u n xs := fun h => World.ownsRow.kept h hg (.inr (fun e => by have := (World.ownsRow.lt h g e).1; omega))
  exact ⟨hne h.1, fun y hy => by
    obtain ⟨vo, fo, h1, h2⟩ := h.2 y hy
    exact ⟨vo, fo, hne h1, h2⟩⟩
theorem Kp.later {w w' : World} {B : Nat} {t : TypeId} {v : Value} {ys : List Rx} (h : Kp w B t v ys) (hb : Below w.heap.size w w') : Kp w' B t v ys := ⟨own_later11 h.1 hb, fun y hy => by
  obtain ⟨vo, fo, h1, h2⟩ := h.2 y hy
  exact ⟨vo, fo, h1.below hb, h2⟩⟩
theorem Kp.rows {w : World} {B : Nat} {t : TypeId} {v : Value} {ys : List Rx} (h : Kp w B t v ys) : RowS w v (ys.map Rx.rc) := rowAny_own h.1 (fun y hy => by
  obtain ⟨vo, fo, h1, h2⟩ := h.2 y hy
  exact h2 _ h1)
theorem kp_split {w : World} {B : Nat} {t : TypeId} {v : Value} {ys : List Rx} (h1 : w.ownsRow B t 2 v ys.length (cellsR ys)) (h2 : ∀ y ∈ ys, DRec w B y.v y.d) : Kp w B t v ys := ⟨h1, fun y hy => by
  obtain ⟨vf, f, ⟨g, cap, hd, rfl, h4, ho⟩, h5⟩ := h2 y hy
  exact ⟨_, _, ho, fun V hV => h5 V (Rec.bs ⟨g, cap, hd, rfl, h4, hV⟩)⟩⟩
theorem kp_own {w : World} {B : Nat} {t : TypeId} {v : Value} {ys : List Rx} (h1 : w.ownsRow B t 2 v ys.length (cellsR ys)) (h2 : ∀ y ∈ ys, OwnB w B y.v y.d) : Kp w B t v ys := ⟨h1, fun y hy => ⟨_, _, h2 y hy, fun V hV => hV.bs⟩⟩
set_option maxHeartbeats 16000000 in
set_option maxRecDepth 100000 in
theorem law_sputs (n : Nat) (hn : n < 18446744073709551616) (vd vb : Value) (d b : List UInt8) (first : Nat) (hf : first < 18446744073709551616) (W : World) (hE : Env12 W) (hd : Bs W vd d) (hdl : d.length ≤ 1048576) (hb : Bs W vb b) (hbl : b.length ≤ 1048576) :
    Calls Tryz.prog 3 #[recV n vd, vb, .int .u64 (first : Int)] W (Gives (.bool true) W) := by
  obtain ⟨p, cap, rfl⟩ := hd.form
  obtain ⟨pb, cb, rfl⟩ := hb.form
  have hsr := seg_rises b first
  have hsl : (segL b first).length ≤ 1048576 := Nat.le_trans (Nat.le_trans (seg_count _) (seg_le b first)) hbl
  obtain ⟨S, hS⟩ : ∃ S, segL b first = S := ⟨_, rfl⟩
  have HSeg := Lib.hid hS
  obtain ⟨wS, hwS⟩ : ∃ n, wholeS S = n := ⟨_, rfl⟩
  have HWS := Lib.hid hwS
  rw [hS] at hsr hsl
  have HOk := Lib.hid (rises_ok hsr)
  have HSL := Lib.hid hsl
  obtain ⟨Q, hQ⟩ : ∃ Q, putB12 ⟨n, d⟩ = Q := ⟨_, rfl⟩
  obtain ⟨E, hEE⟩ : ∃ E, putE12 ⟨n, d⟩ = E := ⟨_, rfl⟩
  obtain ⟨lq, hlq⟩ : ∃ lq, Q.length = lq := ⟨_, rfl⟩
  have HPutE : Hid (∀ X e w', PutR12 ⟨n, d⟩ X e w' → ∃ p3 c3, e = .returned (.tuple #[.slice p3 lq c3, .int .i64 (E : Nat)]) ∧ OwnB w' X.heap.size (.slice p3 lq c3) Q ∧ Below X.heap.size X w') := Lib.hid (by
    rintro X e w' ⟨v, h1, h2, h3⟩
    rw [hEE] at h1
    rw [hQ] at h2
    obtain ⟨p3, c3, rfl⟩ := h2.form
    rw [hlq] at h1 h2
    exact ⟨p3, c3, h1, h2, h3⟩)
  obtain ⟨nd, hnd⟩ : ∃ nd, d.length = nd := ⟨_, rfl⟩
  obtain ⟨nb, hnb⟩ : ∃ nb, b.length = nb := ⟨_, rfl⟩
  have HND := Lib.hid hnd
  have HNB := Lib.hid hnb
  have HE := Lib.hid hE
  have HD := Lib.hid hd
  have HBb := Lib.hid hb
  rw [hnd] at HD hdl ⊢
  rw [hnb] at HBb hbl ⊢
  have B0 := below_one W (.cells #[.int .u64 (n : Int), .slice p nd cap] 25)
  have K0 := Blk.new W 25 #[.int .u64 (n : Int), .slice p nd cap]
  obtain ⟨G, hG⟩ : ∃ G, W.heap.size = G := ⟨_, rfl⟩
  obtain ⟨W0, hW0⟩ : ∃ W0, W.alloc (.cells #[.int .u64 (n : Int), .slice p nd cap] 25) = W0 := ⟨_, rfl⟩
  rw [hW0] at B0 K0
  rw [hG] at K0
  have k0 := K0.cell 0 (u := .int .u64 (n : Int)) rfl
  have k1 := K0.cell 1 (u := .slice p nd cap) rfl
  have HK0 := Lib.hid K0
  have HB0 := Lib.hid B0
  have HW0 := Lib.hid hW0
  have HG := Lib.hid hG
  have HOw := Lib.hid (rown_any (.slice p nd cap) d W0.drew (HD.out.below HB0.out.drew) (by rw [HND.out]; omega))
  clear hE hd hb hS hwS hsr hsl hQ hEE hlq hnd hnb B0 K0 hW0 hG
  go_enter Tryz.func3, Tryz.ntmps3
  go_upto_region 1 with (fail)
  rw [HW0.out, HG.out]
  go_cut [7, 8] from 17 to 26 (fun t7 t8 wq => ∃ px cx, t7 = .slice px lq cx ∧ t8 = .int .i64 (E : Nat) ∧ Hid (OwnB wq W0.heap.size (.slice px lq cx) Q) ∧ Hid (Below W0.heap.size W0 wq))
  case first =>
    go_region_law (first
      | (go_simp; go_at_call 6; refine HOw.out.mono ?_; rintro e w1 ⟨v1, rfl, ho1, b1⟩; obtain ⟨p1, c1, rfl⟩ := ho1.form; rw [HND.out] at ho1 ⊢; have Bw1 : Below W0.heap.size W0 w1 := ((Below.refl _ W0).drew).trans b1; have HB1 := Lib.hid Bw1; have kx := (HK0.out.later Bw1).cell 0 (u := .int .u64 (n : Int)) rfl; have HPut := Lib.hid (sput_any ⟨n, d⟩ hn (.slice p1 nd c1) w1 (HE.out.below (then_ HB0.out Bw1)).1 (HE.out.below (then_ HB0.out Bw1)).2.1 ho1.bs); clear ho1 b1 Bw1; try go_wp2_with fail)
      | (go_simp; go_at_call 5; refine HPut.out.mono ?_; intro e w2 h2; obtain ⟨p2, c2, rfl, ho2, b2⟩ := HPutE.out _ _ _ h2; have HO2 := Lib.hid (ho2.base (base' := W0.heap.size) HB1.out.size); have HB2 := Lib.hid (then_ HB1.out b2); clear h2 ho2 b2; try go_wp2_with fail))
    all_goals
      go_wp2_with fail
      go_meet
      exact ⟨p2, c2, rfl, rfl, HO2, HB2⟩
  case rest =>
  obtain ⟨px, cx, rfl, rfl, HX, HBc⟩ := hcut
  have kc0 := (HK0.out.later HBc.out).cell 0 (u := .int .u64 (n : Int)) rfl
  have kc1 := (HK0.out.later HBc.out).cell 1 (u := .slice p nd cap) rfl
  have HRp := Lib.hid (rput12_any ⟨n, d⟩ hn (.slice p nd cap) wc (HD.out.below (then_ HB0.out HBc.out)))
  clear HOw k0 k1
  go_wp2_with fail
  refine HRp.out.mono ?_; intro e w2 h2
  obtain ⟨py, cy, rfl, hoy, b2⟩ := HPutE.out _ _ _ h2
  have HY2 := Lib.hid hoy
  have HX2 := Lib.hid (HX.out.below b2)
  have HB2 := Lib.hid (then_ (then_ HB0.out HBc.out) b2)
  have HOb := Lib.hid (rown_any (.slice pb nb cb) b w2 (HBb.out.below HB2.out) (by rw [HNB.out]; omega))
  clear h2 hoy b2 HRp HPutE kc0 kc1 HX
  go_wp2_with fail
  refine HOb.out.mono ?_; rintro e w3 ⟨v3, rfl, ho3, b3⟩
  obtain ⟨p3, c3, rfl⟩ := ho3.form
  rw [HNB.out] at ho3 ⊢
  have HO3 := Lib.hid ho3
  have HB3 := Lib.hid (then_ HB2.out b3)
  have HB23 := Lib.hid b3
  have HSp := Lib.hid (ssplit_any (.slice p3 nb c3) b first hf w3 (HE.out.below HB3.out).1 (HE.out.below HB3.out).2.1 ho3.bs (by rw [HNB.out]; unfold maxSp; omega))
  clear ho3 b3 HOb
  go_wp2_with fail
  refine HSp.out.mono ?_; rintro e w4 ⟨v4, ys, rfl, hys, hr4, hd4, b4⟩
  obtain ⟨p4, c4, rfl⟩ := own_shape hr4
  rw [HSeg.out] at hys ⊢
  rw [HWS.out]
  have hk4 := kp_split hr4 hd4
  obtain ⟨ny, hny⟩ : ∃ ny, ys.length = ny := ⟨_, rfl⟩
  have HNy : Hid (S.length = ny) := Lib.hid (by rw [← hys, List.length_map, hny])
  rw [hny] at hk4 ⊢
  have HK4 := Lib.hid hk4
  have HYs := Lib.hid hys
  have HB34 := Lib.hid b4
  have HB4 := Lib.hid (then_ HB3.out b4)
  have HB24 := Lib.hid (then_ HB23.out b4)
  have HO4 := Lib.hid (HO3.out.below b4)
  have HRs := Lib.hid (rsplit12_any (.slice pb nb cb) b first hf w4 (HBb.out.below HB4.out) (by rw [HNB.out]; exact hbl))
  clear hys hr4 hd4 b4 hk4 hny HSp
  go_wp2_with fail
  refine HRs.out.mono ?_; rintro e w5 ⟨v5, zs, rfl, hzs, hr5, hd5, b5⟩
  obtain ⟨p5, c5, rfl⟩ := own_shape hr5
  rw [HSeg.out] at hzs ⊢
  rw [HWS.out]
  have hk5 := kp_own hr5 hd5
  obtain ⟨nz, hnz⟩ : ∃ nz, zs.length = nz := ⟨_, rfl⟩
  rw [hnz] at hk5 ⊢
  have HKz := Lib.hid hk5
  have HKy := Lib.hid (HK4.out.later b5)
  have HZs := Lib.hid hzs
  have HB25 := Lib.hid (then_ HB24.out b5)
  have HO5 : Hid (∃ Z : List UInt8, Z.length = nb ∧ OwnB w5 w2.heap.size (.slice p3 nb c3) Z) := Lib.hid ⟨b, HNB.out, HO4.out.below b5⟩
  have HNz : Hid (S.length = nz) := Lib.hid (by rw [← hzs, List.length_map, hnz])
  clear hzs hr5 hd5 b5 hk5 hnz HRs HO4
  go_wp2_with fail
  go_loopw [48] (fun iv wr => ∃ k : Nat, k ≤ nb ∧ iv = .int .i64 (k : Nat) ∧ Hid (∃ Z : List UInt8, Z.length = nb ∧ OwnB wr w2.heap.size (.slice p3 nb c3) Z) ∧ Hid (Kp wr w3.heap.size 30 (.slice p4 ny c4) ys) ∧ Hid (Kp wr w4.heap.size 25 (.slice p5 nz c5) zs) ∧ Hid (Below w2.heap.size w2 wr)) (fun iv _ => nb - (intOf iv).toNat)
  case atStart => exact ⟨0, Nat.zero_le _, rfl, HO5, HKy, HKz, HB25⟩
  case round =>
    obtain ⟨k, hk, rfl, HZ, HKl, HKm, HBr⟩ := hrel
    by_cases hkn : k < nb
    · obtain ⟨Z, hZ, ho⟩ := HZ.out
      unfold OwnB at ho
      rw [hZ] at ho
      obtain ⟨g, rfl, hgb, hgl, tc, tf, ho2⟩ := torn_row12 (show wr.ownsRow w2.heap.size 5 1 (.slice p3 nb c3) nb (cellsB [] ++ cellsB Z) from ho) hZ hkn
      have hg3 : g < w3.heap.size := (World.ownsRow.lt HO3.out g rfl).2
      have hg4 : g < w4.heap.size := Nat.lt_of_lt_of_le hg3 HB34.out.size
      obtain ⟨c0, hc0⟩ : ∃ c0, Z.getD k 0 = c0 := ⟨_, rfl⟩
      rw [hc0] at tc
      have tc2 : wr.cell? ⟨g, k, none⟩ = some (.int .u8 (c0.toNat : Int)) := tc
      obtain ⟨c1, hxor⟩ : ∃ c1 : UInt8, bits .xor .u8 (c0.toNat : Int) 255 = (c1.toNat : Int) := ⟨c0 ^^^ 255, xor_u8_12 c0 255⟩
      have hidx := idx_b (some ⟨g, 0, none⟩) g 0 nb c3 k rfl hkn
      rw [Nat.zero_add] at hidx
      have hgr : wr.grownBy (wr.setCell ⟨g, k, none⟩ (byteV c1)) (some g) := grown_set (i := k) (World.grownBy.refl wr (some g)) (byteV c1)
      have HZn : Hid (∃ Z : List UInt8, Z.length = nb ∧ OwnB (wr.setCell ⟨g, k, none⟩ (byteV c1)) w2.heap.size (.slice (some ⟨g, 0, none⟩) nb c3) Z) := Lib.hid ⟨Z.set k c1, by rw [List.length_set]; exact hZ, own_turn12 hZ ho2 k c1⟩
      have HKln := Lib.hid (HKl.out.kept hgr hg3)
      have HKmn := Lib.hid (HKm.out.kept hgr hg4)
      have HBn := Lib.hid (set_below12 (i := k) HBr.out hgb (byteV c1))
      unfold byteV at HZn HKln HKmn HBn
      clear tc ho ho2 hgr hc0 hZ hg3 hg4
      go_wp2_with fail
      go_roundw
      case rel => exact ⟨k + 1, by omega, by go_num, HZn, HKln, HKmn, HBn⟩
      case measure => simp [intOf]; omega
    · obtain rfl : k = nb := by omega
      have HBw := Lib.hid (then_ HB2.out HBr.out)
      have HAw := Lib.hid (awake_any wr (HE.out.below HBw.out))
      have HXb := Lib.hid ((HX2.out.below HBr.out).bs)
      have HYb := Lib.hid ((HY2.out.below HBr.out).bs)
      clear HZ HX2 HY2 HO3 HO5 HKy HKz
      go_wp2_with fail
      refine HAw.out.mono ?_; rintro e w7 ⟨rfl, b7⟩
      have HB7 := Lib.hid (then_ HBw.out b7)
      have HEq := Lib.hid (equal_any (.slice px lq cx) (.slice py lq cy) Q Q w7 (HXb.out.below b7) (HYb.out.below b7))
      rw [show (Q == Q) = true from beq_self_eq_true _] at HEq
      have HKl7 := Lib.hid (HKl.out.later b7)
      have HKm7 := Lib.hid (HKm.out.later b7)
      have HTh := Lib.hid (theirs_any (.slice p4 ny c4) S w7 (by have h := (HKl.out.later b7).rows; rw [HYs.out] at h; exact h) (by have := HSL.out; omega))
      clear b7 HAw HXb HYb HKl HKm
      go_wp2_with fail
      refine HEq.out.mono ?_; rintro e w8 ⟨rfl, rfl⟩
      clear HEq
      go_wp2_with fail
      refine HTh.out.mono ?_; rintro e w9 ⟨v9, rfl, hr9, b9⟩
      obtain ⟨p9, c9, rfl, _⟩ := hr9.form
      have HB9 := Lib.hid (then_ HB7.out b9)
      have HKl9 := Lib.hid (HKl7.out.later b9)
      have HKm9 := Lib.hid (HKm7.out.later b9)
      have HSm := Lib.hid (rsame12_any (.slice p9 S.length c9) (.slice p5 nz c5) S S w9 hr9 (by have h := (HKm7.out.later b9).rows; rw [HZs.out] at h; exact h) (by have := HSL.out; omega))
      rw [show decide (S = S) = true from decide_eq_true rfl] at HSm
      rw [HNy.out] at HSm ⊢
      clear hr9 b9 HTh HKl7 HKm7
      go_wp2_with fail
      refine HSm.out.mono ?_; rintro e w10 ⟨rfl, b10⟩
      have HB10 := Lib.hid (then_ HB9.out b10)
      have HKl10 := Lib.hid (HKl9.out.later b10)
      have HOu := Lib.hid (ours_any (.slice p5 nz c5) S w10 (by have h := (HKm9.out.later b10).rows; rw [HZs.out] at h; exact h) (by have := HSL.out; omega) (fun r hr => ((okRc_iff r).1 (HOk.out r hr)).2))
      clear b10 HSm HKl9 HKm9
      go_wp2_with fail
      refine HOu.out.mono ?_; rintro e w11 ⟨v11, rfl, hr11, b11⟩
      obtain ⟨p11, c11, rfl, _⟩ := hr11.form
      have HB11 := Lib.hid (then_ HB10.out b11)
      have HSn := Lib.hid (sameS_any (.slice p4 ny c4) (.slice p11 S.length c11) S S w11 (by have h := (HKl10.out.later b11).rows; rw [HYs.out] at h; exact h) hr11 (by have := HSL.out; omega))
      rw [show decide (S = S) = true from decide_eq_true rfl] at HSn
      rw [HNy.out] at HSn ⊢
      clear hr11 b11 HOu HKl10
      go_wp2_with fail
      refine HSn.out.mono ?_; rintro e w12 ⟨rfl, b12⟩
      have HB12 := Lib.hid (then_ HB11.out b12)
      clear b12 HSn
      go_wp2_with fail
      go_ret
      exact ⟨rfl, HB12.out⟩
end Go.Proofs.YtelocbohiddpgaaGreatDoor.Crc
