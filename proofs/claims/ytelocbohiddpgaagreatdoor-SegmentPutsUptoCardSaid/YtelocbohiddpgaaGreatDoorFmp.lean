/- Layer 11: the document's Split, walked. -/
import Derived.Test.YtelocbohiddpgaaGreatDoorFml
import Derived.Test.YtelocbohiddpgaaGreatDoorFmn
import Derived.BigQuiet
set_option linter.unusedSimpArgs false
set_option linter.unusedVariables false
namespace Go.Proofs.YtelocbohiddpgaaGreatDoor.Crc
open Go Go.RowKit Gm
attribute [local go_sem ↓] Go.wp_at_zero Go.wp_at_succ

theorem one_lt {R : List UInt8} (h : R.length < 9) : oneR R = none := by
  cases hr : oneR R with
  | none => rfl
  | some r =>
    have h1 := one_le hr
    have h2 := (mayR_iff r).1 (one_is hr).1
    omega
theorem one_far {R : List UInt8} (h : ¬ (1 ≤ lenN R ∧ lenN R ≤ 2048 ∧ lenN R + 8 ≤ R.length)) : oneR R = none := by
  cases hr : oneR R with
  | none => rfl
  | some r =>
    have h1 := one_le hr
    have h2 := (mayR_iff r).1 (one_is hr).1
    have h3 := (one_is hr).2.2
    omega
theorem lenN_drop (L : List UInt8) (n : Nat) : lenN (L.drop n) = (L.getD n 0).toNat + 256 * (L.getD (n + 1) 0).toNat + 65536 * (L.getD (n + 2) 0).toNat + 16777216 * (L.getD (n + 3) 0).toNat := by
  unfold lenN
  simp only [List.getD_eq_getElem?_getD, List.getElem?_drop]
  rfl
theorem one_eq {R : List UInt8} {m : Nat} (hN : lenN R = m) (h1 : 1 ≤ m) (h2 : m ≤ 2048) (hl : m + 8 ≤ R.length) {r0 : List UInt8} (hr0 : (R.drop 4).take m = r0) : (frm r0 = R.take (m + 8) → oneR R = some r0) ∧ (frm r0 ≠ R.take (m + 8) → oneR R = none) := by
  have hlr : r0.length = m := by rw [← hr0, List.length_take, List.length_drop]; omega
  constructor
  · intro h
    have e : frm r0 ++ R.drop (m + 8) = R := by rw [h, List.take_append_drop]
    rw [← e]
    exact one_put r0 _ ((mayR_iff _).2 (by omega))
  · intro h
    cases hr : oneR R with
    | none => rfl
    | some r =>
      exfalso
      apply h
      obtain ⟨a1, a2, a3⟩ := one_is hr
      have e : r = r0 := by
        unfold oneR at hr
        split at hr
        · injection hr with hr
          rw [← hr, hN, hr0]
        · cases hr
      subst e
      have h3 : (frm r ++ R.drop (r.length + 8)).take (m + 8) = frm r := by
        rw [← hlr, ← frm_length]; exact List.take_left' rfl
      rw [← a2] at h3
      exact h3.symm
/-- A part of bytes, as a slice. -/
theorem slice_mid {w : World} {v : Value} {L : List UInt8} (hB : Bs w v L) {a b : Nat} (hab : a < b) (hb : b ≤ L.length) (hl : L.length ≤ maxTk) : ∃ p c, (∀ W, (Instr.slice 23 v (some (.int .i64 (a : Int))) (some (.int .i64 (b : Int))) none).run Tryz.prog W = .ok (.slice p (b - a) c) W) ∧ Bs w (.slice p (b - a) c) ((L.drop a).take (b - a)) := by
  rcases hB with ⟨rfl, rfl⟩ | ⟨ad, cap, rfl, h2, h3⟩
  · simp at hb; omega
  · have hd : Bs w (.slice (some (ad.add a)) (L.length - a) (cap - a)) (L.drop a) := Bs.drop (.inr ⟨ad, cap, rfl, h2, h3⟩) (by omega) (by rw [if_neg (by omega)])
    rw [← List.length_drop] at hd
    refine ⟨some (ad.add a), cap - a, fun W => ?_, Bs.take hd (by rw [List.length_drop]; omega)⟩
    generalize L.length = m at *
    have e1 : ¬ ((b : Int) < (a : Int)) := by omega
    have e2 : (b : Int) ≤ (cap : Int) := by omega
    have e3 : (a : Int) ≤ (b : Int) := by omega
    have e4 : ¬ ((cap : Int) < (b : Int)) := by omega
    have e5 : a ≤ b := by omega
    have e6 : b ≤ cap := by omega
    have e7 : ¬ (cap = a) := by omega
    have e8 : ¬ ((cap : Int) = (a : Int)) := by omega
    have e9 : a * 1 = a := Nat.mul_one a
    have ea : ¬ (cap < m) := by omega
    have eb : ¬ (b < a) := by omega
    have ec : ¬ (cap < b) := by omega
    go_simp
/-- What the document's Split leaves. -/
def RSplitR (L : List UInt8) (w : World) (e : Ending) (w' : World) : Prop := ∃ v, e = .returned (.tuple #[v, .int .i64 (wholeL (splitR L) : Nat)]) ∧ RowR w' v (splitR L) ∧ Below w.heap.size w w'
set_option maxHeartbeats 8000000 in
set_option maxRecDepth 100000 in
theorem rsplit_any (v : Value) (L : List UInt8) (w : World) (hB : Bs w v L) (hls : L.length ≤ 1048576) : Calls Tryz.prog 32 #[v] w (RSplitR L w) := by
  obtain ⟨i0, ii, iz0, iz1, iz2⟩ := info_parts infoB
  obtain ⟨j0, ji, jz0, jz1, jz2⟩ := info_parts infoSl11
  unfold RSplitR
  obtain ⟨p, cap, rfl⟩ := hB.form
  have HBs := Lib.hid hB
  obtain ⟨m, hm⟩ : ∃ m, L.length = m := ⟨_, rfl⟩
  have HM := Lib.hid hm
  rw [hm] at hls HBs ⊢
  clear hB hm
  go_enter Tryz.func32, Tryz.ntmps32
  go_wp2_with fail
  go_loopw [4, 5] (fun vl va wr => ∃ (X n : Nat) (po : Option Addr) (co : Nat) (xs : List Fx), n ≤ m ∧ X ≤ n ∧ vl = .slice po X co ∧ va = .int .i64 n ∧ Hid (xs.map Fx.r = (splitR L).take X ∧ xs.length = X ∧ X ≤ (splitR L).length ∧ wholeL ((splitR L).take X) = n ∧ ∀ x ∈ xs, OwnB wr w.heap.size x.v x.r) ∧ Hid (wr.ownsRow w.heap.size 23 1 (.slice po X co) X (xs.map Fx.v)) ∧ Hid (Below w.heap.size w wr)) (fun _ va _ => m - (intOf va).toNat)
  case atStart => exact ⟨0, 0, none, 0, [], Nat.zero_le _, Nat.le_refl _, rfl, rfl, Lib.hid ⟨rfl, rfl, Nat.zero_le _, rfl, fun x hx => by cases hx⟩, Lib.hid (World.ownsRow_nil _ _ _ _), Lib.hid (Below.refl _ _)⟩
  case round =>
    obtain ⟨X, n, po, co, xs, hn, hXn, rfl, rfl, HX, HO, HL⟩ := hrel
    have HEND : Hid (oneR (L.drop n) = none → wholeL (splitR L) = n ∧ ∀ w2, Below wr.heap.size wr w2 → RowR w2 (.slice po X co) (splitR L) ∧ Below w.heap.size w w2) := Lib.hid (fun h => by
      obtain ⟨a1, a2, a3, a4, a5⟩ := HX.out
      have hat := (split_at L X a3).2
      rw [a4, h] at hat
      have e : X = (splitR L).length := by
        have := List.getElem?_eq_none_iff.1 hat.symm
        omega
      have e2 : (splitR L).take X = splitR L := by rw [e]; exact List.take_length
      rw [e2] at a1 a4
      refine ⟨a4, fun w2 hb => ⟨?_, HL.out.trans (hb.mono HL.out.size)⟩⟩
      have h2 := HO.out
      rw [← a2] at h2 ⊢
      rw [← a1]
      exact (rowR_own h2 (fun x hx => (a5 x hx).bs)).later hb)
    by_cases h9 : m - n < 9
    · have HZ := Lib.hid (HEND.out (one_lt (by rw [List.length_drop, HM.out]; exact h9)))
      have hi : ¬ (9 ≤ (m : Int) - (n : Int)) := by omega
      have hi2 : (m : Int) - (n : Int) < 9 := by omega
      clear HEND HX HO HL
      go_wp2_with fail
      go_ret2
      rw [HZ.out.1]
      exact ⟨_, rfl, HZ.out.2 _ (Below.refl _ _)⟩
    · have hi : (9 ≤ (m : Int) - (n : Int)) := by omega
      have hi2 : ¬ ((m : Int) - (n : Int) < 9) := by omega
      have hBw := HBs.out.below HL.out
      have hlm : L.length ≤ maxTk := by rw [HM.out]; unfold maxTk; omega
      have hBw' : Bs wr (.slice p L.length cap) L := by rw [HM.out]; exact hBw
      obtain ⟨p0, cap0, bb, o, e0, hp, hbl, c0⟩ := bs_at hBw' (i := n) (by rw [HM.out]; omega)
      have hcs : ∀ i, i < m → wr.cell? ⟨bb, o + i, none⟩ = some (byteV (L.getD i 0)) := fun i hi => by
        obtain ⟨p1, cap1, b1, o1, e1, e2, _, e3⟩ := bs_at hBw' (i := i) (by rw [HM.out]; exact hi)
        rw [e0] at e1
        subst hp e2
        simp only [Value.slice.injEq, Option.some.injEq, Addr.mk.injEq, true_and] at e1
        obtain ⟨⟨rfl, rfl, -⟩, -⟩ := e1
        exact e3
      subst hp
      simp only [Value.slice.injEq] at e0
      obtain ⟨rfl, -, rfl⟩ := e0
      have q0 := hcs n (by omega)
      have q1 := hcs (n + 1) (by omega)
      have q2 := hcs (n + 2) (by omega)
      have q3 := hcs (n + 3) (by omega)
      have d0 := idx_b (some ⟨bb, o, none⟩) bb o m cap n rfl (by omega)
      have d1 := idx_b (some ⟨bb, o, none⟩) bb o m cap (n + 1) rfl (by omega)
      have d2 := idx_b (some ⟨bb, o, none⟩) bb o m cap (n + 2) rfl (by omega)
      have d3 := idx_b (some ⟨bb, o, none⟩) bb o m cap (n + 3) rfl (by omega)
      rw [show ((n + 1 : Nat) : Int) = (n : Int) + 1 by omega] at d1
      rw [show ((n + 2 : Nat) : Int) = (n : Int) + 2 by omega] at d2
      rw [show ((n + 3 : Nat) : Int) = (n : Int) + 3 by omega] at d3
      have hN := lenN_drop L n
      have y0 := (L.getD n 0).toNat_lt
      have y1 := (L.getD (n + 1) 0).toNat_lt
      have y2 := (L.getD (n + 2) 0).toNat_lt
      have y3 := (L.getD (n + 3) 0).toNat_lt
      unfold byteV at q0 q1 q2 q3
      obtain ⟨x0, hx0⟩ : ∃ x, (L.getD n 0).toNat = x := ⟨_, rfl⟩
      obtain ⟨x1, hx1⟩ : ∃ x, (L.getD (n + 1) 0).toNat = x := ⟨_, rfl⟩
      obtain ⟨x2, hx2⟩ : ∃ x, (L.getD (n + 2) 0).toNat = x := ⟨_, rfl⟩
      obtain ⟨x3, hx3⟩ : ∃ x, (L.getD (n + 3) 0).toNat = x := ⟨_, rfl⟩
      rw [hx0] at q0 y0 hN
      rw [hx1] at q1 y1 hN
      rw [hx2] at q2 y2 hN
      rw [hx3] at q3 y3 hN
      clear hcs hx0 hx1 hx2 hx3 c0 hbl hBw hBw'
      have HFAR : Hid (¬ (1 ≤ lenN (L.drop n) ∧ lenN (L.drop n) ≤ 2048 ∧ lenN (L.drop n) + 8 ≤ m - n) → wholeL (splitR L) = n ∧ ∀ w2, Below wr.heap.size wr w2 → RowR w2 (.slice po X co) (splitR L) ∧ Below w.heap.size w w2) := Lib.hid (fun h => HEND.out (one_far (by rw [List.length_drop, HM.out]; exact h)))
      have HN := Lib.hid hN
      by_cases k2 : x2 = 0
      · by_cases k3 : x3 = 0
        · subst k2 k3
          have z2 : ((0 : Nat) : Int) = 0 := rfl
          obtain ⟨N, hNN⟩ : ∃ N, x0 + 256 * x1 = N := ⟨_, rfl⟩
          have hN1 : lenN (L.drop n) = N := by rw [hN]; omega
          have hNi : (x0 : Int) + 256 * (x1 : Int) = (N : Int) := by omega
          have hNb : N < 65536 := by omega
          have w0 : IntKind.i64.wrap (x0 : Int) = (x0 : Int) := by rw [IntKind.wrap_i64]; omega
          have w1 : IntKind.i64.wrap (x1 : Int) = (x1 : Int) := by rw [IntKind.wrap_i64]; omega
          rw [hN1] at HFAR
          have HN1 := Lib.hid hN1
          have hNx1 : (256 * (x1 : Int)) < 65536 := by omega
          clear HN hN hN1
          go_wp2_with fail
          go_quiet (fail)
          obtain ⟨wq, hwq⟩ : ∃ wq, wr.drewN nq = wq := ⟨_, rfl⟩
          have HQ := Lib.hid (bel_drewN (Below.refl wr.heap.size wr) nq)
          rw [hwq] at HQ
          rw [hwq]
          clear hwq q0 q1 q2 q3 d0 d1 d2 d3 z2 w0 w1
          by_cases hz : N = 0
          · have HZ := Lib.hid (HFAR.out (by omega))
            subst hz
            clear HX HO HL HFAR HN1
            go_wp2_with fail
            go_ret2
            rw [HZ.out.1]
            exact ⟨_, rfl, HZ.out.2 _ HQ.out⟩
          · have hz1 : ¬ ((N : Int) = 0) := by omega
            by_cases hg : 2048 < N
            · have hg1 : (2048 : Int) < N := by omega
              have HZ := Lib.hid (HFAR.out (by omega))
              clear HX HO HL HFAR HN1
              go_wp2_with fail
              go_ret2
              rw [HZ.out.1]
              exact ⟨_, rfl, HZ.out.2 _ HQ.out⟩
            · have hg1 : ¬ ((2048 : Int) < N) := by omega
              by_cases hs : m - n < N + 8
              · have hs1 : (m : Int) - (n : Int) < (N : Int) + 8 := by omega
                have HZ := Lib.hid (HFAR.out (by omega))
                clear HX HO HL HFAR HN1
                go_wp2_with fail
                go_ret2
                rw [HZ.out.1]
                exact ⟨_, rfl, HZ.out.2 _ HQ.out⟩
              · have hs1 : ¬ ((m : Int) - (n : Int) < (N : Int) + 8) := by omega
                have hBq : Bs wq (.slice (some ⟨bb, o, none⟩) m cap) L := (HBs.out.below HL.out).below HQ.out
                obtain ⟨pm, cm, rm, hmB⟩ := slice_mid (a := n + 4) (b := n + 4 + N) hBq (by omega) (by rw [HM.out]; omega) (by rw [HM.out]; unfold maxTk; omega)
                obtain ⟨pt, ct, rt, htB⟩ := slice_mid (a := n) (b := n + N + 8) hBq (by omega) (by rw [HM.out]; omega) (by rw [HM.out]; unfold maxTk; omega)
                rw [show ((n + 4 : Nat) : Int) = (n : Int) + 4 by omega, show ((n + 4 + N : Nat) : Int) = (n : Int) + 4 + (N : Int) by omega, show n + 4 + N - (n + 4) = N by omega] at rm
                rw [show ((n + N + 8 : Nat) : Int) = (n : Int) + (N : Int) + 8 by omega, show n + N + 8 - n = N + 8 by omega] at rt
                rw [show n + 4 + N - (n + 4) = N by omega] at hmB
                rw [show n + N + 8 - n = N + 8 by omega] at htB
                obtain ⟨r0, hr0⟩ : ∃ r0, (L.drop (n + 4)).take N = r0 := ⟨_, rfl⟩
                rw [hr0] at hmB
                have HOE := Lib.hid (one_eq HN1.out (by omega) (by omega) (by rw [List.length_drop, HM.out]; omega) (r0 := r0) (by rw [List.drop_drop]; exact hr0))
                have HLr : Hid (r0.length = N) := Lib.hid (by rw [← hr0, List.length_take, List.length_drop, HM.out]; omega)
                have HMy : Hid (mayR r0 = true) := Lib.hid ((mayR_iff _).2 (by rw [HLr.out]; omega))
                have HSq := Lib.hid (fun Y (h : Below wq.heap.size wq Y) => by have := (hmB.below h).src; rw [HLr.out] at this; exact this)
                have HNq := Lib.hid (OwnB.nil wq wq.heap.size)
                have HRq := Lib.hid (Below.refl wq.heap.size wq)
                have HTB := Lib.hid htB
                clear hBq hmB htB hr0 HN1 HFAR
                go_upto_if 58 with (fail)
                have hN48 : N ≤ 2048 := by omega
                have hN1 : 1 ≤ N := by omega
                have hnm : n + N + 8 ≤ m := by omega
                have hRT := Lib.hid rt
                clear hs1 hg1 hz1 hs hg hz hNi hNN hNx1 hNb hi hi2 h9 y0 y1 y2 y3 rt
                go_wp2_with (at_builtin; refine wpList_append_src rfl _ _ 23 (by rfl) wq.heap.size 5 i0 (.int .u8 0) 1 1 Tryz.underlying23 ii iz0 iz1 iz2 rfl (by decide) _ _ _ (by rfl) HNq.out _ N (cellsB r0) (by rfl) (HSq.out _ HRq.out) (N) (by simp) (by unfold maxLen; omega) (by omega) (Nat.le_refl _) ?_; intro pA capA w3 hown3 hgrow3; have HO3 := Lib.hid (ow11 hown3 HLr.out); have HB3 := Lib.hid (HRq.out.grown hgrow3 (Nat.le_refl _) (fun j hj => (World.ownsRow.lt HNq.out j hj).1)); clear hown3 hgrow3)
                refine (rfput_any _ r0 w3 HO3.out.bs).mono ?_; intro e w4 h4
                obtain ⟨p4, c4, rfl, ho4, b4⟩ := h4.good HMy.out
                rw [HLr.out] at ho4 ⊢
                have HO4 := Lib.hid ((HO3.out.base HQ.out.size).below b4)
                have HB4 := Lib.hid (HQ.out.trans ((then_ HB3.out b4).mono HQ.out.size))
                have hT4 := HTB.out.below (then_ HB3.out b4)
                clear h4 HO3 HB3 HSq HNq HRq HTB rm
                obtain ⟨F, hF⟩ : ∃ F, frm r0 = F := ⟨_, rfl⟩
                obtain ⟨G, hG⟩ : ∃ G, (L.drop n).take (N + 8) = G := ⟨_, rfl⟩
                rw [hF] at ho4 HOE
                rw [hG] at hT4 HOE
                have v1 := conv_bs (ho4.bs.below (Below.refl _ w4).drew) 9 Tryz.underlying9
                have v2 := conv_bs (hT4.below (Below.refl _ w4).drew) 9 Tryz.underlying9
                have v3 := conv_bs ho4.bs 9 Tryz.underlying9
                have v4 := conv_bs hT4 9 Tryz.underlying9
                clear ho4 hT4 b4 hF hG
                by_cases hFG : F = G
                · subst hFG
                  have rt := hRT.out
                  have HON := Lib.hid (HOE.out.1 rfl)
                  clear HEND HOE
                  go_wp2_with fail
                  go_region
                  have HBn := Lib.hid HB4.out.drew
                  have HOd := Lib.hid (own_later11 HO.out HBn.out)
                  have HLd := Lib.hid (HL.out.trans (HBn.out.mono HL.out.size))
                  have HLa := Lib.hid (HLd.out.trans ((below_one w4.drew (.cells #[.slice pA N capA] 23)).mono HLd.out.size))
                  have H0d : Hid (OwnB w4.drew w.heap.size (.slice pA N capA) r0) := Lib.hid ((HO4.out.base HL.out.size).below (Below.refl _ w4).drew)
                  clear v1 v2 v3 v4 rt hRT HO HL HQ HB4
                  go_wp2_with (at_builtin; refine wpList_append_src rfl _ _ 74 (by rfl) w.heap.size 23 j0 (.slice none 0 0) 1 24 Tryz.underlying74 ji jz0 jz1 jz2 rfl (by decide) _ _ _ (by rfl) (own_later11 HOd.out (below_one w4.drew (.cells #[.slice pA N capA] 23))) _ 1 [.slice pA N capA] (by rfl) (src_one (Blk.new w4.drew 23 #[.slice pA N capA]) rfl) (X + 1) (by rfl) (by unfold maxLen; omega) (by omega) (HLa.out.size) ?_; intro pO cO wO hownO hgrowO; have HOf := Lib.hid hownO; have HLf := Lib.hid (HLa.out.grown hgrowO (HLa.out.size) (fun j hj => (World.ownsRow.lt (own_later11 HOd.out (below_one w4.drew (.cells #[.slice pA N capA] 23))) j hj).1)); have HRf := Lib.hid (fun (v : Value) (r : List UInt8) (h : OwnB (w4.drew.alloc (.cells #[.slice pA N capA] 23)) w.heap.size v r) => own_apart11 h (own_later11 HOd.out (below_one w4.drew (.cells #[.slice pA N capA] 23))) (by decide) hgrowO); clear hownO hgrowO)
                  have HXn : Hid ((xs ++ [(⟨.slice pA N capA, r0, 0⟩ : Fx)]).map Fx.r = (splitR L).take (X + 1) ∧ (xs ++ [(⟨.slice pA N capA, r0, 0⟩ : Fx)]).length = X + 1 ∧ X + 1 ≤ (splitR L).length ∧ wholeL ((splitR L).take (X + 1)) = n + N + 8 ∧ ∀ x ∈ xs ++ [(⟨.slice pA N capA, r0, 0⟩ : Fx)], OwnB wO w.heap.size x.v x.r) := Lib.hid (by
                    obtain ⟨a1, a2, a3, a4, a5⟩ := HX.out
                    have hat := (split_at L X a3).2
                    rw [a4, HON.out] at hat
                    obtain ⟨hj, hje⟩ := List.getElem?_eq_some_iff.1 hat.symm
                    refine ⟨?_, by rw [List.length_append, a2]; rfl, by omega, ?_, fun x hx => ?_⟩
                    · rw [List.map_append, a1, List.take_succ_eq_append_getElem hj, hje]; rfl
                    · rw [whole_next hat.symm, a4, HLr.out]; omega
                    · rcases List.mem_append.1 hx with h | h
                      · exact HRf.out _ _ (((a5 x h).below HBn.out).below (below_one w4.drew (.cells #[.slice pA N capA] 23)))
                      · rw [List.mem_singleton] at h; subst h
                        exact HRf.out _ _ (H0d.out.below (below_one w4.drew (.cells #[.slice pA N capA] 23))))
                  have HOn : Hid (wO.ownsRow w.heap.size 23 1 (.slice pO (X + 1) cO) (X + 1) ((xs ++ [(⟨.slice pA N capA, r0, 0⟩ : Fx)]).map Fx.v)) := Lib.hid (by rw [List.map_append]; exact HOf.out)
                  obtain ⟨ys, hys⟩ : ∃ ys, xs ++ [(⟨.slice pA N capA, r0, 0⟩ : Fx)] = ys := ⟨_, rfl⟩
                  rw [hys] at HXn HOn
                  clear hys HOf HRf H0d HOd HLd HLa HBn HX HON HLr HMy HO4
                  go_wp2_with fail
                  go_roundw
                  case rel => exact ⟨X + 1, n + N + 8, pO, cO, ys, by omega, by omega, rfl, by go_num, HXn, HOn, HLf⟩
                  case measure => simp [intOf]; omega
                · have HZ := Lib.hid (HEND.out (HOE.out.2 hFG))
                  have hba : ¬ (⟨F.toArray⟩ : ByteArray) = ⟨G.toArray⟩ := fun e => hFG (by injection e with e; exact congrArg Array.toList e)
                  have hbb : (F == G) = false := beq_eq_false_iff_ne.2 hFG
                  have rt := hRT.out
                  clear HEND HOE HX HO HL
                  go_wp2_with fail
                  go_region
                  have HBn := Lib.hid HB4.out.drew
                  go_wp2_with fail
                  go_ret2
                  rw [HZ.out.1]
                  exact ⟨_, rfl, HZ.out.2 _ HBn.out⟩
        · have hf := HFAR.out (by rw [HN.out]; omega)
          have HZ := Lib.hid hf
          have k3i : ¬ ((x3 : Int) = 0) := by omega
          subst k2
          clear HEND HX HO HL HFAR hf hN HN
          go_wp2_with fail
          go_ret2
          rw [HZ.out.1]
          exact ⟨_, rfl, HZ.out.2 _ (Below.refl _ _)⟩
      · have hf := HFAR.out (by rw [HN.out]; omega)
        have HZ := Lib.hid hf
        have k2i : ¬ ((x2 : Int) = 0) := by omega
        clear HEND HX HO HL HFAR hf hN HN
        go_wp2_with fail
        go_ret2
        rw [HZ.out.1]
        exact ⟨_, rfl, HZ.out.2 _ (Below.refl _ _)⟩
end Go.Proofs.YtelocbohiddpgaaGreatDoor.Crc
