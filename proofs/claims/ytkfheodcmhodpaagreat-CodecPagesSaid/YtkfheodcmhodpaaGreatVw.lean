/- The document's PutPage. -/
import Derived.Test.YtkfheodcmhodpaaGreatVu
set_option linter.unusedSimpArgs false
set_option linter.unusedVariables false
namespace Go.Proofs.YtkfheodcmhodpaaGreat.Gm
open Go Go.RowKit
attribute [local go_sem ↓] Go.wp_at_zero Go.wp_at_succ

/-- What a call leaves that lays S behind a row of the call's own: a longer row. -/
def PutG (S : List UInt8) (A : Nat) (L : List UInt8) (w : World) (e : Ending) (w' : World) : Prop := ∃ (p : Option Addr) (N c : Nat), e = .returned (.slice p N c) ∧ (L ++ S).length = N ∧ OwnB w' A (.slice p N c) (L ++ S) ∧ Below A w w'
theorem PutB.g {S L : List UInt8} {A : Nat} {v : Value} {w : World} (hO : OwnB w A v L) (hb : A ≤ w.heap.size) {e : Ending} {w' : World} (h : PutB S A v L w e w') : PutG S A L w e w' := by
  obtain ⟨v', rfl, ho, hg, _⟩ := h
  obtain ⟨p, c, rfl⟩ := ho.form
  exact ⟨p, _, c, rfl, rfl, ho, grown_old hg hb (fun g hg => (World.ownsRow.lt hO g hg).1)⟩
theorem SlB.mono {base base' : Nat} {w : World} {v : Value} {l : List Attr} (h : SlB base w v l) (hb : base ≤ base') : SlB base' w v l := by
  obtain ⟨p, cap, b, o, h1, h2, h3, h4⟩ := h
  exact ⟨p, cap, b, o, h1, fun hl => ⟨(h2 hl).1, Nat.lt_of_lt_of_le (h2 hl).2 hb⟩, h3, h4⟩
theorem numG (A : Nat) (p : Option Addr) (N c : Nat) (L : List UInt8) (n : Nat) (hn : n < 18446744073709551616) (W : World) (hO : OwnB W A (.slice p N c) L) (hz : A ≤ W.heap.size) (hl : L.length ≤ 100000000) : Calls Tryz.prog 14 #[.slice p N c, .int .u64 n] W (PutG (formN n) A L W) :=
  (qnum_any A _ L n hn W hO hz hl).mono (fun e w' h => PutB.g hO hz h)
theorem cell_below {A : Nat} {w w' : World} {P i : Nat} {u : Value} (h : w.cell? ⟨P, i, none⟩ = some u) (hb : Below A w w') (hP : P < A) : w'.cell? ⟨P, i, none⟩ = some u := (hb.cell (p := ⟨P, i, none⟩) hP).trans h
set_option maxHeartbeats 16000000 in
set_option maxRecDepth 20000 in
theorem qputpage_any (p : Pm) (w : World) (hP : PgIn w p) : Calls Tryz.prog 5 #[pp p] w (PutR (putG p) w) := by
  have HMay := Lib.hid (fun W (h : Below w.heap.size w W) => qmaypage_any p W (hP.later h))
  have HG := Lib.hid (show putG p = if mayPg (toPg p) = true then some (formPg (toPg p)) else none from rfl)
  have hwf : mayPg (toPg p) = true → WfPg (toPg p) ∧ ∀ x ∈ p.its, ∀ a ∈ x.at_, a.k ≠ 0 := fun hm => by
    obtain ⟨a1, a2⟩ := may_wfg hm (fun x hx a ha => by
      obtain ⟨y, hy, rfl⟩ := List.mem_map.1 hx
      exact (((hP.1.2.2 y hy).2.1) a ha).1)
    exact ⟨a1, fun x hx a ha => (a2 (toIt x) (List.mem_map_of_mem hx)).2 a ha⟩
  have HWf := Lib.hid hwf
  clear hwf
  obtain ⟨fr, en, ip, ic, its, gp, gc, gps, last⟩ := p
  obtain ⟨⟨hI1, hI2, hI3⟩, ⟨hG1, hG2, hG3⟩, hfr, hen⟩ := hP
  simp only [Pm.iv, Pm.gv] at hI1 hG1 hI2 hG2 hI3 hG3 hfr hen
  obtain ⟨_, _, bi, oi, hv, hpi, hCi⟩ := hI1
  simp only [Value.slice.injEq, true_and] at hv
  obtain ⟨rfl, rfl⟩ := hv
  obtain ⟨_, _, bg, og, hv, hpg, hCg⟩ := hG1
  simp only [Value.slice.injEq, true_and] at hv
  obtain ⟨rfl, rfl⟩ := hv
  have HPi := Lib.hid hpi
  have HPg := Lib.hid hpg
  have HCi := Lib.hid hCi
  have HCg := Lib.hid hCg
  have HI3 := Lib.hid (fun k (hk : k < its.length) => (hI3 _ (mem_getD hk)))
  have HG3 := Lib.hid (fun k (hk : k < gps.length) => (hG3 _ (mem_getD hk)))
  clear hpi hpg hCi hCg hI3 hG3
  obtain ⟨ni, hni⟩ : ∃ ni, its.length = ni := ⟨_, rfl⟩
  obtain ⟨ng, hng⟩ : ∃ ng, gps.length = ng := ⟨_, rfl⟩
  have Hni := Lib.hid hni
  have Hng := Lib.hid hng
  rw [show pp ⟨fr, en, ip, ic, its, gp, gc, gps, last⟩ = .agg #[.int .u64 fr, .int .u64 en, .slice ip ni ic, .slice gp ng gc, .bool last] by rw [← hni, ← hng]] at HMay ⊢
  have HB0 := Lib.hid (below_one w (.cells #[.int .u64 fr, .int .u64 en, .slice ip ni ic, .slice gp ng gc, .bool last] 26))
  have HK0 := Lib.hid (Blk.new w 26 #[.int .u64 fr, .int .u64 en, .slice ip ni ic, .slice gp ng gc, .bool last])
  clear hI2 hG2 hni hng
  obtain ⟨P, hPP⟩ : ∃ P, w.heap.size = P := ⟨_, rfl⟩
  have HPP := Lib.hid hPP
  cases hm : mayPg (toPg ⟨fr, en, ip, ic, its, gp, gc, gps, last⟩) with
  | false =>
    rw [hm] at HMay HG
    have HP2 : Hid (putG ⟨fr, en, ip, ic, its, gp, gc, gps, last⟩ = none) := Lib.hid HG.out
    clear hm HG HWf hPP
    go_enter Tryz.func5, Tryz.ntmps5
    go_wp2_with fail
    refine (HMay.out _ HB0.out).mono ?_; rintro e w1 ⟨rfl, b1⟩
    have HB1 := Lib.hid (then_ HB0.out b1)
    clear b1
    go_wp2_with fail
    go_ret2
    exact ⟨_, by rw [HP2.out]; rfl, by rw [HP2.out]; exact OwnB.nil _ _, HB1.out⟩
  | true =>
    rw [hm] at HMay HG
    have HP2 : Hid (putG ⟨fr, en, ip, ic, its, gp, gc, gps, last⟩ = some (formPg (toPg ⟨fr, en, ip, ic, its, gp, gc, gps, last⟩))) := Lib.hid HG.out
    obtain ⟨hwg, hk0⟩ := HWf.out hm
    obtain ⟨hx1, hx2, ⟨hx3, hx4⟩, ⟨hx5, hx6⟩, _⟩ := hwg
    simp only [toPg, List.length_map] at hx1 hx2 hx3 hx5 hx6
    simp only [toPg] at hx4
    have HWI := Lib.hid (fun k (hk : k < its.length) => And.intro (hx4 _ (List.mem_map_of_mem (f := toIt) (mem_getD hk))) (hk0 _ (mem_getD hk)))
    have HWG := Lib.hid (fun k (hk : k < gps.length) => hx6 _ (mem_getD hk))
    have HWIa := Lib.hid hx4
    have HWGa := Lib.hid hx6
    rw [Hni.out] at hx3
    rw [Hng.out] at hx5
    clear hm HG HWf hPP hx4 hx6 hk0
    go_enter Tryz.func5, Tryz.ntmps5
    go_wp2_with fail
    refine (HMay.out _ HB0.out).mono ?_; rintro e w1 ⟨rfl, b1⟩
    rw [HPP.out]
    have HB1 : Hid (Below P w w1) := Lib.hid (by have h := then_ HB0.out b1; rwa [HPP.out] at h)
    have HK1 : Hid (Blk w1 P 26 #[.int .u64 fr, .int .u64 en, .slice ip ni ic, .slice gp ng gc, .bool last]) := Lib.hid (by have h := HK0.out.later b1; rwa [HPP.out] at h)
    have hz1 : P + 1 ≤ w1.heap.size := HK1.out.lt
    have H1 := Lib.hid (show w1.drew.cell? ⟨P, 0, none⟩ = some (.int .u64 fr) ∧ w1.drew.cell? ⟨P, 1, none⟩ = some (.int .u64 en) ∧ w1.drew.cell? ⟨P, 2, none⟩ = some (.slice ip ni ic) from ⟨HK1.out.cell 0 rfl, HK1.out.cell 1 rfl, HK1.out.cell 2 rfl⟩)
    have hwi : IntKind.u64.wrap (ni : Int) = (ni : Int) := by rw [IntKind.wrap_u64]; omega
    have hwg : IntKind.u64.wrap (ng : Int) = (ng : Int) := by rw [IntKind.wrap_u64]; omega
    have lf := (formN_length (show fr < 18446744073709551616 by omega)).2
    have le := (formN_length (show en < 18446744073709551616 by omega)).2
    have li := (formN_length (show ni < 18446744073709551616 by omega)).2
    have lg := (formN_length (show ng < 18446744073709551616 by omega)).2
    have HN1 := Lib.hid (fun W (hz : P + 1 ≤ W.heap.size) => numG (P + 1) none 0 0 [] fr (by omega) W (OwnB.nil _ _) hz (by simp))
    have HN2 := Lib.hid (fun W p N c (ho : OwnB W (P + 1) (.slice p N c) (formN fr)) (hz : P + 1 ≤ W.heap.size) => numG (P + 1) p N c (formN fr) en (by omega) W ho hz (by omega))
    have HN3 := Lib.hid (fun W p N c (ho : OwnB W (P + 1) (.slice p N c) (formN fr ++ formN en)) (hz : P + 1 ≤ W.heap.size) => numG (P + 1) p N c (formN fr ++ formN en) ni (by omega) W ho hz (by rw [List.length_append]; omega))
    clear b1 HK0 HMay
    go_wp2_with fail
    go_region_held3 (fun w' => w'.cell? ⟨P, 0, none⟩ = some (.int .u64 fr) ∧ w'.cell? ⟨P, 1, none⟩ = some (.int .u64 en) ∧ w'.cell? ⟨P, 2, none⟩ = some (.slice ip ni ic)) (first | (with_reducible exact H1.out) | (with_reducible exact HX1) | (with_reducible exact HX2) | (with_reducible exact HX3) | go_keep) (first | (go_at_call 14; refine (HN3.out _ p3 N3 c3 HO3.out hz3).mono ?_; rintro e w4 ⟨p4, N4, c4, rfl, hN4, ho4, b4⟩; have HX3 : w4.cell? ⟨P, 0, none⟩ = some (.int .u64 fr) ∧ w4.cell? ⟨P, 1, none⟩ = some (.int .u64 en) ∧ w4.cell? ⟨P, 2, none⟩ = some (.slice ip ni ic) := ⟨cell_below HX2.1 b4 (by omega), cell_below HX2.2.1 b4 (by omega), cell_below HX2.2.2 b4 (by omega)⟩) | (go_at_call 14; refine (HN2.out _ p2 N2 c2 HO2.out hz2).mono ?_; rintro e w3 ⟨p3, N3, c3, rfl, hN3, ho3, b3⟩; have HX2 : w3.cell? ⟨P, 0, none⟩ = some (.int .u64 fr) ∧ w3.cell? ⟨P, 1, none⟩ = some (.int .u64 en) ∧ w3.cell? ⟨P, 2, none⟩ = some (.slice ip ni ic) := ⟨cell_below HX1.1 b3 (by omega), cell_below HX1.2.1 b3 (by omega), cell_below HX1.2.2 b3 (by omega)⟩; have hz3 : P + 1 ≤ w3.heap.size := (by have := b3.size; omega); have HO3 := Lib.hid ho3; have HB3 := Lib.hid b3; clear ho3 b3 hN3) | (go_at_call 14; refine (HN1.out _ (by first | exact hz1 | (simp; exact hz1))).mono ?_; rintro e w2 ⟨p2, N2, c2, rfl, hN2, ho2, b2⟩; have HX1 : w2.cell? ⟨P, 0, none⟩ = some (.int .u64 fr) ∧ w2.cell? ⟨P, 1, none⟩ = some (.int .u64 en) ∧ w2.cell? ⟨P, 2, none⟩ = some (.slice ip ni ic) := ⟨cell_below H1.out.1 b2 (by omega), cell_below H1.out.2.1 b2 (by omega), cell_below H1.out.2.2 b2 (by omega)⟩; have hz2 : P + 1 ≤ w2.heap.size := (by have := b2.size; simp at this; omega); have HO2 := Lib.hid ho2; have HB2 : Hid (Below (P + 1) w1 w2) := Lib.hid ⟨b2.os, b2.tape, b2.output, b2.size, b2.block⟩; clear ho2 b2 hN2))
    have HO4 := Lib.hid ho4
    have HN4 := Lib.hid hN4
    have HB4 := Lib.hid (HB2.out.trans (HB3.out.trans b4))
    have HF : Hid (formPg (toPg ⟨fr, en, ip, ic, its, gp, gc, gps, last⟩) = formN fr ++ formN en ++ formN ni ++ its.flatMap (fun x => formI (toIt x)) ++ formN ng ++ gps.flatMap formG ++ formN (bN last)) := Lib.hid (by
      show formN fr ++ (formN en ++ ((formN (its.map toIt).length ++ (its.map toIt).flatMap formI) ++ ((formN gps.length ++ gps.flatMap formG) ++ formN (bN last)))) = _
      rw [List.length_map, List.flatMap_map, Hni.out, Hng.out]
      simp only [List.append_assoc])
    obtain ⟨M0, hM0⟩ : ∃ M0, formN fr ++ formN en ++ formN ni = M0 := ⟨_, rfl⟩
    rw [hM0] at HO4 HN4 HF
    have hM0l : M0.length ≤ 30 := by rw [← hM0, List.length_append, List.length_append]; omega
    clear ho4 hN4 b4 hM0 H1 HX1 HX2 HX3 HN1 HN2 HN3 HO2 HO3 HB2 HB3 lf le li
    go_wp2_with fail
    go_loopw [4, 5] (fun bv iv wr => ∃ (i : Nat) (pb : Option Addr) (cb Nb : Nat), i ≤ ni ∧ iv = .int .i64 i ∧ bv = .slice pb Nb cb ∧ Hid ((M0 ++ (its.take i).flatMap (fun x => formI (toIt x))).length = Nb) ∧ Hid (OwnB wr (P + 1) (.slice pb Nb cb) (M0 ++ (its.take i).flatMap (fun x => formI (toIt x)))) ∧ Hid (Below (P + 1) w1 wr)) (fun _ iv _ => ni - (intOf iv).toNat)
    case atStart => exact ⟨0, p4, c4, N4, Nat.zero_le _, rfl, rfl, Lib.hid (by rw [List.take_zero, List.flatMap_nil, List.append_nil]; exact HN4.out), Lib.hid (by rw [List.take_zero, List.flatMap_nil, List.append_nil]; exact HO4.out), HB4⟩
    case round =>
      obtain ⟨i, pb, cb, Nb, hi, rfl, rfl, HNb, HO, HB⟩ := hrel
      have d2 := cell_below (HK1.out.cell 2 (u := .slice ip ni ic) rfl) HB.out (by omega)
      have BBr : Hid (Below P w wr) := Lib.hid (HB1.out.trans (HB.out.mono (by omega)))
      have hzr : P + 1 ≤ wr.heap.size := by have := HB.out.size; omega
      by_cases hin : i < ni
      · have hil : i < its.length := by rw [Hni.out]; exact hin
        have hne : its ≠ [] := by rintro rfl; simp at hil
        obtain ⟨hq, hb1⟩ := HPi.out hne
        rw [HPP.out] at hb1
        have hidx := idx_it ip bi oi ni ic i hq hin
        have e0 := (BBr.out.cell (p := ⟨bi, oi + i * 4, none⟩) hb1).trans (HCi.out i hil 0 _ rfl)
        have e1 := (BBr.out.cell (p := ⟨bi, oi + i * 4 + 1, none⟩) hb1).trans (HCi.out i hil 1 _ rfl)
        have e2 := (BBr.out.cell (p := ⟨bi, oi + i * 4 + 2, none⟩) hb1).trans (HCi.out i hil 2 _ rfl)
        have e3 := (BBr.out.cell (p := ⟨bi, oi + i * 4 + 3, none⟩) hb1).trans (HCi.out i hil 3 _ rfl)
        obtain ⟨hS, hR, hn64, ht64⟩ := HI3.out i hil
        obtain ⟨hwi2, hwk⟩ := HWI.out i hil
        have hTk := flat_next (fun x => formI (toIt x)) hil
        obtain ⟨x, hx⟩ : ∃ x, its.getD i default = x := ⟨_, rfl⟩
        rw [hx] at e0 e1 e2 e3 hS hR hn64 ht64 hwi2 hwk hTk
        obtain ⟨n, t, key, ap, ac, at_⟩ := x
        simp only at e0 e1 e2 e3 hS hwk
        have HTk := Lib.hid hTk
        have hlen : (its.take i).flatMap (fun x => formI (toIt x)) = (its.take i).flatMap (fun x => formI (toIt x)) ∧ ((its.take i).flatMap (fun x => formI (toIt x))).length ≤ 4000 := ⟨rfl, by
          have a3 := flat_len (f := fun x => formI (toIt x)) (n := 720) (its.take i) (fun a ha => formI_len (HWIa.out _ (List.mem_map_of_mem (List.mem_of_mem_take ha))))
          rw [List.length_take, Hni.out, Nat.min_eq_left (by omega)] at a3
          omega⟩
        have HSl := Lib.hid (((SlB.of hS).below (by rw [HPP.out]; exact BBr.out)).mono (show w.heap.size ≤ P + 1 by rw [HPP.out]; omega))
        have HC := Lib.hid (((qitem_any (P + 1) (.slice pb Nb cb) (M0 ++ (its.take i).flatMap (fun x => formI (toIt x))) n t key (.slice ap at_.length ac) at_ hwi2 hwk wr HO.out hzr HSl.out (by rw [List.length_append]; omega)).mono (fun e w' h => PutB.g HO.out hzr h)))
        obtain ⟨na, hna⟩ : ∃ na, at_.length = na := ⟨_, rfl⟩
        rw [hna] at e3 HC
        clear hx hq hTk hS hR hwi2 hwk hlen hna hne
        go_wp2_with fail
        refine HC.out.mono ?_; rintro e w5 ⟨p5, N5, c5, rfl, hN5, ho5, b5⟩
        have HN5 := Lib.hid hN5
        have HO5 := Lib.hid ho5
        have HB5 := Lib.hid (HB.out.trans b5)
        have HA5 : Hid (M0 ++ (its.take i).flatMap (fun x => formI (toIt x)) ++ formI (n, t, key, at_) = M0 ++ (its.take (i + 1)).flatMap (fun x => formI (toIt x))) := Lib.hid (by rw [HTk.out, List.append_assoc]; rfl)
        clear hN5 ho5 b5 d2 e0 e1 e2 e3
        go_wp2_with fail
        go_roundw
        case rel => exact ⟨i + 1, p5, c5, N5, by omega, by simp, rfl, Lib.hid (by rw [← HA5.out]; exact HN5.out), Lib.hid (by rw [← HA5.out]; exact HO5.out), HB5⟩
        case measure => simp [intOf]; omega
      · have hts : its.take i = its := List.take_of_length_le (by rw [Hni.out]; omega)
        rw [hts] at HO HNb
        have d3 := cell_below (HK1.out.cell 3 (u := .slice gp ng gc) rfl) HB.out (by omega)
        obtain ⟨M1, hM1⟩ : ∃ M1, M0 ++ its.flatMap (fun x => formI (toIt x)) = M1 := ⟨_, rfl⟩
        rw [hM1] at HO HNb HF
        have hM1l : M1.length ≤ 5000 := by
          rw [← hM1, List.length_append]
          have a3 := flat_len (f := fun x => formI (toIt x)) (n := 720) its (fun a ha => formI_len (HWIa.out _ (List.mem_map_of_mem ha)))
          rw [Hni.out] at a3
          omega
        have HC := Lib.hid (numG (P + 1) pb Nb cb M1 ng (by omega) wr HO.out hzr (by omega))
        clear hts hM1
        go_wp2_with fail
        refine HC.out.mono ?_; rintro e w5 ⟨p5, N5, c5, rfl, hN5, ho5, b5⟩
        have HN5 := Lib.hid hN5
        have HO5 := Lib.hid ho5
        have HB5 := Lib.hid (HB.out.trans b5)
        obtain ⟨M2, hM2⟩ : ∃ M2, M1 ++ formN ng = M2 := ⟨_, rfl⟩
        rw [hM2] at HO5 HN5 HF
        have hM2l : M2.length ≤ 5010 := by rw [← hM2, List.length_append]; omega
        clear hN5 ho5 b5 d2 d3 hM2 HO HNb HC
        go_wp2_with fail
        go_loopw [4, 6] (fun bv kv wr => ∃ (k : Nat) (pb : Option Addr) (cb Nb : Nat), k ≤ ng ∧ kv = .int .i64 k ∧ bv = .slice pb Nb cb ∧ Hid ((M2 ++ (gps.take k).flatMap formG).length = Nb) ∧ Hid (OwnB wr (P + 1) (.slice pb Nb cb) (M2 ++ (gps.take k).flatMap formG)) ∧ Hid (Below (P + 1) w1 wr)) (fun _ kv _ => ng - (intOf kv).toNat)
        case atStart => exact ⟨0, p5, c5, N5, Nat.zero_le _, rfl, rfl, Lib.hid (by rw [List.take_zero, List.flatMap_nil, List.append_nil]; exact HN5.out), Lib.hid (by rw [List.take_zero, List.flatMap_nil, List.append_nil]; exact HO5.out), HB5⟩
        case round =>
          obtain ⟨k, pb, cb, Nb, hk, rfl, rfl, HNb, HO, HB⟩ := hrel
          have d3 := cell_below (HK1.out.cell 3 (u := .slice gp ng gc) rfl) HB.out (by omega)
          have BBr : Hid (Below P w wr) := Lib.hid (HB1.out.trans (HB.out.mono (by omega)))
          have hzr : P + 1 ≤ wr.heap.size := by have := HB.out.size; omega
          by_cases hkn : k < ng
          · have hkl : k < gps.length := by rw [Hng.out]; exact hkn
            have hne : gps ≠ [] := by rintro rfl; simp at hkl
            obtain ⟨hq, hb1⟩ := HPg.out hne
            rw [HPP.out] at hb1
            have hidx := idx_gp gp bg og ng gc k hq hkn
            have e0 := (BBr.out.cell (p := ⟨bg, og + k * 2, none⟩) hb1).trans (HCg.out k hkl 0 _ rfl)
            have e1 := (BBr.out.cell (p := ⟨bg, og + k * 2 + 1, none⟩) hb1).trans (HCg.out k hkl 1 _ rfl)
            have hwg2 := HWG.out k hkl
            have hTk := flat_next formG hkl
            have hlen : ((gps.take k).flatMap formG).length ≤ 400 := by
              have a3 := flat_len (f := formG) (n := 20) (gps.take k) (fun a ha => formG_len (HWGa.out _ (List.mem_of_mem_take ha)))
              rw [List.length_take, Hng.out, Nat.min_eq_left (by omega)] at a3
              omega
            obtain ⟨z, hz⟩ : ∃ z, gps.getD k default = z := ⟨_, rfl⟩
            rw [hz] at e0 e1 hwg2 hTk
            obtain ⟨g1, g2⟩ := z
            simp only at e0 e1
            obtain ⟨hg1, hg2⟩ := hwg2
            simp only at hg1 hg2
            obtain ⟨M3, hM3⟩ : ∃ M3, M2 ++ (gps.take k).flatMap formG = M3 := ⟨_, rfl⟩
            rw [hM3] at HO HNb
            have hM3l : M3.length ≤ 6000 := by rw [← hM3, List.length_append]; omega
            have HTk : Hid (M3 ++ formN g1 ++ formN g2 = M2 ++ (gps.take (k + 1)).flatMap formG) := Lib.hid (by rw [hTk, ← hM3]; simp only [List.append_assoc]; rfl)
            have l1 := (formN_length (show g1 < 18446744073709551616 by omega)).2
            have HN1 := Lib.hid (fun W (h : Below wr.heap.size wr W) => numG (P + 1) pb Nb cb M3 g1 (by omega) W (HO.out.below h) (by have := h.size; omega) (by omega))
            have HN2 := Lib.hid (fun W p N c (ho : OwnB W (P + 1) (.slice p N c) (M3 ++ formN g1)) (hz : P + 1 ≤ W.heap.size) => numG (P + 1) p N c (M3 ++ formN g1) g2 (by omega) W ho hz (by rw [List.length_append]; omega))
            have H1 := Lib.hid (show wr.drew.cell? ⟨P, 3, none⟩ = some (.slice gp ng gc) ∧ wr.drew.cell? ⟨bg, og + k * 2, none⟩ = some (.int .u64 g1) ∧ wr.drew.cell? ⟨bg, og + k * 2 + 1, none⟩ = some (.int .u64 g2) from ⟨d3, e0, e1⟩)
            clear hz hq hTk hM3 hlen e0 e1 hne
            go_wp2_with fail
            go_region_held3 (fun w' => w'.cell? ⟨P, 3, none⟩ = some (.slice gp ng gc) ∧ w'.cell? ⟨bg, og + k * 2, none⟩ = some (.int .u64 g1) ∧ w'.cell? ⟨bg, og + k * 2 + 1, none⟩ = some (.int .u64 g2)) (first | (with_reducible exact H1.out) | (with_reducible exact HX1) | (with_reducible exact HX2) | go_keep) (first | (go_at_call 14; refine (HN2.out _ p6 N6 c6 HO6.out hz6).mono ?_; rintro e w7 ⟨p7, N7, c7, rfl, hN7, ho7, b7⟩; have HX2 : w7.cell? ⟨P, 3, none⟩ = some (.slice gp ng gc) ∧ w7.cell? ⟨bg, og + k * 2, none⟩ = some (.int .u64 g1) ∧ w7.cell? ⟨bg, og + k * 2 + 1, none⟩ = some (.int .u64 g2) := ⟨cell_below HX1.1 b7 (by omega), cell_below HX1.2.1 b7 (by omega), cell_below HX1.2.2 b7 (by omega)⟩) | (go_at_call 14; refine (HN1.out _ (by first | exact Below.refl _ _ | exact (Below.refl _ _).drew)).mono ?_; rintro e w6 ⟨p6, N6, c6, rfl, hN6, ho6, b6⟩; have HX1 : w6.cell? ⟨P, 3, none⟩ = some (.slice gp ng gc) ∧ w6.cell? ⟨bg, og + k * 2, none⟩ = some (.int .u64 g1) ∧ w6.cell? ⟨bg, og + k * 2 + 1, none⟩ = some (.int .u64 g2) := ⟨cell_below H1.out.1 b6 (by omega), cell_below H1.out.2.1 b6 (by omega), cell_below H1.out.2.2 b6 (by omega)⟩; have hz6 : P + 1 ≤ w6.heap.size := (by have := b6.size; simp at this; omega); have HO6 := Lib.hid ho6; have HB6 : Hid (Below (P + 1) wr w6) := Lib.hid ⟨b6.os, b6.tape, b6.output, b6.size, b6.block⟩; clear ho6 b6 hN6))
            have HO7 := Lib.hid ho7
            have HN7 := Lib.hid hN7
            have HB7 := Lib.hid (HB.out.trans (HB6.out.trans b7))
            clear ho7 hN7 b7 HX1 HX2 HB6 HO6 H1 HN1 HN2
            go_wp2_with fail
            go_roundw
            case rel => exact ⟨k + 1, p7, c7, N7, by omega, by simp, rfl, Lib.hid (by rw [← HTk.out]; exact HN7.out), Lib.hid (by rw [← HTk.out]; exact HO7.out), HB7⟩
            case measure => simp [intOf]; omega
          · have hts : gps.take k = gps := List.take_of_length_le (by rw [Hng.out]; omega)
            rw [hts] at HO HNb
            obtain ⟨M4, hM4⟩ : ∃ M4, M2 ++ gps.flatMap formG = M4 := ⟨_, rfl⟩
            rw [hM4] at HO HNb HF
            have hM4l : M4.length ≤ 6000 := by
              rw [← hM4, List.length_append]
              have a3 := flat_len (f := formG) (n := 20) gps (fun a ha => formG_len (HWGa.out _ ha))
              rw [Hng.out] at a3
              omega
            have d4 := cell_below (HK1.out.cell 4 (u := .bool last) rfl) HB.out (by omega)
            clear hts hM4
            cases last with
            | true =>
              have HC := Lib.hid (numG (P + 1) pb Nb cb M4 1 (by omega) wr HO.out hzr (by omega))
              go_wp2_with fail
              refine HC.out.mono ?_; rintro e w8 ⟨p8, N8, c8, rfl, hN8, ho8, b8⟩
              have HO8 := Lib.hid ho8
              have HB8 := Lib.hid (HB.out.trans b8)
              clear ho8 b8
              go_wp2_with fail
              go_ret2
              exact ⟨_, by rw [HP2.out]; rfl, by rw [HP2.out, HPP.out]; show OwnB _ _ _ (formPg _); rw [HF.out]; exact HO8.out.base (by omega), by rw [HPP.out]; exact HB1.out.trans (HB8.out.mono (by omega))⟩
            | false =>
              have HC := Lib.hid (numG (P + 1) pb Nb cb M4 0 (by omega) wr HO.out hzr (by omega))
              go_wp2_with fail
              refine HC.out.mono ?_; rintro e w8 ⟨p8, N8, c8, rfl, hN8, ho8, b8⟩
              have HO8 := Lib.hid ho8
              have HB8 := Lib.hid (HB.out.trans b8)
              clear ho8 b8
              go_wp2_with fail
              go_ret2
              exact ⟨_, by rw [HP2.out]; rfl, by rw [HP2.out, HPP.out]; show OwnB _ _ _ (formPg _); rw [HF.out]; exact HO8.out.base (by omega), by rw [HPP.out]; exact HB1.out.trans (HB8.out.mono (by omega))⟩
end Go.Proofs.YtkfheodcmhodpaaGreat.Gm
