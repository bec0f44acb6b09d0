/- The document's PutPred. -/
import Derived.Test.YtkfheodcmhodpaaVe
import Derived.Test.YtkfheodcmhodpaaTt
import Derived.Test.YtkfheodcmhodpaaRMd
set_option linter.unusedSimpArgs false
set_option linter.unusedVariables false
namespace Go.Proofs.Ytkfheodcmhodpaa.Gm
open Go Go.RowKit
attribute [local go_sem ↓] Go.wp_at_zero Go.wp_at_succ

/-- What a call leaves that lays S behind a row of the call's own: a longer row. -/
def PutQ (S : List UInt8) (A : Nat) (L : List UInt8) (w : World) (e : Ending) (w' : World) : Prop := ∃ (p : Option Addr) (N c : Nat), e = .returned (.slice p N c) ∧ (L ++ S).length = N ∧ OwnB w' A (.slice p N c) (L ++ S) ∧ Below A w w'
theorem PutB.q {S L : List UInt8} {A : Nat} {v : Value} {w : World} (hO : OwnB w A v L) (hb : A ≤ w.heap.size) {e : Ending} {w' : World} (h : PutB S A v L w e w') : PutQ S A L w e w' := by
  obtain ⟨v', rfl, ho, hg, _⟩ := h
  obtain ⟨p, c, rfl⟩ := ho.form
  exact ⟨p, _, c, rfl, rfl, ho, grown_old hg hb (fun g hg => (World.ownsRow.lt hO g hg).1)⟩
theorem formNS_len {s : ByteArray} {o : Nat} (hs : s.size ≤ 16) (ho : o ≤ 9) : (formS s).length ≤ 26 ∧ (formN o).length ≤ 10 := ⟨formS_len hs (by decide), (formN_length (by omega)).2⟩
set_option maxHeartbeats 16000000 in
set_option maxRecDepth 20000 in
theorem qputpred_any (v : Value) (l : List Cn) (w : World) (hS : Cs w v l) (hf : FitsP l) : Calls Try.prog 19 #[v] w (PutR (putP l) w) := by
  have HM := Lib.hid (rmaypr_any v l w hS)
  obtain ⟨pv, cv, hv⟩ := hS.1.form
  have HP : Hid (putP l = if mayPr l = true then some (formPz (toPz l)) else none) := Lib.hid rfl
  cases hm : mayPr l
  · rw [hm] at HM HP
    have HP2 : Hid (putP l = none) := Lib.hid HP.out
    subst hv
    clear hm HP hf hS
    go_enter Try.func19, Try.ntmps19
    go_wp2_with fail
    refine HM.out.mono ?_; rintro e w1 ⟨rfl, b1⟩
    go_wp2_with fail
    go_ret2
    exact ⟨_, by rw [HP2.out]; rfl, by rw [HP2.out]; exact OwnB.nil _ _, b1⟩
  · rw [hm] at HM HP
    have HP2 : Hid (putP l = some (formPz (toPz l))) := Lib.hid HP.out
    have hmp : l.length ≤ 6 ∧ ∀ c ∈ l, mayCn c = true := by
      simp only [mayPr, Bool.and_eq_true, decide_eq_true_eq, List.all_eq_true] at hm
      exact hm
    have hW : ∀ c ∈ l, WfCz (toCz c) ∧ c.op = (c.op.toNat : Int) ∧ (c.op ≠ 1 → c.op ≠ 9 → c.v.k ≠ 0) ∧ ∀ v ∈ c.set, v.k ≠ 0 := fun c hc => may_wfc (hmp.2 c hc) (hf c hc)
    have hl6 := hmp.1
    have HW := Lib.hid hW
    have HSW := Lib.hid hS
    obtain ⟨A, hA⟩ : ∃ A, w.heap.size = A := ⟨_, rfl⟩
    have HA := Lib.hid hA
    obtain ⟨n, hn⟩ : ∃ n, l.length = n := ⟨_, rfl⟩
    rw [hn] at hv hl6
    have Hn := Lib.hid hn
    subst hv
    clear hm HP hf hS hmp hW hn hA
    go_enter Try.func19, Try.ntmps19
    go_wp2_with fail
    refine HM.out.mono ?_; rintro e w1 ⟨rfl, b1⟩
    rw [HA.out] at b1
    have HB1 := Lib.hid b1
    have hwl : IntKind.u64.wrap (n : Int) = (n : Int) := by rw [IntKind.wrap_u64]; omega
    have hz1 : A ≤ w1.heap.size := by have := b1.size; have := HA.out; omega
    clear b1
    go_wp2_with fail
    refine ((qnum_any A (.slice none 0 0) [] n (by omega) w1 (OwnB.nil _ _) hz1 (by simp)).mono (fun e w' h => PutB.q (OwnB.nil _ _) hz1 h)).mono ?_; rintro e w2 ⟨p2, N2, c2, rfl, hN2, ho2, b2⟩
    rw [List.nil_append] at hN2 ho2
    have HN2 := Lib.hid hN2
    have HO2 := Lib.hid ho2
    have HB2 := Lib.hid (HB1.out.trans b2)
    clear hN2 ho2 b2 hwl HM
    go_wp2_with fail
    go_loopw [4, 5] (fun bv iv wr => ∃ (i : Nat) (pb : Option Addr) (cb Nb : Nat), i ≤ n ∧ iv = .int .i64 i ∧ bv = .slice pb Nb cb ∧ Hid ((formN n ++ (l.take i).flatMap (fun c => formCz (toCz c))).length = Nb) ∧ Hid (OwnB wr A (.slice pb Nb cb) (formN n ++ (l.take i).flatMap (fun c => formCz (toCz c)))) ∧ Hid (Below A w wr)) (fun _ iv _ => n - (intOf iv).toNat)
    case atStart => exact ⟨0, p2, c2, N2, Nat.zero_le _, rfl, rfl, Lib.hid (by rw [List.take_zero, List.flatMap_nil, List.append_nil]; exact HN2.out), Lib.hid (by rw [List.take_zero, List.flatMap_nil, List.append_nil]; exact HO2.out), HB2⟩
    case round =>
      obtain ⟨i, pb, cb, Nb, hi, rfl, rfl, HNb, HO, HB⟩ := hrel
      obtain ⟨wo, rfl⟩ : ∃ wo : World, wo = wr := ⟨_, rfl⟩
      by_cases hin : i < n
      · have hil : i < l.length := by rw [Hn.out]; exact hin
        have hCs : Cs wo (.slice pv n cv) l := HSW.out.later (by rw [HA.out]; exact HB.out)
        obtain ⟨pq, cq, g, o, hvq, hp, hgb, h7⟩ := seven_at hCs.1 hil
        simp only [Value.slice.injEq] at hvq
        obtain ⟨hv1, hv2, hv3⟩ := hvq
        subst hv1 hv3
        clear hv2
        have hgA : g < A := by
          obtain ⟨pq2, cq2, g2, o2, hvq2, hp2, hgb2, _⟩ := seven_at HSW.out.1 hil
          simp only [Value.slice.injEq] at hvq2
          obtain ⟨hv1, _, hv3⟩ := hvq2
          subst hv1 hv3
          rw [hp] at hp2
          simp only [Option.some.injEq, Addr.mk.injEq] at hp2
          rw [HA.out] at hgb2
          omega
        have hidx := idx_c3 pv g o n cv i hp hin
        have hmem : l.getD i default ∈ l := by rw [List.getD_eq_getElem?_getD, List.getElem?_eq_getElem hil]; exact List.getElem_mem hil
        obtain ⟨hw1, hw2, hw3, hw4⟩ := HW.out _ hmem
        have HTk : Hid ((l.take (i + 1)).flatMap (fun c => formCz (toCz c)) = (l.take i).flatMap (fun c => formCz (toCz c)) ++ formCz (toCz (l.getD i default))) := Lib.hid (flat_next (fun c => formCz (toCz c)) hil)
        have hVs : Vs w (l.getD i default).sv (l.getD i default).set := HSW.out.at hil
        obtain ⟨c, hcx⟩ : ∃ c, l.getD i default = c := ⟨_, rfl⟩
        rw [hcx] at h7 hw1 hw2 hw3 hw4 HTk hVs
        obtain ⟨nm, op, x, sp, sc, set⟩ := c
        obtain ⟨oo, hoo⟩ : ∃ oo, op.toNat = oo := ⟨_, rfl⟩
        simp only at hw2 hw3 hw4 hVs
        rw [hoo] at hw2
        subst hw2
        have hwz : WfCz ((nm, oo), x, set) := by have h := hw1; unfold toCz at h; simpa using h
        have hTz : toCz (⟨nm, (oo : Int), x, sp, sc, set⟩ : Cn) = ((nm, oo), x, set) := by unfold toCz; simp
        rw [hTz] at HTk
        clear hw1 hcx hmem hoo hTz hCs hil hp
        obtain ⟨m, hm⟩ : ∃ m, set.length = m := ⟨_, rfl⟩
        obtain ⟨q0, q1, q2, q3, q4, q5, q6⟩ := h7
        simp only [hm] at q0 q1 q2 q3 q4 q5 q6
        obtain ⟨M, hM⟩ : ∃ M, formN n ++ (l.take i).flatMap (fun c => formCz (toCz c)) = M := ⟨_, rfl⟩
        rw [hM] at HO HNb
        have hMl : M.length ≤ 20000 := by
          rw [← hM, List.length_append]
          have a2 := (formN_length (show n < 18446744073709551616 by omega)).2
          have a3 := flat_len (f := fun c => formCz (toCz c)) (n := 400) (l.take i) (fun a ha => formCz_len (HW.out a (List.mem_of_mem_take ha)).1)
          rw [List.length_take, Hn.out, Nat.min_eq_left (by omega)] at a3
          omega
        have HMx := Lib.hid hM
        clear hM
        have hnm := hwz.1.1
        have hop := hwz.1.2
        simp only at hnm hop
        obtain ⟨ln1, ln2⟩ := formNS_len hnm hop
        have hAw : A ≤ wo.heap.size := by have := HB.out.size; rw [HA.out] at this; exact this
        have HT := Lib.hid (fun W (h : Below wo.heap.size wo W) => ((qtext_any A (.slice pb Nb cb) M nm (by omega) W (HO.out.below h) (by have := h.size; omega) (by omega)).mono (fun e w' hh => PutB.q (HO.out.below h) (by have := h.size; omega) hh)))
        have HN := Lib.hid (fun W p N c' (ho : OwnB W A (.slice p N c') (M ++ formS nm)) (hz : A ≤ W.heap.size) => ((qnum_any A (.slice p N c') (M ++ formS nm) oo (by omega) W ho hz (by rw [List.length_append]; omega)).mono (fun e w' hh => PutB.q ho hz hh)))
        have hcv : IntKind.u64.wrap (oo : Int) = (oo : Int) := by rw [IntKind.wrap_u64]; omega
        have H6 := Lib.hid (show wo.drew.cell? ⟨g, o + i * 7, none⟩ = some (.string nm) ∧ wo.drew.cell? ⟨g, o + i * 7 + 1, none⟩ = some (.int .i64 oo) from ⟨q0, q1⟩)
        have HQ := Lib.hid (And.intro q2 (And.intro q3 (And.intro q4 (And.intro q5 (And.intro q1 q6)))))
        clear q0 q1 q2 q3 q4 q5 q6
        go_wp2_with fail
        go_region_held3 (fun w' => w'.cell? ⟨g, o + i * 7, none⟩ = some (.string nm) ∧ w'.cell? ⟨g, o + i * 7 + 1, none⟩ = some (.int .i64 oo)) (first | (with_reducible exact H6.out) | (with_reducible exact HX1) | (with_reducible exact HX2) | go_keep) (first | (go_at_call 50; refine (HT.out _ (by first | exact Below.refl _ _ | exact (Below.refl _ _).drew)).mono ?_; rintro e w3 ⟨p3, N3, c3, rfl, hN3, ho3, b3⟩; have HX1 : w3.cell? ⟨g, o + i * 7, none⟩ = some (.string nm) ∧ w3.cell? ⟨g, o + i * 7 + 1, none⟩ = some (.int .i64 oo) := ⟨(b3.cell (p := ⟨g, o + i * 7, none⟩) hgA).trans H6.out.1, (b3.cell (p := ⟨g, o + i * 7 + 1, none⟩) hgA).trans H6.out.2⟩; have hz3 : A ≤ w3.heap.size := (by have := b3.size; simp at this; omega); have HO3 := Lib.hid ho3; have HB3 : Hid (Below A wo w3) := Lib.hid ⟨b3.os, b3.tape, b3.output, b3.size, b3.block⟩; clear ho3 b3 hN3) | (go_at_call 49; refine (HN.out _ p3 N3 c3 HO3.out hz3).mono ?_; rintro e w4 ⟨p4, N4, c4, rfl, hN4, ho4, b4⟩; have HX2 : w4.cell? ⟨g, o + i * 7, none⟩ = some (.string nm) ∧ w4.cell? ⟨g, o + i * 7 + 1, none⟩ = some (.int .i64 oo) := ⟨(b4.cell (p := ⟨g, o + i * 7, none⟩) hgA).trans HX1.1, (b4.cell (p := ⟨g, o + i * 7 + 1, none⟩) hgA).trans HX1.2⟩))
        have HO4 := Lib.hid ho4
        have HN4 := Lib.hid hN4
        have bW : Below A wo w4 := HB3.out.trans b4
        have HBW := Lib.hid bW
        have HB4 := Lib.hid (HB.out.trans bW)
        have hz4 : A ≤ w4.heap.size := by have := b4.size; omega
        have r1 := (bW.cell (p := ⟨g, o + i * 7 + 1, none⟩) hgA).trans HQ.out.2.2.2.2.1
        obtain ⟨M4, hM4⟩ : ∃ M4, M ++ formS nm ++ formN oo = M4 := ⟨_, rfl⟩
        rw [hM4] at HO4 HN4
        have HM4 := Lib.hid hM4
        have hM4l : M4.length ≤ 30000 := by rw [← hM4, List.length_append, List.length_append]; omega
        have HEnd : Hid (∀ S, formCt oo (x, set) = S → M4 ++ S = formN n ++ (l.take (i + 1)).flatMap (fun c => formCz (toCz c))) := Lib.hid (fun S hS => by
          rw [HTk.out, ← List.append_assoc, HMx.out, ← HM4.out, ← hS]
          show _ = M ++ ((formS nm ++ formN oo) ++ formCt oo (x, set))
          simp only [List.append_assoc])
        have Hct := Lib.hid hwz.2
        clear ho4 b4 hN4 HX1 HX2 bW hM4 HT HN HO3 HB3 HO HNb H6 HB
        simp only at Hct
        by_cases h9 : oo = 9
        · subst h9
          have hset : set.length ≤ 6 ∧ ∀ v ∈ set, WfV v := by
            have h := Hct.out
            unfold WfCt at h
            rw [if_pos rfl] at h
            exact h.2
          rw [hm] at hset
          have hwm : IntKind.u64.wrap (m : Int) = (m : Int) := by rw [IntKind.wrap_u64]; omega
          have r6 := (HBW.out.cell (p := ⟨g, o + i * 7 + 6, none⟩) hgA).trans HQ.out.2.2.2.2.2
          have HCt : Hid (formCt 9 (x, set) = formN m ++ set.flatMap formVl) := Lib.hid (by unfold formCt; rw [if_pos rfl, hm])
          have hm6 := hset.1
          have HWV := Lib.hid hset.2
          have Hmm := Lib.hid hm
          clear hset hm
          go_wp2_with fail
          refine ((qnum_any A (.slice p4 N4 c4) M4 m (by omega) w4 HO4.out hz4 (by omega)).mono (fun e w' hh => PutB.q HO4.out hz4 hh)).mono ?_; rintro e w5 ⟨p5, N5, c5, rfl, hN5, ho5, b5⟩
          have HN5 := Lib.hid hN5
          have HO5 := Lib.hid ho5
          have HB5 := Lib.hid (HBW.out.trans b5)
          have HBx := Lib.hid (HB4.out.trans b5)
          clear hN5 ho5 b5 r1 r6 HO4 HN4 hwm
          go_wp2_with fail
          go_loopw [4, 6] (fun bv kv wq => ∃ (k : Nat) (pk : Option Addr) (ck Nk : Nat), k ≤ m ∧ kv = .int .i64 k ∧ bv = .slice pk Nk ck ∧ Hid ((M4 ++ (formN m ++ (set.take k).flatMap formVl)).length = Nk) ∧ Hid (OwnB wq A (.slice pk Nk ck) (M4 ++ (formN m ++ (set.take k).flatMap formVl))) ∧ Hid (Below A wo wq) ∧ Hid (Below A w wq)) (fun _ kv _ => m - (intOf kv).toNat)
          case atStart => exact ⟨0, p5, c5, N5, Nat.zero_le _, rfl, rfl, Lib.hid (by rw [List.take_zero, List.flatMap_nil, List.append_nil]; exact HN5.out), Lib.hid (by rw [List.take_zero, List.flatMap_nil, List.append_nil]; exact HO5.out), HB5, HBx⟩
          case round =>
            obtain ⟨k, pk, ck, Nk, hk, rfl, rfl, HNk, HOk, HBk, HBl⟩ := hrel
            have r6 := (HBk.out.cell (p := ⟨g, o + i * 7 + 6, none⟩) hgA).trans HQ.out.2.2.2.2.2
            by_cases hkm : k < m
            · have hks : k < set.length := by rw [Hmm.out]; exact hkm
              obtain ⟨pq, cq, g2, o2, hvq, hp2, hgb2, h4⟩ := four_at (hVs.later (by rw [HA.out]; exact HBl.out)).1 hks
              simp only [Value.slice.injEq] at hvq
              obtain ⟨hv1, hv2, hv3⟩ := hvq
              subst hv1 hv3
              clear hv2
              have hidx2 := idx_v1 sp g2 o2 m sc k hp2 hkm
              have hmem : set.getD k default ∈ set := by rw [List.getD_eq_getElem?_getD, List.getElem?_eq_getElem hks]; exact List.getElem_mem hks
              have hwv := HWV.out _ hmem
              have hv0 := hw4 _ hmem
              have hTk := flat_next formVl hks
              obtain ⟨y, hy⟩ : ∃ y, set.getD k default = y := ⟨_, rfl⟩
              rw [hy] at h4 hwv hv0 hTk
              obtain ⟨s0, s1, s2, s3⟩ := h4
              have HTk2 := Lib.hid hTk
              have hlk : ((set.take k).flatMap formVl).length ≤ 1000 := by
                have a3 := flat_len (f := formVl) (n := 52) (set.take k) (fun a ha => formVl_len (HWV.out a (List.mem_of_mem_take ha)))
                rw [List.length_take, Nat.min_eq_left (by omega)] at a3
                omega
              have hnm10 := (formN_length (show m < 18446744073709551616 by omega)).2
              have hzq : A ≤ wr.heap.size := by have := HBl.out.size; rw [HA.out] at this; exact this
              clear hmem hy hTk hp2
              go_wp2_with fail
              refine ((qvalue_any A (.slice pk Nk ck) (M4 ++ (formN m ++ (set.take k).flatMap formVl)) y hwv hv0 wr HOk.out hzq (by rw [List.length_append, List.length_append]; omega)).mono (fun e w' hh => PutB.q HOk.out hzq hh)).mono ?_; rintro e w6 ⟨p6, N6, c6, rfl, hN6, ho6, b6⟩
              have HN6 := Lib.hid hN6
              have HO6 := Lib.hid ho6
              have HB6 := Lib.hid (HBk.out.trans b6)
              have HB6' := Lib.hid (HBl.out.trans b6)
              have HA6 : Hid (M4 ++ (formN m ++ (set.take k).flatMap formVl) ++ formVl y = M4 ++ (formN m ++ (set.take (k + 1)).flatMap formVl)) := Lib.hid (by rw [HTk2.out]; simp only [List.append_assoc])
              clear hN6 ho6 b6 s0 s1 s2 s3 r6
              go_wp2_with fail
              go_roundw
              case rel => exact ⟨k + 1, p6, c6, N6, by omega, by simp, rfl, Lib.hid (by rw [← HA6.out]; exact HN6.out), Lib.hid (by rw [← HA6.out]; exact HO6.out), HB6, HB6'⟩
              case measure => simp [intOf]; omega
            · have hts : set.take k = set := List.take_of_length_le (by rw [Hmm.out]; omega)
              have hee := HEnd.out _ HCt.out
              have HNf : Hid ((formN n ++ (l.take (i + 1)).flatMap (fun c => formCz (toCz c))).length = Nk) := Lib.hid (by rw [← hee]; have h := HNk.out; rwa [hts] at h)
              have HOf : Hid (OwnB wr A (.slice pk Nk ck) (formN n ++ (l.take (i + 1)).flatMap (fun c => formCz (toCz c)))) := Lib.hid (by rw [← hee]; have h := HOk.out; rwa [hts] at h)
              clear hts hee HNk HOk
              go_wp2_with fail
              go_roundw
              case rel => exact ⟨i + 1, pk, ck, Nk, by omega, by simp, rfl, HNf, HOf, HBl⟩
              case measure => simp [intOf]; omega
        · have t9 : ((oo : Int) == 9) = false := by rw [beq_eq_false_iff_ne]; omega
          have t9n : (oo == 9) = false := by rw [beq_eq_false_iff_ne]; omega
          by_cases h1 : oo = 1
          · subst h1
            have hee := HEnd.out [] (by unfold formCt; rw [if_neg (by decide), if_pos rfl])
            rw [List.append_nil] at hee
            have HNf : Hid ((formN n ++ (l.take (i + 1)).flatMap (fun c => formCz (toCz c))).length = N4) := Lib.hid (by rw [← hee]; exact HN4.out)
            have HOf : Hid (OwnB w4 A (.slice p4 N4 c4) (formN n ++ (l.take (i + 1)).flatMap (fun c => formCz (toCz c)))) := Lib.hid (by rw [← hee]; exact HO4.out)
            clear hee HN4 HO4
            go_wp2_with fail
            go_roundw
            case rel => exact ⟨i + 1, p4, c4, N4, by omega, by simp, rfl, HNf, HOf, HB4⟩
            case measure => simp [intOf]; omega
          · have t1 : ((oo : Int) == 1) = false := by rw [beq_eq_false_iff_ne]; omega
            have t1n : (oo == 1) = false := by rw [beq_eq_false_iff_ne]; omega
            have t1b : ((oo : Int) != 1) = true := by rw [bne_iff_ne]; omega
            have hwx : WfV x ∧ x.k ≠ 0 := by
              have h := Hct.out
              unfold WfCt at h
              rw [if_neg h9, if_neg h1] at h
              exact ⟨h.1, hw3 (by omega) (by omega)⟩
            have hee := HEnd.out (formVl x) (by unfold formCt; rw [if_neg h9, if_neg h1])
            have Hee := Lib.hid hee
            have r2 := (HBW.out.cell (p := ⟨g, o + i * 7 + 2, none⟩) hgA).trans HQ.out.1
            have r3 := (HBW.out.cell (p := ⟨g, o + i * 7 + 3, none⟩) hgA).trans HQ.out.2.1
            have r4 := (HBW.out.cell (p := ⟨g, o + i * 7 + 4, none⟩) hgA).trans HQ.out.2.2.1
            have r5 := (HBW.out.cell (p := ⟨g, o + i * 7 + 5, none⟩) hgA).trans HQ.out.2.2.2.1
            clear hee
            go_wp2_with fail
            refine ((qvalue_any A (.slice p4 N4 c4) M4 x hwx.1 hwx.2 w4 HO4.out hz4 (by omega)).mono (fun e w' hh => PutB.q HO4.out hz4 hh)).mono ?_; rintro e w6 ⟨p6, N6, c6, rfl, hN6, ho6, b6⟩
            have HN6 := Lib.hid hN6
            have HO6 := Lib.hid ho6
            have HB6 := Lib.hid (HB4.out.trans b6)
            clear hN6 ho6 b6 r1 r2 r3 r4 r5
            go_wp2_with fail
            go_roundw
            case rel => exact ⟨i + 1, p6, c6, N6, by omega, by simp, rfl, Lib.hid (by rw [← Hee.out]; exact HN6.out), Lib.hid (by rw [← Hee.out]; exact HO6.out), HB6⟩
            case measure => simp [intOf]; omega
      · have hts : l.take i = l := List.take_of_length_le (by rw [Hn.out]; omega)
        have HOf : Hid (OwnB wo A (.slice pb Nb cb) (formPz (toPz l))) := Lib.hid (by
          have h := HO.out
          rw [hts] at h
          unfold formPz toPz
          rw [List.length_map, Hn.out, List.flatMap_map]
          exact h)
        clear hts HO HNb
        go_wp2_with fail
        go_ret2
        exact ⟨_, by rw [HP2.out]; rfl, by rw [HP2.out, HA.out]; exact HOf.out, by rw [HA.out]; exact HB.out⟩
end Go.Proofs.Ytkfheodcmhodpaa.Gm
