/- Layer 10: the walk of DiskKeeps. -/
import Derived.Test.YtnhdnmlclnndoaaDlk
set_option linter.unusedSimpArgs false
set_option linter.unusedVariables false
namespace Go.Proofs.Ytnhdnmlclnndoaa.Gm
open Go Go.RowKit Go.Maps
attribute [local go_sem ↓] Go.wp_at_zero Go.wp_at_succ

theorem infoSl10 : (Try.prog.info? 31).map (fun i => (i.zero, i.size, i.bytes)) = some (some (.slice none 0 0), 1, 24) := by kernel_rfl
theorem infoInt10 : (Try.prog.info? 3).map (fun i => (i.zero, i.size, i.bytes)) = some (some (.int .i64 0), 1, 8) := by kernel_rfl
set_option maxHeartbeats 16000000 in
set_option maxRecDepth 100000 in
theorem law_dkeeps (v0 v1 v2 : Value) (l : List Act10) (P : List Nat) (T : List UInt8) (W : World) (hA : Acts W v0 l) (hP : P16 W v1 P) (hPl : P.length ≤ 140737488355328) (hP6 : ∀ k, P.getD k 0 < 65536) (hT : Bs W v2 T) (hTl : T.length ≤ 1048576) : Calls Try.prog 4 #[v0, v1, v2] W (Gives (.bool true) W) := by
  obtain ⟨i0, ii, iz0, iz1, iz2⟩ := info_parts infoSl10
  obtain ⟨j0, ji, jz0, jz1, jz2⟩ := info_parts infoInt10
  obtain ⟨p1, cap1, rfl⟩ := hA.form
  obtain ⟨pT, capT, rfl⟩ := hT.form
  obtain ⟨pP, capP, rfl, -⟩ := id hP
  have hll := hA.2.1
  have HNw := Lib.hid (new_yes 4194304 (by decide) W)
  have HA := Lib.hid hA
  have HP := Lib.hid hP
  have HP6 := Lib.hid hP6
  have HT := Lib.hid hT
  obtain ⟨nl, hnl⟩ : ∃ n, l.length = n := ⟨_, rfl⟩
  have HNL := Lib.hid hnl
  obtain ⟨nP, hnP⟩ : ∃ n, P.length = n := ⟨_, rfl⟩
  have HNP := Lib.hid hnP
  obtain ⟨nT, hnT⟩ : ∃ n, T.length = n := ⟨_, rfl⟩
  have HNT := Lib.hid hnT
  rw [hnl] at hll ⊢
  rw [hnP] at HP hPl ⊢
  rw [hnT] at HT hTl ⊢
  clear hA hnl hnP hnT hP hP6 hT
  go_enter Try.func4, Try.ntmps4
  go_wp2_with fail
  refine HNw.out.mono ?_; rintro e w1 ⟨g, bm, rfl, hD, hgl, hbl, b1⟩
  have HB1 := Lib.hid b1
  obtain ⟨B, hB⟩ : ∃ B, W.heap.size = B := ⟨_, rfl⟩
  have HBB := Lib.hid hB
  rw [hB] at hD HB1
  have HAw := Lib.hid (awake10 w1)
  have HD1 : Hid (DkAt B g bm 0 [] 4194304 (-1) false w1) := Lib.hid ⟨_, _, _, hD, rfl⟩
  have HBz1 : Hid (B ≤ w1.heap.size) := Lib.hid (by rw [← hB]; exact b1.size)
  clear hD hgl hbl b1 HNw hB
  go_wp2_with fail
  refine HAw.out.mono ?_; rintro e w2 ⟨rfl, b2⟩
  have HD2 := Lib.hid (HD1.out.later b2)
  have HB2 := Lib.hid (below_then HB1.out (b2.mono HBz1.out))
  have HBzW : Hid (B ≤ W.heap.size) := Lib.hid (by rw [HBB.out]; exact Nat.le_refl _)
  clear b2 HAw HD1 HB1 HBz1
  go_upto_block 0 with (fail)
  go_cut [9, 10] from 39 to 52 (fun t9 t10 wq => (∃ t V q, t < 1000 ∧ DkAt B g bm t V q (-1) false wq) ∧ Below B W wq)
  case first =>
    go_wp2_with fail
    go_loopw [39] (fun i wr => ∃ k : Nat, k ≤ nl ∧ k ≤ 100 ∧ i = .int .i64 k ∧ Hid (∃ V q, DkAt B g bm (2 * k) V q (-1) false wr) ∧ Hid (Below B W wr)) (fun i _ => nl - (intOf i).toNat)
    case atStart => exact ⟨0, by omega, by omega, rfl, Lib.hid ⟨_, _, HD2.out⟩, HB2⟩
    case round =>
      obtain ⟨k, hk, hk1, rfl, HDk, HBr⟩ := hrel
      clear HD2 HB2
      have HBz : Hid (B ≤ wr.heap.size) := Lib.hid (Nat.le_trans HBzW.out HBr.out.size)
      obtain ⟨V, q, hDk⟩ := HDk.out
      have HDV := Lib.hid hDk
      clear hDk
      by_cases hkl : k < nl
      · have hki : k < l.length := by rw [HNL.out]; exact hkl
        obtain ⟨pp, cc, bb, ob, hv, rfl, hbl, c0, c1, c2, c3, c4, c5, hAI⟩ := cell_act10 HA.out hki
        simp only [Value.slice.injEq] at hv
        obtain ⟨rfl, -, rfl⟩ := hv
        have hidx := idx_a10 _ bb ob nl cap1 k rfl hkl
        obtain ⟨x, hx⟩ : ∃ x, l.getD k default = x := ⟨_, rfl⟩
        rw [hx] at c0 c1 c2 c3 c4 c5 hAI
        obtain ⟨a, vb, vp⟩ := x
        simp only at c0 c1 c2 c3 c4 c5 hAI
        have hWr : Below W.heap.size W wr := by rw [HBB.out]; exact HBr.out
        have c0 := cell_later hWr c0
        have c1 := cell_later hWr c1
        have c2 := cell_later hWr c2
        have c3 := cell_later hWr c3
        have c4 := cell_later hWr c4
        have c5 := cell_later hWr c5
        have HAI := Lib.hid hAI
        obtain ⟨what, nm, ot, bs, an, P⟩ := a
        simp only at c0 c1 c2 c3 c4 c5
        obtain ⟨pb, cb, rfl⟩ := hAI.bs.form
        obtain ⟨pq, cq, rfl, -⟩ := id hAI.pk
        simp only at c3 c5
        have HDo := Lib.hid (fun X (h : Below wr.heap.size wr X) => do_any W B g bm _ V q _ false ⟨what, nm, ot, bs, an, P⟩ _ _ X (HDV.out.later h) HBB.out.symm (below_then HBr.out (h.mono HBz.out)) HAI.out (by omega))
        have HCalm := Lib.hid (fun (h : what ≠ 7) => act_calm V q ⟨what, nm, ot, bs, an, P⟩ h)
        unfold DoR at HDo
        obtain ⟨nb, hnb⟩ : ∃ n, bs.length = n := ⟨_, rfl⟩
        obtain ⟨np, hnp⟩ : ∃ n, P.length = n := ⟨_, rfl⟩
        obtain ⟨o, ho⟩ : ∃ o, actO V q (-1) false ⟨what, nm, ot, bs, an, P⟩ = o := ⟨_, rfl⟩
        rw [ho] at HCalm HDo
        simp only at HDo
        rw [hnb] at c3 HDo
        rw [hnp] at c5 HDo
        unfold encStr at c1 c2 HDo
        clear hAI hx hWr hnb hnp ho hki hbl
        by_cases h100 : k = 100
        · subst h100
          have hidx3 : ∀ X, (Instr.indexAt 22 (.slice (some ⟨bb, ob, none⟩) nl cap1) (.int .i64 100)).run Try.prog X = .ok (.pointer (some ⟨bb, ob + 100 * 6, none⟩)) X := fun X => by simpa using hidx X
          have hBx := below_one wr (.cells #[.int .i64 what, .string ⟨nm.toArray⟩, .string ⟨ot.toArray⟩, .slice pb nb cb, .int .i64 an, .slice pq np cq] 34)
          have HBx := Lib.hid (below_then HBr.out (hBx.mono HBz.out))
          have HDx := Lib.hid (HDV.out.later hBx)
          clear HDk HA HDo HAI HDV hBx hidx
          go_wp2_with fail
          go_meet
          exact ⟨⟨_, _, _, by omega, HDx.out⟩, HBx.out⟩
        · have hBx := below_one wr (.cells #[.int .i64 what, .string ⟨nm.toArray⟩, .string ⟨ot.toArray⟩, .slice pb nb cb, .int .i64 an, .slice pq np cq] 34)
          have K := Blk.new wr 34 #[.int .i64 what, .string ⟨nm.toArray⟩, .string ⟨ot.toArray⟩, .slice pb nb cb, .int .i64 an, .slice pq np cq]
          have HBx := Lib.hid (below_then HBr.out (hBx.mono HBz.out))
          have HDx := Lib.hid (HDV.out.later hBx)
          have HDo2 := Lib.hid (HDo.out _ hBx)
          obtain ⟨wx, hwx⟩ : ∃ wx, wr.alloc (.cells #[.int .i64 what, .string ⟨nm.toArray⟩, .string ⟨ot.toArray⟩, .slice pb nb cb, .int .i64 an, .slice pq np cq] 34) = wx := ⟨_, rfl⟩
          have hzx : (wr.alloc (.cells #[.int .i64 what, .string ⟨nm.toArray⟩, .string ⟨ot.toArray⟩, .slice pb nb cb, .int .i64 an, .slice pq np cq] 34)).heap.size = wr.heap.size + 1 := by simp
          rw [hwx] at K HBx HDx HDo2 hzx
          have e0 := K.cell 0 (u := .int .i64 what) rfl
          have e1 := K.cell 1 (u := .string ⟨nm.toArray⟩) rfl
          have e2 := K.cell 2 (u := .string ⟨ot.toArray⟩) rfl
          have e3 := K.cell 3 (u := .slice pb nb cb) rfl
          have e4 := K.cell 4 (u := .int .i64 an) rfl
          have e5 := K.cell 5 (u := .slice pq np cq) rfl
          clear K hBx HDV HDk HDo
          by_cases h7 : what = 7
          · have HDn : Hid (∃ V q, DkAt B g bm (2 * (k + 1)) V q (-1) false wx) := Lib.hid ⟨_, _, HDx.out.up (by omega)⟩
            subst h7
            clear HCalm HDo2
            go_wp2_with fail
            go_roundw
            case rel => exact ⟨k + 1, by omega, by omega, by go_num, HDn, HBx⟩
            case measure => simp [intOf]; omega
          · go_wp2_with fail
            refine HDo2.out.mono ?_; rintro e w3 ⟨rfl, hD3, b3⟩
            have HDn : Hid (∃ V q, DkAt B g bm (2 * (k + 1)) V q (-1) false w3) := Lib.hid ⟨o.V, o.q, by
              obtain ⟨h1, h2⟩ := HCalm.out h7
              rw [h1, h2] at hD3
              exact hD3.up (by omega)⟩
            have HBn := Lib.hid b3
            clear hD3 b3 HDo2 HCalm e0 e1 e2 e3 e4 e5
            go_wp2_with fail
            go_roundw
            case rel => exact ⟨k + 1, by omega, by omega, by go_num, HDn, HBn⟩
            case measure => simp [intOf]; omega
      · obtain rfl : k = nl := by omega
        clear HA HBz
        go_wp2_with fail
        go_meet
        exact ⟨⟨_, _, _, by omega, HDV.out⟩, HBr.out⟩
  case rest =>
    obtain ⟨⟨t, V, q, ht, hDk⟩, hB⟩ := hcut
    have HBc := Lib.hid hB
    obtain ⟨hf1, hf2, hf3, hf4, hf5, -, -, hf8⟩ := hDk.facts
    obtain ⟨nn, D, L, hDsk, hV⟩ := hDk
    have HDs := Lib.hid hDsk
    have HVw := Lib.hid hV
    obtain ⟨Z, hZ⟩ : ∃ Z, wc.heap.size = Z := ⟨_, rfl⟩
    have HZ := Lib.hid hZ
    have HNm := Lib.hid (Names_v hDsk)
    rw [hV] at HNm
    unfold namesV at HNm
    obtain ⟨NS, hNS⟩ : ∃ NS, V.map (·.1) = NS := ⟨_, rfl⟩
    simp only [Bool.false_eq_true, if_false] at HNm
    rw [hNS] at HNm
    have hnN : NS.length ≤ 512 := by rw [← hNS, List.length_map]; exact hf1
    have HRd : Hid (∀ k, k < NS.length → readC V (NS.getD k []) false = 0 ∧ readB V (NS.getD k []) false = (fileOf V (NS.getD k [])).1 ∧ (NS.getD k []).length ≤ 32 ∧ (fileOf V (NS.getD k [])).1.length ≤ 4194304) := Lib.hid (fun k hk => by
      have hin : NS.getD k [] ∈ V.map (·.1) := by rw [hNS, List.getD_eq_getElem?_getD, List.getElem?_eq_getElem hk]; exact List.getElem_mem hk
      obtain ⟨h1, h2⟩ := read_in hf8 hin
      exact ⟨h1, h2, hf3 _ hin, Nat.le_trans (file_le V _) hf2⟩)
    have HF4 := Lib.hid hf4
    have HF5 := Lib.hid hf5
    have HF8 := Lib.hid hf8
    have HNS := Lib.hid hNS
    clear hB hDsk hV hf1 hf2 hf3 hf4 hf5 hf8 hNS HA HD2 HB2 hll
    go_wp2_with fail
    refine HNm.out.mono ?_; rintro e w3 ⟨vn, rfl, hon, b3⟩
    rw [hZ] at hon b3
    obtain ⟨pn, cn, rfl⟩ := own_s hon
    have HK0 : Hid (K2 Z wc V NS (.slice pn NS.length cn) (.slice none 0 0) (.slice none 0 0) 0 0 [] w3) := Lib.hid ⟨hon, World.ownsRow_nil _ _ _ _, fun j hj => absurd hj (Nat.not_lt_zero j), World.ownsRow_nil _ _ _ _, b3⟩
    obtain ⟨nN, hnn⟩ : ∃ nN, NS.length = nN := ⟨_, rfl⟩
    have HNN := Lib.hid hnn
    rw [hnn] at HK0 hnN ⊢
    clear hon b3 hnn hZ HNm
    go_wp2_with fail
    go_loopw [12, 13, 57] (fun vw vl vi wr => ∃ (k : Nat) (pw pl : Option Addr) (cw cl : Nat) (xs : List Value), k ≤ nN ∧ vi = .int .i64 k ∧ vw = .slice pw k cw ∧ vl = .slice pl k cl ∧ Hid (K2 Z wc V NS (.slice pn nN cn) (.slice pw k cw) (.slice pl k cl) k k xs wr)) (fun _ _ vi _ => nN - (intOf vi).toNat)
    case atStart => exact ⟨0, none, none, 0, 0, [], Nat.zero_le _, rfl, rfl, rfl, HK0⟩
    case round =>
      obtain ⟨k, pw, pl, cw, cl, xs, hk, rfl, rfl, rfl, HK⟩ := hrel
      clear HK0
      by_cases hkn : k < nN
      · have hkN : k < NS.length := by rw [HNN.out]; exact hkn
        obtain ⟨pn', cn', en, hat⟩ := own_rowS HK.out.ns
        rw [HNN.out] at en
        simp only [Value.slice.injEq] at en
        obtain ⟨rfl, -, rfl⟩ := en
        obtain ⟨b, o, rfl, -, hcell⟩ := hat k hkN
        have hidx := idx_so (some ⟨b, o, none⟩) b o nN cn k rfl hkn
        obtain ⟨h1, h2, h3, h4⟩ := HRd.out k hkN
        obtain ⟨n, hn⟩ : ∃ n, NS.getD k [] = n := ⟨_, rfl⟩
        have HN := Lib.hid hn
        rw [hn] at h1 h2 h3 h4 hcell
        have hDr : Dsk B g bm t nn wr D L q (-1) false := HDs.out.later (by rw [HZ.out]; exact HK.out.bl)
        have HRr := Lib.hid (Read_v hDr n (by omega))
        rw [HVw.out, h1, h2] at HRr
        have HLr := Lib.hid (fun X (h : Below Z wc X) => by have := Loose_v (HDs.out.later (w' := X) (by rw [HZ.out]; exact h)) n (by omega); rw [HVw.out] at this; exact this)
        unfold encStr at hcell HRr HLr
        obtain ⟨f, hf⟩ : ∃ f, (fileOf V n).1 = f := ⟨_, rfl⟩
        have HF := Lib.hid hf
        rw [hf] at HRr h4
        obtain ⟨lo, hlo⟩ : ∃ lo, looseV V n false = lo := ⟨_, rfl⟩
        have HLo := Lib.hid hlo
        rw [hlo] at HLr
        clear hat hkN hn hDr h1 h2 hf hlo
        go_wp2_with fail
        refine HRr.out.mono ?_; rintro e w4 ⟨v4, rfl, ho4, b4⟩
        obtain ⟨p4, c4, rfl⟩ := ho4.form
        obtain ⟨nf, hnf⟩ : ∃ nf, f.length = nf := ⟨_, rfl⟩
        have HNF := Lib.hid hnf
        rw [hnf] at ho4 h4 ⊢
        have HK4 := Lib.hid (HK.out.later HZ.out.symm b4)
        have HO4 := Lib.hid (OwnB.base ho4 (HK.out.size HZ.out.symm))
        have HB4 := Lib.hid b4
        clear ho4 b4 hnf HRr HK
        have HKa := Lib.hid (HK4.out.later HZ.out.symm (below_one w4 (.cells #[.slice p4 nf c4] 31)))
        have HOa := Lib.hid (row_later HO4.out (below_one w4 (.cells #[.slice p4 nf c4] 31)))
        go_wp2_with (at_builtin; refine wpList_append_src rfl _ _ 49 (by rfl) Z 31 i0 (.slice none 0 0) 1 24 Try.underlying49 ii iz0 iz1 iz2 rfl (by decide) _ _ _ (by rfl) HKa.out.ws _ 1 [.slice p4 nf c4] (by rfl) (src_one10 (Blk.new w4 31 #[.slice p4 nf c4]) rfl) (k + 1) (by rfl) (by unfold maxLen; omega) (by omega) (HKa.out.size HZ.out.symm) ?_; intro pA cA wA hownA hgrowA; have HK5 := Lib.hid (HKa.out.was HZ.out.symm hownA hgrowA (by rw [HN.out, HF.out]; exact HOa.out)); clear hownA hgrowA)
        refine (HLr.out _ HK5.out.bl).mono ?_; rintro e w6 ⟨rfl, b6⟩
        have HK6 := Lib.hid ((HK5.out.later HZ.out.symm b6).later HZ.out.symm (below_one w6 (.cells #[.int .i64 (lo : Nat)] 3)))
        have HLN : Hid (k < NS.length) := Lib.hid (by rw [HNN.out]; exact hkn)
        have HLK : Hid (looV V (NS.getD k []) = .int .i64 (lo : Nat)) := Lib.hid (by unfold looV; rw [HN.out, HLo.out])
        clear HK5 HKa HOa HK4 HO4 HB4 b6 HLr
        go_wp2_with (at_builtin; refine wpList_append_src rfl _ _ 50 (by rfl) Z 3 j0 (.int .i64 0) 1 8 Try.underlying50 ji jz0 jz1 jz2 rfl (by decide) _ _ _ (by rfl) HK6.out.ls _ 1 [.int .i64 (lo : Nat)] (by rfl) (src_one10 (Blk.new w6 3 #[.int .i64 (lo : Nat)]) rfl) (k + 1) (by rfl) (by unfold maxLen; omega) (by omega) (HK6.out.size HZ.out.symm) ?_; intro pB cB wB hownB hgrowB; have HK7 := Lib.hid (HK6.out.loo HZ.out.symm HLN.out (by rw [HLK.out]; exact hownB) hgrowB); clear hownB hgrowB HK6)
        go_roundw
        case rel => exact ⟨k + 1, pA, pB, cA, cB, _, by omega, by go_num, rfl, rfl, HK7⟩
        case measure => simp [intOf]; omega
      · have hke : k = nN := by omega
        subst hke
        have hDr : Dsk B g bm t nn wr D L q (-1) false := HDs.out.later (by rw [HZ.out]; exact HK.out.bl)
        have hBZ : B ≤ Z := by rw [← HZ.out]; exact HDs.out.base.1
        have hBr : Below B W wr := below_then HBc.out (below_less HK.out.bl hBZ)
        have hF : Foreign (Inn g bm L) wr (.slice pP nP capP) (.slice pT nT capT) P T := ⟨fun X hC => by
            have hb := below_then hBr (hC.toBelow hDr.inB hDr.base.1)
            rw [← HBB.out] at hb
            exact HP.out.below hb, fun X hC => by
            have hb := below_then hBr (hC.toBelow hDr.inB hDr.base.1)
            rw [← HBB.out] at hb
            exact HT.out.below hb, HP6.out, by rw [HNP.out]; exact hPl, by rw [HNT.out]; omega⟩
        have hc := Crash_v hDr _ _ P T hF
        rw [HVw.out] at hc
        have HC := Lib.hid hc
        have HDr := Lib.hid hDr
        have HBr := Lib.hid hBr
        have HBZ := Lib.hid hBZ
        have HLt : Hid (∀ i, Inn g bm L i → i < Z) := Lib.hid (fun i hi => by rw [← HZ.out]; exact HDs.out.lt i hi)
        clear hc hF hDr hBr hBZ
        go_wp2_with fail
        refine HC.out.mono ?_; rintro e w4 ⟨rfl, L', ⟨nn', D', hD', hCh, hIn⟩, hV'⟩
        obtain ⟨V', hVV⟩ : ∃ V', crV P T V = V' := ⟨_, rfl⟩
        have HV' : Hid (view L' = V') := Lib.hid (by rw [hV', ← hVV]; rfl)
        have HK3 := Lib.hid (K3.of (V' := V') HK.out HNN.out HLt.out HDr.out.inB HDr.out.base.1 HBr.out hCh hIn hD')
        have HNS' : Hid (V'.map (·.1) = NS) := Lib.hid (by rw [← hVV, crV_names, HNS.out])
        have HRd' : Hid (∀ k, k < NS.length → readC V' (NS.getD k []) false = 0 ∧ readB V' (NS.getD k []) false = (fileOf V' (NS.getD k [])).1 ∧ (NS.getD k []).length ≤ 32 ∧ looseV V' (NS.getD k []) false = 0 ∧ ∃ s, (fileOf V (NS.getD k [])).1.length - looseV V (NS.getD k []) false = s ∧ looseV V (NS.getD k []) false ≤ (fileOf V (NS.getD k [])).1.length ∧ (fileOf V (NS.getD k [])).1.length ≤ 4194304 ∧ s ≤ (fileOf V' (NS.getD k [])).1.length ∧ (fileOf V' (NS.getD k [])).1.length ≤ (fileOf V (NS.getD k [])).1.length ∧ (fileOf V' (NS.getD k [])).1.take s = (fileOf V (NS.getD k [])).1.take s ∧ (s < (fileOf V' (NS.getD k [])).1.length → (fileOf V' (NS.getD k [])).1.take ((fileOf V' (NS.getD k [])).1.length - 1) = (fileOf V (NS.getD k [])).1.take ((fileOf V' (NS.getD k [])).1.length - 1))) := Lib.hid (fun k hk => by
          have hin : NS.getD k [] ∈ V'.map (·.1) := by rw [HNS'.out, List.getD_eq_getElem?_getD, List.getElem?_eq_getElem hk]; exact List.getElem_mem hk
          have hm' : ∀ e ∈ V', mayNm e.1 = true := fun e he => by
            have h1 : e.1 ∈ V.map (·.1) := by rw [HNS.out, ← HNS'.out]; exact List.mem_map.2 ⟨e, he, rfl⟩
            obtain ⟨e2, h2, h3⟩ := List.mem_map.1 h1
            rw [← h3]; exact HF8.out e2 h2
          obtain ⟨h1, h2⟩ := read_in hm' hin
          obtain ⟨f1, f2, f3, f4, f5, f6⟩ := crV_file HF4.out HF5.out P T (NS.getD k [])
          rw [hVV] at f1 f3 f4 f5 f6
          have hl : looseV V (NS.getD k []) false = (fileOf V (NS.getD k [])).1.length - (fileOf V (NS.getD k [])).2 := by unfold looseV; rw [if_neg (by simp)]
          have hl' : looseV V' (NS.getD k []) false = 0 := by unfold looseV; rw [if_neg (by simp), f1, Nat.sub_self]
          exact ⟨h1, h2, (HRd.out k hk).2.2.1, hl', (fileOf V (NS.getD k [])).2, by rw [hl]; omega, by rw [hl]; omega, (HRd.out k hk).2.2.2, f3, f4, f5, f6⟩)
        have HDl : Hid (∀ i, Inn g bm L' i → i < w4.heap.size) := Lib.hid hD'.lt
        have HTw : Hid (unsV V' = []) := Lib.hid (by rw [← hVV]; exact crV_synced HF4.out HF5.out P T)
        have hNm := Names_v hD'
        rw [HV'.out] at hNm
        unfold namesV at hNm
        simp only [Bool.false_eq_true, if_false] at hNm
        rw [HNS'.out] at hNm
        have HNm := Lib.hid hNm
        clear hD' hCh hIn hV' hVV hNm HK HC HDr HBr HLt HRd HF4 HF5 HF8
        go_wp2_with fail
        refine HNm.out.mono ?_; rintro e w5 ⟨v5, rfl, ho5, b5⟩
        have HK5 := Lib.hid (HK3.out.later b5)
        have hsn := samenames_any _ _ NS NS w5 (own_rowS ho5) (own_rowS HK5.out.ns) (by rw [HNN.out]; omega) (by rw [HNN.out]; omega)
        rw [show decide (NS = NS) = true from decide_eq_true rfl] at hsn
        obtain ⟨p5, c5, rfl⟩ := own_s ho5
        rw [HNN.out] at hsn ⊢
        have HSn := Lib.hid hsn
        clear hsn ho5 b5 HNm HK3
        go_wp2_with fail
        refine HSn.out.mono ?_; rintro e w6 ⟨rfl, b6⟩
        have HK6 := Lib.hid (HK5.out.later b6)
        clear b6 HK5 HSn
        obtain ⟨Z2, hZ2⟩ : ∃ Z2, w4.heap.size = Z2 := ⟨_, rfl⟩
        rw [hZ2] at HK6 HDl
        clear hZ2
        go_wp2_with fail
        go_loopw [91] (fun i wr => ∃ (j : Nat) (xs : List Value), j ≤ k ∧ i = .int .i64 j ∧ Hid (K3 B g bm (t + 2) nn' D' L' q Z Z2 W V V' NS (.slice pn k cn) (.slice pw k cw) (.slice pl k cl) k j xs wr)) (fun i _ => k - (intOf i).toNat)
        case atStart => exact ⟨0, xs, Nat.zero_le _, rfl, HK6⟩
        case round =>
          obtain ⟨j, xs, hj, rfl, HK⟩ := hrel
          clear HK6
          by_cases hjn : j < k
          · have hjN : j < NS.length := by rw [HNN.out]; exact hjn
            obtain ⟨pn', cn', en, hat⟩ := own_rowS HK.out.ns
            rw [HNN.out] at en
            simp only [Value.slice.injEq] at en
            obtain ⟨rfl, -, rfl⟩ := en
            obtain ⟨b, o, rfl, -, hcell⟩ := hat j hjN
            have hidx := idx_so (some ⟨b, o, none⟩) b o k cn j rfl hjn
            obtain ⟨h1, h2, h3, h4, s, h5, h6, h7, h8, h9, ha, hb⟩ := HRd'.out j hjN
            obtain ⟨u, hu, hue⟩ := HK.out.es j hjn
            have hue := hue.resolve_left (fun h => absurd h.1 (Nat.lt_irrefl _))
            have hue := hue.2
            obtain ⟨pu, cu, rfl⟩ := hue.form
            obtain ⟨gw, rfl⟩ : ∃ gw, pw = some ⟨gw, 0, none⟩ := by
              rcases HK.out.ws.2 with ⟨_, h0⟩ | ⟨gw, _, _, e, _⟩
              · omega
              · simp only [Value.slice.injEq] at e; exact ⟨gw, e.1⟩
            obtain ⟨gl, rfl⟩ : ∃ gl, pl = some ⟨gl, 0, none⟩ := by
              rcases HK.out.ls.2 with ⟨_, h0⟩ | ⟨gl, _, _, e, _⟩
              · omega
              · simp only [Value.slice.injEq] at e; exact ⟨gl, e.1⟩
            have hcw := (World.ownsRow.cellAt HK.out.ws j (by omega)).trans hu
            have hcl := World.ownsRow.cellAt HK.out.ls j (by omega)
            rw [List.getElem?_map, List.getElem?_eq_getElem hjN] at hcl
            have hNSj : NS.getD j [] = NS[j] := by rw [List.getD_eq_getElem?_getD, List.getElem?_eq_getElem hjN]; rfl
            rw [Option.map_some, ← hNSj] at hcl
            unfold looV at hcl
            have hiw := idx_r10 (some ⟨gw, 0, none⟩) gw 0 k cw j rfl hjn
            have hil := idx_i10 (some ⟨gl, 0, none⟩) gl 0 k cl j rfl hjn
            rw [Nat.zero_add] at hiw hil
            obtain ⟨n, hn⟩ : ∃ n, NS.getD j [] = n := ⟨_, rfl⟩
            have HN := Lib.hid hn
            rw [hn] at h1 h2 h3 h4 h5 h6 h7 h8 h9 ha hb hcell hcl hue
            have HRr := Lib.hid (Read_v HK.out.dk n (by omega))
            rw [HV'.out, h1, h2] at HRr
            have HLr := Lib.hid (fun X (h : Below wr.heap.size wr X) => by have := Loose_v (HK.out.dk.later h) n (by omega); rw [HV'.out, h4] at this; exact this)
            unfold encStr at hcell HRr HLr
            obtain ⟨f, hf⟩ : ∃ f, (fileOf V n).1 = f := ⟨_, rfl⟩
            obtain ⟨f', hf'⟩ : ∃ f, (fileOf V' n).1 = f := ⟨_, rfl⟩
            have HF' := Lib.hid hf'
            rw [hf] at h5 h6 h7 h9 ha hb hue
            rw [hf'] at HRr h8 h9 ha hb
            rw [hn, hf] at hcw
            obtain ⟨lo, hlo⟩ : ∃ lo, looseV V n false = lo := ⟨_, rfl⟩
            rw [hlo] at h5 h6 hcl
            obtain ⟨nf, hnf⟩ : ∃ nf, f.length = nf := ⟨_, rfl⟩
            obtain ⟨nf', hnf'⟩ : ∃ nf, f'.length = nf := ⟨_, rfl⟩
            rw [hnf] at h5 h6 h7 h9 hcw hue
            rw [hnf'] at h8 h9 hb
            have HNF := Lib.hid hnf
            have HNF' := Lib.hid hnf'
            have HUE := Lib.hid hue
            have HTA := Lib.hid ha
            have HTB := Lib.hid hb
            clear hat hjN hn h1 h2 hf hf' hlo hnf hnf' hNSj hue ha hb hu
            go_wp2_with fail
            refine HRr.out.mono ?_; rintro e w7 ⟨v7, rfl, ho7, b7⟩
            obtain ⟨p7, c7, rfl⟩ := ho7.form
            rw [HNF'.out] at ho7 ⊢
            have HB7 := Lib.hid b7
            have HO7 := Lib.hid ho7
            have q1 := cell_later b7 hcw
            have q2 := cell_later b7 hcl
            have hsub : (nf : Int) - (lo : Int) = (s : Int) := by omega
            clear b7 ho7 hcell hidx hcw hcl HRr
            go_wp2_with fail
            go_quiet (fail)
            obtain ⟨wq, hwq⟩ : ∃ wq, w7.drewN nq = wq := ⟨_, rfl⟩
            have HQ := Lib.hid (bel_drewN (Below.refl w7.heap.size w7) nq)
            rw [hwq] at HQ
            rw [hwq]
            have HB7q := Lib.hid (then_ HB7.out HQ.out)
            have q1 := cell_later HQ.out q1
            have HBf' : Hid (Bs wq (.slice p7 nf' c7) f') := Lib.hid (by have h := HO7.out.bs; exact h.below HQ.out)
            have HBf : Hid (Bs wq (.slice pu nf cu) f) := Lib.hid (HUE.out.bs.below HB7q.out)
            have HLo := Lib.hid (fun X (h : Below wq.heap.size wq X) => HLr.out X (then_ HB7q.out h))
            obtain ⟨r1, s1⟩ := slice_upto10 HBf'.out HNF'.out h8
            obtain ⟨r2, s2⟩ := slice_upto10 HBf.out HNF.out (k := s) (by omega)
            have HEq := Lib.hid (fun X (h : Below wq.heap.size wq X) => by
              have he := quits_gives (equal_any _ _ _ _ X (s1.below h) (s2.below h))
              rw [HTA.out, show (List.take s f == List.take s f) = true from beq_self_eq_true _] at he
              exact he)
            have m1 : ¬ ((nf' : Int) < (s : Int)) := by omega
            have m2 : ¬ ((nf : Int) < (nf' : Int)) := by omega
            clear hwq s1 s2 q2 hsub h5 h6 hil HLr
            go_upto_region 30 with (fail)
            go_cut [148] from 112 to 147 (fun t wx => t = .bool false ∧ Below wq.heap.size wq wx)
            case first =>
              refine wp_region_later (by kernel_rfl) (by kernel_rfl) ?_
              have e1 := fun (z : Later wq) => Later.cell q1 z
              repeat (first | go_big_quiet_skip | (quiet_step ((first | (go_at_call 15; with_reducible exact later_call _ (HLo.out _ (Later.bel _))) | (go_at_call 22; with_reducible exact later_call _ (HEq.out _ (Later.bel _)))))))
              refine wpQuiet_nil ?_
              intro wz hw'
              obtain ⟨⟨wy, hb⟩, rfl⟩ := hw'
              go_wp2_with fail
              go_meet
              exact ⟨rfl, hb⟩
            case rest =>
              obtain ⟨rfl, hb⟩ := hcut
              have HBy := Lib.hid hb
              have q3 := cell_later hb q1
              clear hb HLo HEq r1 r2 m1 m2 q1
              obtain ⟨wa, hwa⟩ : ∃ wa, wc = wa := ⟨_, rfl⟩
              rw [hwa] at HBy q3 ⊢
              clear hwa
              go_upto_region 32 with (fail)
              go_cut [169] from 149 to 168 (fun t wx => t = .bool false ∧ Below wa.heap.size wa wx)
              case first =>
                by_cases hlt : s < nf'
                · have hb' := HTB.out hlt
                  have hgt : (s : Int) < (nf' : Int) := by omega
                  obtain ⟨mm, hmm⟩ : ∃ x, nf' - 1 = x := ⟨_, rfl⟩
                  have hsub1 : (nf' : Int) - 1 = (mm : Int) := by omega
                  have hw1 : IntKind.i64.wrap ((nf' : Int) - 1) = (mm : Int) := by rw [IntKind.wrap_i64]; omega
                  have hw2 : IntKind.i64.wrap (mm : Int) = (mm : Int) := by rw [IntKind.wrap_i64]; omega
                  obtain ⟨r1, s1⟩ := slice_upto10 (HBf'.out.below HBy.out) HNF'.out (k := mm) (by omega)
                  obtain ⟨r2, s2⟩ := slice_upto10 (HBf.out.below HBy.out) HNF.out (k := mm) (by omega)
                  rw [hmm] at hb'
                  have HEq := Lib.hid (fun X (h : Below wa.heap.size wa X) => by
                    have he := quits_gives (equal_any _ _ _ _ X (s1.below h) (s2.below h))
                    rw [hb', show (List.take mm f == List.take mm f) = true from beq_self_eq_true _] at he
                    exact he)
                  clear hb' s1 s2 hmm
                  refine wp_region_later (by kernel_rfl) (by kernel_rfl) ?_
                  have e1 := fun (z : Later wa) => Later.cell q3 z
                  repeat (first | go_big_quiet_skip | (quiet_step ((first | (go_at_call 22; with_reducible exact later_call _ (HEq.out _ (Later.bel _)))))))
                  refine wpQuiet_nil ?_
                  intro wz hw'
                  obtain ⟨⟨wy, hb⟩, rfl⟩ := hw'
                  go_wp2_with fail
                  go_meet
                  exact ⟨rfl, hb⟩
                · have hgt : ¬ ((s : Int) < (nf' : Int)) := by omega
                  refine wp_region_later (by kernel_rfl) (by kernel_rfl) ?_
                  have e1 := fun (z : Later wa) => Later.cell q3 z
                  repeat (first | go_big_quiet_skip | (quiet_step (fail)))
                  refine wpQuiet_nil ?_
                  intro wz hw'
                  obtain ⟨⟨wy, hb⟩, rfl⟩ := hw'
                  go_wp2_with fail
                  go_meet
                  exact ⟨rfl, hb⟩
              case rest =>
                obtain ⟨rfl, hb⟩ := hcut
                have q4 := cell_later hb q3
                have HKw := Lib.hid (HK.out.later (then_ (then_ HB7q.out HBy.out) hb))
                have hfz := World.ownsRow.frozenAt HKw.out.ws j
                have HUn : Hid (OwnB wc Z2 (.slice p7 nf' c7) (fileOf V' (NS.getD j [])).1) := Lib.hid (by
                  rw [HN.out, HF'.out]
                  exact row_later (row_later (row_later (OwnB.base HO7.out HK.out.z2) HQ.out) HBy.out) hb)
                have HKn := Lib.hid (HKw.out.store hjn (.slice p7 nf' c7) HBZ.out HUn.out)
                clear hb q3 HKw HUn HO7 HK HQ HBy HB7q HBf HBf' HTA HTB
                go_wp2_with fail
                go_roundw
                case rel => exact ⟨j + 1, _, by omega, by go_num, HKn⟩
                case measure => simp [intOf]; omega
          · have hje : j = k := by omega
            subst hje
            have hWr : Below W.heap.size W wr := by rw [HBB.out]; exact HK.out.bl
            have HTo := Lib.hid (torn_any _ T wr (HT.out.below hWr) (by rw [HNT.out]; exact hTl))
            clear hWr
            go_wp2_with fail
            refine HTo.out.mono ?_; rintro e w8 ⟨v8, rfl, ho8, b8⟩
            obtain ⟨p8, c8, rfl⟩ := own_shape ho8
            rw [HNT.out] at ho8 ⊢
            have HK8 := Lib.hid (HK.out.later b8)
            have hF : Foreign (Inn g bm L') w8 (.slice p8 nT c8) (.slice pT nT capT) (T.map (·.toNat)) T := ⟨fun X hC => by
                have h := chg_row ho8 hC (fun i hi hI => by have := (World.ownsRow.lt ho8 i hi).1; have := HK.out.dk.lt i hI; omega)
                rw [← HNT.out] at h ⊢
                exact p16_own h, fun X hC => by
                have hb := below_then HK8.out.bl (hC.toBelow HK8.out.dk.inB HK8.out.dk.base.1)
                rw [← HBB.out] at hb
                exact HT.out.below hb, map_lt16 T, by rw [List.length_map, HNT.out]; omega, by rw [HNT.out]; omega⟩
            have hc := Crash_v HK8.out.dk _ _ (T.map (·.toNat)) T hF
            rw [HV'.out, HTw.out] at hc
            have HC := Lib.hid hc
            clear hc hF ho8 b8 HTo
            go_wp2_with fail
            refine HC.out.mono ?_; rintro e w9 ⟨rfl, L2, ⟨n2, D2, hD2, hCh, hIn⟩, hV2⟩
            have HV2 : Hid (view L2 = V') := Lib.hid hV2
            obtain ⟨hrn, hrw, hre⟩ := HK8.out.crash hCh HDl.out
            have HRn := Lib.hid hrn
            have HRw := Lib.hid hrw
            have HRe := Lib.hid hre
            have HD2 := Lib.hid hD2
            have HB9 : Hid (Below B W w9) := Lib.hid (below_then HK8.out.bl (hCh.toBelow HK8.out.dk.inB HK8.out.dk.base.1))
            clear hrn hrw hre hD2 hCh hIn hV2 HC HK8 HK
            go_wp2_with fail
            go_loopw [182] (fun i wr => ∃ (y : Nat), y ≤ j ∧ i = .int .i64 y ∧ Hid (Below w9.heap.size w9 wr)) (fun i _ => j - (intOf i).toNat)
            case atStart => exact ⟨0, Nat.zero_le _, rfl, Lib.hid (Below.refl _ _)⟩
            case round =>
              obtain ⟨y, hy, rfl, HBy⟩ := hrel
              by_cases hyn : y < j
              · have hyN : y < NS.length := by rw [HNN.out]; exact hyn
                obtain ⟨pn', cn', en, hat⟩ := own_rowS (own_s_later HRn.out HBy.out)
                rw [HNN.out] at en
                simp only [Value.slice.injEq] at en
                obtain ⟨rfl, -, rfl⟩ := en
                obtain ⟨b, o, rfl, -, hcell⟩ := hat y hyN
                have hidx := idx_so (some ⟨b, o, none⟩) b o j cn y rfl hyn
                obtain ⟨h1, h2, h3, -⟩ := HRd'.out y hyN
                obtain ⟨u, hu, hue⟩ := HRe.out y hyn
                obtain ⟨pu, cu, rfl⟩ := OwnB.form hue
                obtain ⟨gw, rfl⟩ : ∃ gw, pw = some ⟨gw, 0, none⟩ := by
                  rcases HRw.out.2 with ⟨_, h0⟩ | ⟨gw, _, _, e, _⟩
                  · omega
                  · simp only [Value.slice.injEq] at e; exact ⟨gw, e.1⟩
                have hcw := (World.ownsRow.cellAt (row_later HRw.out HBy.out) y (by omega)).trans hu
                have hiw := idx_r10 (some ⟨gw, 0, none⟩) gw 0 j cw y rfl hyn
                rw [Nat.zero_add] at hiw
                obtain ⟨n, hn⟩ : ∃ n, NS.getD y [] = n := ⟨_, rfl⟩
                rw [hn] at h1 h2 h3 hcell hcw hue
                obtain ⟨f', hf'⟩ : ∃ f, (fileOf V' n).1 = f := ⟨_, rfl⟩
                have HRr := Lib.hid (Read_v (HD2.out.later HBy.out) n (by omega))
                rw [HV2.out, h1, h2] at HRr
                rw [hf'] at HRr hcw hue
                unfold encStr at hcell HRr
                have HUE := Lib.hid hue
                obtain ⟨nf', hnf'⟩ : ∃ nf, f'.length = nf := ⟨_, rfl⟩
                have HNF' := Lib.hid hnf'
                rw [hnf'] at hcw HUE
                clear hat hyN hn h1 h2 hf' hnf' hue hu
                go_wp2_with fail
                refine HRr.out.mono ?_; rintro e wa ⟨va, rfl, hoa, ba⟩
                obtain ⟨p7, c7, rfl⟩ := hoa.form
                rw [HNF'.out] at hoa ⊢
                have q1 := cell_later ba hcw
                have he := equal_any _ _ _ _ wa (OwnB.bs hoa) (OwnB.bs (row_later (row_later HUE.out HBy.out) ba : OwnB wa Z2 _ f'))
                rw [show (f' == f') = true from beq_self_eq_true _] at he
                have HEq := Lib.hid he
                have HBn := Lib.hid (then_ HBy.out ba)
                clear he hoa ba hcell hidx hcw HRr
                go_wp2_with fail
                refine HEq.out.mono ?_; rintro e wb ⟨rfl, rfl⟩
                go_wp2_with fail
                go_roundw
                case rel => exact ⟨y + 1, by omega, by go_num, HBn⟩
                case measure => simp [intOf]; omega
              · have hye : y = j := by omega
                subst hye
                have hDn := HD2.out.later HBy.out
                have hNm := Names_v hDn
                rw [HV2.out] at hNm
                unfold namesV at hNm
                simp only [Bool.false_eq_true, if_false] at hNm
                rw [HNS'.out] at hNm
                have HNm := Lib.hid hNm
                clear hDn hNm
                go_wp2_with fail
                refine HNm.out.mono ?_; rintro e wa ⟨va, rfl, hoa, ba⟩
                have hsn := samenames_any _ _ NS NS wa (own_rowS hoa) (own_rowS (own_s_later (own_s_later HRn.out HBy.out) ba)) (by rw [HNN.out]; omega) (by rw [HNN.out]; omega)
                rw [show decide (NS = NS) = true from decide_eq_true rfl] at hsn
                obtain ⟨p5, c5, rfl⟩ := own_s hoa
                rw [HNN.out] at hsn ⊢
                have HSn := Lib.hid hsn
                have HBa := Lib.hid (below_then HB9.out (below_less (then_ HBy.out ba) HD2.out.base.1))
                clear hsn hoa ba HNm
                go_wp2_with fail
                refine HSn.out.mono ?_; rintro e wb ⟨rfl, bb⟩
                have HBb := Lib.hid (then_ (by rw [HBB.out]; exact HBa.out : Below W.heap.size W wa) bb)
                go_wp2_with fail
                go_ret
                exact ⟨rfl, HBb.out⟩
end Go.Proofs.Ytnhdnmlclnndoaa.Gm
