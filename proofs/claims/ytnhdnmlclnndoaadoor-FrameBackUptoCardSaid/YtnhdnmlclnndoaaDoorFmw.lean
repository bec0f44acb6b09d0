/- The walk of FrameBack. -/
import Derived.Test.YtnhdnmlclnndoaaDoorFmv
import Derived.Test.YtnhdnmlclnndoaaDoorKL
set_option linter.unusedSimpArgs false
set_option linter.unusedVariables false
namespace Go.Proofs.YtnhdnmlclnndoaaDoor.Crc
open Go Go.RowKit Gm
attribute [local go_sem ↓] Go.wp_at_zero Go.wp_at_succ

theorem split_frms {l : List (List UInt8)} (h : ∀ r ∈ l, mayR r = true) : splitR (frms l) = l := by
  have := split_app l [] h
  rw [List.append_nil] at this
  rw [this, show splitR [] = [] from rfl, List.append_nil]
set_option maxHeartbeats 16000000 in
set_option maxRecDepth 100000 in
theorem law_fback (v v1 : Value) (l : List (List UInt8)) (M : List UInt8) (W : World) (hE : Env W) (hR : RowR W v l) (hl : l.length ≤ maxTk) (hC : Bs W v1 M) (hM : M.length ≤ 1048576) :
    Calls Tryd.prog 5 #[v, v1] W (Gives (.bool true) W) := by
  obtain ⟨i0, ii, iz0, iz1, iz2⟩ := info_parts infoB
  have HM0 := Lib.hid (made_any v l W hE hR hl)
  obtain ⟨p0, c0, rfl⟩ := hR.form
  obtain ⟨p1, c1, rfl⟩ := hC.form
  have HC := Lib.hid hC
  have HE := Lib.hid hE
  have hfl : (frms (madeL l)).length ≤ 82240 := by
    have h1 := whole_le (madeL l) made_may
    have h2 := made_len l
    rw [← frms_length] at h1
    omega
  have HSf := Lib.hid (split_frms (made_may (l := l)))
  obtain ⟨own, hown⟩ : ∃ own, madeL l = own := ⟨_, rfl⟩
  have hol : own.length ≤ 40 := by rw [← hown]; exact made_len l
  unfold MadeR at HM0
  rw [hown] at HM0 hfl HSf
  obtain ⟨nl, hnl⟩ : ∃ nl, l.length = nl := ⟨_, rfl⟩
  rw [hnl] at HM0 ⊢
  clear hE hR hl hC hown hnl
  obtain ⟨nf, hnf⟩ : ∃ nf, (frms own).length = nf := ⟨_, rfl⟩
  have HNF := Lib.hid hnf
  have HWh : Hid (wholeL own = nf) := Lib.hid (by rw [← frms_length]; exact hnf)
  rw [hnf] at hfl
  obtain ⟨no, hno⟩ : ∃ no, own.length = no := ⟨_, rfl⟩
  have HNO := Lib.hid hno
  rw [hno] at hol
  have hSm := split_may M
  have hSt := split_take M
  have hSl := split_le M
  have hSc := split_count M
  obtain ⟨S, hS⟩ : ∃ S, splitR M = S := ⟨_, rfl⟩
  rw [hS] at hSm hSt hSl hSc
  obtain ⟨mw, hmw⟩ : ∃ n, wholeL S = n := ⟨_, rfl⟩
  rw [hmw] at hSt hSl
  obtain ⟨nS, hnS⟩ : ∃ n, S.length = n := ⟨_, rfl⟩
  rw [hnS] at hSc
  obtain ⟨nM, hnM⟩ : ∃ n, M.length = n := ⟨_, rfl⟩
  rw [hnM] at hSl hSc HC hM ⊢
  have HSm := Lib.hid hSm
  have HSt := Lib.hid hSt
  have HS := Lib.hid hS
  have HMW := Lib.hid hmw
  have HNS := Lib.hid hnS
  have HNM := Lib.hid hnM
  clear hnf hno hSm hSt hS hmw hnS hnM
  go_enter Tryd.func5, Tryd.ntmps5
  go_wp2_with fail
  refine HM0.out.mono ?_; rintro e w1 ⟨f, ow, rfl, hof, hro, b1⟩
  obtain ⟨pf, cf, rfl⟩ := hof.form
  obtain ⟨po, co, rfl⟩ := hro.form
  have HSp := Lib.hid (split_any _ _ w1 (HE.out.below b1) hof.bs (by rw [HNF.out]; unfold maxSp; omega))
  rw [HNF.out] at HSp ⊢
  rw [HNO.out] at hro ⊢
  have HB1 := Lib.hid b1
  have HRo := Lib.hid hro
  clear hof hro b1 HM0
  go_wp2_with fail
  refine HSp.out.mono ?_; intro e w2 h2
  obtain ⟨px, cx, rfl, hrx, b2⟩ := h2.is HSf.out
  rw [HNO.out] at hrx ⊢
  rw [HWh.out]
  have HB2 := Lib.hid (then_ HB1.out b2)
  have HSx := Lib.hid (same_any _ _ own own w2 hrx (HRo.out.later b2) (by rw [HNO.out]; unfold maxTk; omega))
  rw [show decide (own = own) = true from decide_eq_true rfl] at HSx
  clear h2 hrx b2 HSp HRo HB1
  go_wp2_with fail
  refine HSx.out.mono ?_; rintro e w3 ⟨rfl, b3⟩
  have HB3 := Lib.hid (then_ HB2.out b3)
  have HSy := Lib.hid (split_any _ M w3 (HE.out.below HB3.out) (HC.out.below HB3.out) (by rw [HNM.out]; unfold maxSp; omega))
  clear HSx b3 HB2
  go_wp2_with fail
  refine HSy.out.mono ?_; intro e w4 h4
  obtain ⟨py, cy, rfl, hry, b4⟩ := h4.is HS.out
  rw [HNS.out] at hry ⊢
  rw [HMW.out]
  have HB4 := Lib.hid (then_ HB3.out b4)
  have HRy := Lib.hid hry
  clear h4 hry b4 HSy HB3
  have hny : nS ≤ 1048576 := by omega
  go_wp2_with fail
  go_loopw [11, 12, 13] (fun ag sz i wr => ∃ (k na : Nat) (pa : Option Addr) (ca : Nat), k ≤ nS ∧ na ≤ mw ∧ i = .int .i64 k ∧ sz = .int .i64 na ∧ ag = .slice pa na ca ∧ Hid (wholeL (S.take k) = na) ∧ Hid (wr.ownsRow w4.heap.size 5 1 (.slice pa na ca) na (cellsB (frms (S.take k)))) ∧ Hid (Below w4.heap.size w4 wr)) (fun _ _ i _ => nS - (intOf i).toNat)
  case atStart => exact ⟨0, 0, none, 0, Nat.zero_le _, Nat.zero_le _, rfl, rfl, rfl, Lib.hid rfl, Lib.hid (World.ownsRow_nil _ _ _ _), Lib.hid (Below.refl _ _)⟩
  case round =>
    obtain ⟨k, na, pa, ca, hk, hna, rfl, rfl, rfl, HNa, HO, HBr⟩ := hrel
    by_cases hkn : k < nS
    · have hkl : k < S.length := by rw [HNS.out]; exact hkn
      have hry := HRy.out.later HBr.out
      obtain ⟨b, o, vj, rfl, hcell, hbs⟩ := row_at hry hkl
      obtain ⟨pk, ck, rfl⟩ := hbs.form
      have hat : S[k]? = some (S.getD k []) := by rw [getD_at11 hkl, List.getElem?_eq_getElem hkl]
      have hmr : mayR (S.getD k []) = true := HSm.out _ (List.mem_of_getElem? hat)
      have hnx := whole_next hat
      have htk : frms (S.take (k + 1)) = frms (S.take k) ++ frm (S.getD k []) := by rw [List.take_add_one, hat]; exact frms_snoc _ _
      have hle : wholeL (S.take (k + 1)) ≤ mw := by
        have h1 := wholeL_app (S.take (k + 1)) (S.drop (k + 1))
        rw [List.take_append_drop, HMW.out] at h1
        omega
      obtain ⟨r, hr⟩ : ∃ r, S.getD k [] = r := ⟨_, rfl⟩
      rw [hr] at hbs hmr hnx htk hcell
      rw [hnx, HNa.out] at hle
      rw [HNa.out] at hnx
      have HBb := Lib.hid hbs
      have hidx := idx_r (some ⟨b, o, none⟩) b o nS cy k rfl hkn
      have HP := Lib.hid (fput_any _ r wr (HE.out.below (then_ HB4.out HBr.out)) hbs)
      have HMr := Lib.hid hmr
      have hml := (mayR_iff r).1 hmr
      obtain ⟨nr, hnr⟩ : ∃ n, r.length = n := ⟨_, rfl⟩
      have HNr := Lib.hid hnr
      rw [hnr] at hcell hnx hle HP HBb hml
      obtain ⟨nF, hnF⟩ : ∃ n, nr + 8 = n := ⟨_, rfl⟩
      have HNF2 : Hid ((frm r).length = nF) := Lib.hid (by rw [frm_length, hnr, hnF])
      have HHF := Lib.hid hnF
      rw [hnF] at hnx hle
      have HNX := Lib.hid hnx
      have HTK := Lib.hid htk
      have HCk := Lib.hid (fun X (h : Below wr.heap.size wr X) => (h.cell (p := ⟨b, o + k, none⟩) (World.block_lt_of_cell? _ _ hcell)).trans hcell)
      have hnFb : nF ≤ 2056 := by omega
      have hnrb : nr ≤ 2048 := hml.2
      clear hry hbs hat hmr hnx htk hr hnr hnF hml hkl
      go_wp2_with fail
      refine HP.out.mono ?_; intro e w5 h5
      obtain ⟨p5, c5, rfl, ho5, b5⟩ := h5.good HMr.out
      rw [HNr.out, HHF.out] at ho5 ⊢
      have HO5 := Lib.hid ho5
      have HB5 := Lib.hid (HBr.out.trans (b5.mono HBr.out.size))
      have HOa := Lib.hid (own_later11 HO.out b5)
      have hcell5 := HCk.out _ b5
      have HSz := Lib.hid (size_any _ r (by rw [HNr.out]; unfold maxTk; omega) w5 (HBb.out.below b5))
      rw [show sizeR r = nF by unfold sizeR; rw [HMr.out, if_pos rfl, HNr.out, HHF.out]] at HSz
      have HSc := Lib.hid (fun X (h : Below w5.heap.size w5 X) => by have := (HO5.out.bs.below h).src; rw [HNF2.out] at this; exact this)
      clear h5 ho5 b5 HP HO HCk hcell HBb
      go_wp2_with fail
      refine HSz.out.mono ?_; rintro e w6 ⟨rfl, rfl⟩
      clear HSz
      go_wp2_with (at_builtin; refine wpList_append_src rfl _ _ 22 (by rfl) w4.heap.size 5 i0 (.int .u8 0) 1 1 Tryd.underlying22 ii iz0 iz1 iz2 rfl (by decide) _ _ _ (by rfl) HOa.out _ nF (cellsB (frm r)) (by rfl) (HSc.out _ (Below.refl _ _)) (na + nF) (by rfl) (by unfold maxLen; omega) (by omega) (HB5.out.size) ?_; intro pAb capAb wb hownb hgrowb; have HOb := Lib.hid hownb; have HBb := Lib.hid (HB5.out.grown hgrowb (HB5.out.size) (fun j hj => (World.ownsRow.lt HOa.out j hj).1)); clear hownb hgrowb)
      go_roundw
      case rel => exact ⟨k + 1, na + nF, pAb, capAb, by omega, hle, by go_num, by go_num, rfl, Lib.hid HNX.out, Lib.hid (by rw [HTK.out, cellsB_append]; exact HOb.out), HBb⟩
      case measure => simp [intOf]; omega
    · obtain rfl : k = nS := by omega
      have ht : S.take k = S := List.take_of_length_le (by rw [HNS.out]; exact Nat.le_refl _)
      have hna2 : na = mw := by have := HNa.out; rw [ht, HMW.out] at this; omega
      have ho := HO.out
      rw [ht] at ho
      subst hna2
      have hlen : (frms S).length = na := by rw [frms_length, HMW.out]
      have hbA : Bs wr (.slice pa na ca) (frms S) := by
        have h : OwnB wr w4.heap.size (.slice pa na ca) (frms S) := by unfold OwnB; rw [hlen]; exact ho
        exact h.bs
      have hCr := HC.out.below (then_ HB4.out HBr.out)
      have hCl : Bs wr (.slice p1 M.length c1) M := by rw [HNM.out]; exact hCr
      obtain ⟨pu, cu, ru, hu⟩ := slice_upto hCl (k := na) (by rw [HNM.out]; exact hSl)
      rw [HNM.out] at ru
      rw [HSt.out] at hu
      have cv1 := fun (z : Later wr) => conv_bs (hbA.below z.bel) 9 Tryd.underlying9
      have cv2 := fun (z : Later wr) => conv_bs (hu.below z.bel) 9 Tryd.underlying9
      obtain ⟨sA, hsA⟩ : ∃ sA : ByteArray, (⟨(frms S).toArray⟩ : ByteArray) = sA := ⟨_, rfl⟩
      rw [hsA] at cv1 cv2
      have HBf := Lib.hid (then_ HB4.out HBr.out)
      have HWK := Lib.hid (fun X (h : Below wr.heap.size wr X) => wakes_any X (HE.out.below (then_ HBf.out h)))
      have hle1 : (na : Int) ≤ (nM : Int) := by omega
      clear ht ho hlen hbA hCr hCl hu HO HBr HNa HC HSt hsA
      go_wp2_with fail
      refine wp_region_later (by kernel_rfl) (by kernel_rfl) ?_
      repeat (quiet_step ((first | (go_at_call 13; exact later_call _ (HWK.out _ (Later.bel _))))))
      refine wpQuiet_nil ?_
      intro wz hw'
      obtain ⟨⟨_, hbz⟩, rfl⟩ := hw'
      have HBz := Lib.hid (then_ HBf.out hbz)
      clear hbz cv1 cv2 HWK
      go_wp2_with fail
      go_ret
      exact ⟨rfl, HBz.out⟩
end Go.Proofs.YtnhdnmlclnndoaaDoor.Crc
