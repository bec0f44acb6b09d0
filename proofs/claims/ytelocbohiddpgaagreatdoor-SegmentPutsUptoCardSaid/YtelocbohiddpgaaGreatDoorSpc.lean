/- Layer 12: the document's Split. -/
import Derived.Test.YtelocbohiddpgaaGreatDoorSpa
import Derived.Test.YtelocbohiddpgaaGreatDoorSpd
import Derived.Test.YtelocbohiddpgaaGreatDoorFmp
import Derived.Test.YtelocbohiddpgaaGreatDoorWm
set_option linter.unusedSimpArgs false
set_option linter.unusedVariables false
namespace Go.Proofs.YtelocbohiddpgaaGreatDoor.Crc
open Go Go.RowKit Gm
attribute [local go_sem ↓] Go.wp_at_zero Go.wp_at_succ

theorem readN_err {L : List UInt8} {most c : Nat} (h : readN L most = .err c) : c ≠ 0 := by
  unfold readN at h
  intro h0
  subst h0
  repeat' split at h
  all_goals first | cases h | (injection h with h; omega)
theorem own_keep12 {w w' : World} {B R size n : Nat} {t t2 : TypeId} {v : Value} {xs : List Value} {cs : Array Value} (h : w.ownsRow B t2 size v n xs) (hK : Blk w R t cs) (ht : t2 ≠ t) (hg : w.grownBy w' (some R)) : w'.ownsRow B t2 size v n xs := World.ownsRow.kept h hg (.inr (Blk.apart hK h ht))
theorem ownR_base {w : World} {B B' size n : Nat} {t : TypeId} {v : Value} {xs : List Value} (h : w.ownsRow B t size v n xs) (hB : B' ≤ B) : w.ownsRow B' t size v n xs := ⟨h.1, h.2.imp id (fun ⟨g, cap, cur, hv, hb, r⟩ => ⟨g, cap, cur, hv, Nat.le_trans hB hb, r⟩)⟩
/-- What the document's Split of records leaves. -/
def RSplitS (L : List UInt8) (first : Nat) (w : World) (e : Ending) (w' : World) : Prop := ∃ (v : Value) (ys : List Rx), e = .returned (.tuple #[v, .int .i64 (wholeS (segL L first) : Nat)]) ∧ ys.map Rx.rc = segL L first ∧ w'.ownsRow w.heap.size 25 2 v ys.length (cellsR ys) ∧ (∀ y ∈ ys, OwnB w' w.heap.size y.v y.d) ∧ Below w.heap.size w w'
set_option maxHeartbeats 16000000 in
set_option maxRecDepth 100000 in
theorem rsplit12_any (v : Value) (L : List UInt8) (first : Nat) (hf : first < 18446744073709551616) (w : World) (hB : Bs w v L) (hl : L.length ≤ 1048576) : Calls Tryz.prog 9 #[v, .int .u64 (first : Int)] w (RSplitS L first w) := by
  obtain ⟨j0, ji, jz0, jz1, jz2⟩ := info_parts infoRecT
  have HSp := Lib.hid (rsplit_any v L w hB hl)
  obtain ⟨p, cap, rfl⟩ := hB.form
  have hMay := split_may L
  have hfr : ∀ r ∈ splitR L, r.length ≤ 2048 := fun r hr => ((mayR_iff _).1 (hMay r hr)).2
  have hnfl : (splitR L).length ≤ 1048576 := by
    have h1 := split_le L
    have h2 : ∀ l : List (List UInt8), l.length ≤ wholeL l := fun l => by
      induction l with
      | nil => exact Nat.zero_le _
      | cons r l ih => rw [wholeL_cons, List.length_cons]; omega
    exact Nat.le_trans (Nat.le_trans (h2 _) h1) hl
  have hon := okN_iff first
  unfold RSplitS
  by_cases h0 : first = 0
  · subst h0
    have hs : segL L 0 = [] := by
      unfold segL
      rw [if_neg (fun h => by have := hon.1 h; omega)]
    rw [hs]
    have HW0 : Hid (wholeS [] = 0) := Lib.hid rfl
    rw [HW0.out]
    clear hB hl hMay hfr hnfl hs hon HSp
    generalize L.length = m at *
    go_enter Tryz.func9, Tryz.ntmps9
    go_wp2_with fail
    go_ret2
    exact ⟨_, [], rfl, rfl, World.ownsRow_nil _ _ _ _, (fun y hy => by cases hy), Below.refl _ _⟩
  by_cases h1 : 1099511627776 < first
  · have hs : segL L first = [] := by
      unfold segL
      rw [if_neg (fun h => by have := hon.1 h; omega)]
    rw [hs]
    have n1 : ((first : Int) == 0) = false := by rw [beq_eq_false_iff_ne]; omega
    have n2 : (1099511627776 : Int) < (first : Int) := by omega
    have HW0 : Hid (wholeS [] = 0) := Lib.hid rfl
    rw [HW0.out]
    clear hB hl hMay hfr hnfl hs hon HSp
    generalize L.length = m at *
    go_enter Tryz.func9, Tryz.ntmps9
    go_wp2_with fail
    go_ret2
    exact ⟨_, [], rfl, rfl, World.ownsRow_nil _ _ _ _, (fun y hy => by cases hy), Below.refl _ _⟩
  have hok : okN first = true := hon.2 (by omega)
  have hs : segL L first = segF first (splitR L) := by unfold segL; rw [hok, if_pos rfl]
  have HS := Lib.hid hs
  have HWL := Lib.hid (seg_le L first)
  obtain ⟨fs, hfs⟩ : ∃ fs, splitR L = fs := ⟨_, rfl⟩
  unfold RSplitR at HSp
  rw [hfs] at HSp HS hMay hfr hnfl
  obtain ⟨nf, hnf⟩ : ∃ nf, fs.length = nf := ⟨_, rfl⟩
  have HNF := Lib.hid hnf
  rw [hnf] at hnfl
  have HMay := Lib.hid hMay
  have HFr := Lib.hid hfr
  obtain ⟨m, hm⟩ : ∃ m, L.length = m := ⟨_, rfl⟩
  have HML := Lib.hid hm
  rw [hm] at HSp HWL hl ⊢
  obtain ⟨wl, hwl⟩ : ∃ wl, wholeL fs = wl := ⟨_, rfl⟩
  rw [hwl] at HSp
  have n1 : ((first : Int) == 0) = false := by rw [beq_eq_false_iff_ne]; omega
  have n2 : ¬ ((1099511627776 : Int) < (first : Int)) := by omega
  obtain ⟨F1, hF1⟩ : ∃ F1, first = F1 + 1 := ⟨first - 1, by omega⟩
  have hFs : (first : Int) - 1 = (F1 : Int) := by omega
  have hF1b : F1 < 1099511627776 := by omega
  have hw1 : IntKind.u64.wrap (F1 : Int) = (F1 : Int) := by rw [IntKind.wrap_u64]; omega
  have HF1 := Lib.hid hF1
  clear hB hMay hfr hs hon hok hfs hnf hm hwl hF1
  go_enter Tryz.func9, Tryz.ntmps9
  go_wp2_with fail
  refine HSp.out.mono ?_; rintro e w6 ⟨vf, rfl, hrow, b6⟩
  obtain ⟨pf, cf, rfl⟩ := hrow.form
  rw [HNF.out] at hrow ⊢
  have HRow := Lib.hid hrow
  have HB6 := Lib.hid b6
  clear hrow b6 HSp
  go_wp2_with fail
  go_loopw [6, 7, 8, 11] (fun lv wv nv iv wr => ∃ (k wh lst : Nat) (po : Option Addr) (co : Nat) (ys : List Rx), k ≤ nf ∧ wh ≤ m ∧ lst ≤ 1099511627776 ∧ lv = .slice po k co ∧ wv = .int .i64 (wh : Nat) ∧ nv = .int .u64 (lst : Nat) ∧ iv = .int .i64 (k : Nat) ∧ Hid (ys.length = k ∧ wholeS (ys.map Rx.rc) = wh ∧ segF first fs = ys.map Rx.rc ++ segF (lst + 1) (fs.drop k)) ∧ Hid (∀ y ∈ ys, OwnB wr w6.heap.size y.v y.d) ∧ Hid (wr.ownsRow w6.heap.size 25 2 (.slice po k co) k (cellsR ys)) ∧ Hid (Below w6.heap.size w6 wr)) (fun _ _ _ iv _ => nf - (intOf iv).toNat)
  case atStart => exact ⟨0, 0, F1, none, 0, [], Nat.zero_le _, Nat.zero_le _, by omega, rfl, rfl, rfl, rfl, Lib.hid ⟨rfl, rfl, by rw [← HF1.out]; rfl⟩, Lib.hid (fun y hy => by cases hy), Lib.hid (World.ownsRow_nil _ _ _ _), Lib.hid (Below.refl _ _)⟩
  case round =>
    obtain ⟨k, wh, lst, po, co, ys, hk, hwh, hlst, rfl, rfl, rfl, rfl, HY, HYo, HO, HB⟩ := hrel
    by_cases hkn : k < nf
    · have hkl : k < fs.length := by rw [HNF.out]; exact hkn
      obtain ⟨b, o, vj, rfl, hcell, hbs⟩ := row_at (HRow.out.later HB.out) hkl
      have hmem : fs.getD k [] ∈ fs := by rw [List.getD_eq_getElem?_getD, List.getElem?_eq_getElem hkl]; exact List.getElem_mem hkl
      have hdr : fs.drop k = fs.getD k [] :: fs.drop (k + 1) := by rw [List.drop_eq_getElem_cons hkl, List.getD_eq_getElem?_getD, List.getElem?_eq_getElem hkl]; rfl
      have hmay := HMay.out _ hmem
      have hfl := HFr.out _ hmem
      obtain ⟨f, hff⟩ : ∃ f, fs.getD k [] = f := ⟨_, rfl⟩
      rw [hff] at hbs hdr hmay hfl
      obtain ⟨pv, cv, rfl⟩ := hbs.form
      have hidx := idx_r (some ⟨b, o, none⟩) b o nf cf k rfl hkn
      obtain ⟨lf, hlf⟩ : ∃ lf, f.length = lf := ⟨_, rfl⟩
      have HLF := Lib.hid hlf
      rw [hlf] at hcell hbs hfl
      have HBf := Lib.hid hbs
      have HDr := Lib.hid hdr
      have HMy := Lib.hid hmay
      have HCk := Lib.hid (fun X (h : Below wr.heap.size wr X) => (h.cell (p := ⟨b, o + k, none⟩) (World.block_lt_of_cell? _ _ hcell)).trans hcell)
      have HOw := Lib.hid (rown_any (.slice pv lf cv) f wr hbs (by rw [HLF.out]; omega))
      clear hmem hff hlf hdr hmay hbs hkl
      go_wp2_with fail
      refine HOw.out.mono ?_; rintro e w8 ⟨v8, rfl, ho8, b8⟩
      obtain ⟨p8, c8, rfl⟩ := ho8.form
      rw [HLF.out] at ho8 ⊢
      have B9 := below_one w8 (.cells #[.slice p8 lf c8] 79)
      have K9 := Blk.new w8 79 #[.slice p8 lf c8]
      obtain ⟨R, hR⟩ : ∃ R, w8.heap.size = R := ⟨_, rfl⟩
      obtain ⟨W9, hW9⟩ : ∃ W9, w8.alloc (.cells #[.slice p8 lf c8] 79) = W9 := ⟨_, rfl⟩
      have hRz : w6.heap.size ≤ R := by rw [← hR]; exact Nat.le_trans HB.out.size b8.size
      have HRw : Hid (wr.heap.size ≤ R) := Lib.hid (by rw [← hR]; exact b8.size)
      rw [hW9] at B9 K9
      rw [hR] at K9
      have HK9 := Lib.hid K9
      have HB9 := Lib.hid (then_ (then_ HB.out b8) B9)
      have HBr9 : Hid (Below wr.heap.size wr W9) := Lib.hid (then_ b8 B9)
      have HO9 := Lib.hid (own_later11 (own_later11 HO.out b8) B9)
      have HY9 : Hid (∀ y ∈ ys, OwnB W9 w6.heap.size y.v y.d) := Lib.hid (fun y hy => ((HYo.out y hy).below b8).below B9)
      have HNum := Lib.hid (rrnum_any R (.slice p8 lf c8) f 1099511627776 (by decide) W9 K9 (ho8.bs.below B9) (by rw [HLF.out]; omega))
      have HW9 := Lib.hid hW9
      have HR := Lib.hid hR
      have HRz := Lib.hid hRz
      clear ho8 b8 B9 K9 hW9 hR hRz HOw HO HYo
      go_upto_region 11 with (fail)
      rw [HW9.out, HR.out]
      go_wp2_with fail
      refine HNum.out.mono ?_; intro e w11 h11
      unfold RNumE at h11
      cases hr : readN f 1099511627776 with
      | err c =>
        rw [hr] at h11
        obtain ⟨rfl, rfl⟩ := h11
        have hc0 := readN_err hr
        have hrec : recOf f = none := by unfold recOf; rw [hr]
        have hseg : segL L first = ys.map Rx.rc := by rw [HS.out, HY.out.2.2, HDr.out, segF_none hrec, List.append_nil]
        have HF : Hid (w11.ownsRow w.heap.size 25 2 (.slice po k co) ys.length (cellsR ys) ∧ (∀ y ∈ ys, OwnB w11 w.heap.size y.v y.d) ∧ ys.map Rx.rc = segL L first ∧ wholeS (segL L first) = wh) := Lib.hid ⟨ownR_base (by rw [HY.out.1]; exact HO9.out) HB6.out.size, fun y hy => (HY9.out y hy).base HB6.out.size, hseg.symm, by rw [hseg]; exact HY.out.2.1⟩
        have hcb : ((c : Int) == 0) = false := by rw [beq_eq_false_iff_ne]; omega
        have hcc : ¬ ((c : Int) = 0) := by omega
        clear hr hrec hseg HNum
        go_wp2_with fail
        go_ret2
        exact ⟨.slice po k co, ys, by rw [HF.out.2.2.2]; rfl, HF.out.2.2.1, HF.out.1, HF.out.2.1, then_ HB6.out HB9.out⟩
      | ok n kk =>
        rw [hr] at h11
        obtain ⟨v11, rfl, hK11, ho11, hg11⟩ := h11
        obtain ⟨hn64, hnm, hk1, hk2, -⟩ := read_ok hr
        have hrec : recOf f = if okRc ⟨n, f.drop kk⟩ then some ⟨n, f.drop kk⟩ else none := by unfold recOf; rw [hr]
        obtain ⟨p11, c11, rfl⟩ := ho11.form
        obtain ⟨d, hd⟩ : ∃ d, f.drop kk = d := ⟨_, rfl⟩
        rw [hd] at ho11 hK11 hrec
        have hdl2 : d.length ≤ 2048 := by rw [← hd, List.length_drop, HLF.out]; omega
        obtain ⟨ld, hld⟩ : ∃ ld, d.length = ld := ⟨_, rfl⟩
        have HLD := Lib.hid hld
        rw [hld] at ho11 hK11 hdl2
        have HB11 := Lib.hid (HB9.out.grown hg11 HB9.out.size (fun j e => by cases e; exact HRz.out))
        have HBr11 : Hid (Below wr.heap.size wr w11) := Lib.hid (HBr9.out.grown hg11 HBr9.out.size (fun j e => by cases e; exact HRw.out))
        have HO11 := Lib.hid (own_keep12 HO9.out HK9.out (by decide) hg11)
        have HY11 : Hid (∀ y ∈ ys, OwnB w11 w6.heap.size y.v y.d) := Lib.hid (fun y hy => own_keep12 (HY9.out y hy) HK9.out (by decide) hg11)
        have HD11 := Lib.hid (ho11.base (base' := w6.heap.size) HB9.out.size)
        have r0 := hK11.cell 0 rfl
        have HK11 := Lib.hid hK11
        have HRec := Lib.hid hrec
        clear hr hd hld ho11 hK11 hrec HNum hg11
        by_cases hnl : n ≤ lst
        · have hseg : segL L first = ys.map Rx.rc := by
            rw [HS.out, HY.out.2.2, HDr.out]
            by_cases ho : okRc ⟨n, d⟩ = true
            · rw [segF_low (by rw [HRec.out, if_pos ho]) (by simp only; omega), List.append_nil]
            · rw [segF_none (by rw [HRec.out, if_neg ho]), List.append_nil]
          have HF : Hid (w11.ownsRow w.heap.size 25 2 (.slice po k co) ys.length (cellsR ys) ∧ (∀ y ∈ ys, OwnB w11 w.heap.size y.v y.d) ∧ ys.map Rx.rc = segL L first ∧ wholeS (segL L first) = wh) := Lib.hid ⟨ownR_base (by rw [HY.out.1]; exact HO11.out) HB6.out.size, fun y hy => (HY11.out y hy).base HB6.out.size, hseg.symm, by rw [hseg]; exact HY.out.2.1⟩
          have hni : (n : Int) ≤ (lst : Int) := by omega
          clear hseg
          go_wp2_with fail
          go_ret2
          exact ⟨.slice po k co, ys, by rw [HF.out.2.2.2]; rfl, HF.out.2.2.1, HF.out.1, HF.out.2.1, then_ HB6.out HB11.out⟩
        have hni : ¬ ((n : Int) ≤ (lst : Int)) := by omega
        by_cases hdl : 1500 < ld
        · have hseg : segL L first = ys.map Rx.rc := by
            rw [HS.out, HY.out.2.2, HDr.out, segF_none (by rw [HRec.out, if_neg (fun h => by have := ((okRc_iff _).1 h).2; simp only at this; rw [HLD.out] at this; omega)]), List.append_nil]
          have HF : Hid (w11.ownsRow w.heap.size 25 2 (.slice po k co) ys.length (cellsR ys) ∧ (∀ y ∈ ys, OwnB w11 w.heap.size y.v y.d) ∧ ys.map Rx.rc = segL L first ∧ wholeS (segL L first) = wh) := Lib.hid ⟨ownR_base (by rw [HY.out.1]; exact HO11.out) HB6.out.size, fun y hy => (HY11.out y hy).base HB6.out.size, hseg.symm, by rw [hseg]; exact HY.out.2.1⟩
          have hdi : (1500 : Int) < (ld : Int) := by omega
          clear hseg
          go_wp2_with fail
          go_ret2
          exact ⟨.slice po k co, ys, by rw [HF.out.2.2.2]; rfl, HF.out.2.2.1, HF.out.1, HF.out.2.1, then_ HB6.out HB11.out⟩
        have hdi : ¬ ((1500 : Int) < (ld : Int)) := by omega
        have hok : okRc ⟨n, d⟩ = true := (okRc_iff _).2 ⟨⟨by simp only; omega, hnm⟩, by simp only; rw [HLD.out]; omega⟩
        have hrc : recOf f = some ⟨n, d⟩ := by rw [HRec.out, if_pos hok]
        have hfb := (rec_is hrc).2
        have hsz : sizeF ⟨n, d⟩ = lf + 8 := by unfold sizeF; rw [← hfb, HLF.out]
        have hY2 : segF first fs = (ys ++ [(⟨n, .slice p11 ld c11, d⟩ : Rx)]).map Rx.rc ++ segF (n + 1) (fs.drop (k + 1)) := by
          rw [HY.out.2.2, HDr.out, segF_some hrc (by simp only; omega), List.map_append, List.append_assoc]
          rfl
        have hwn : wholeS ((ys ++ [(⟨n, .slice p11 ld c11, d⟩ : Rx)]).map Rx.rc) = wh + (lf + 8) := by
          rw [List.map_append, wholeS_app, HY.out.2.1, ← hsz]
          show wh + wholeS [(⟨n, d⟩ : Rc)] = _
          rw [wholeS_cons, wholeS_nil, Nat.add_zero]
        have hwm : wh + (lf + 8) ≤ m := by
          have h1 := HWL.out
          rw [HS.out, hY2, wholeS_app, hwn] at h1
          omega
        have HY2 : Hid ((ys ++ [(⟨n, .slice p11 ld c11, d⟩ : Rx)]).length = k + 1 ∧ wholeS ((ys ++ [(⟨n, .slice p11 ld c11, d⟩ : Rx)]).map Rx.rc) = wh + (lf + 8) ∧ segF first fs = (ys ++ [(⟨n, .slice p11 ld c11, d⟩ : Rx)]).map Rx.rc ++ segF (n + 1) (fs.drop (k + 1))) := Lib.hid ⟨by rw [List.length_append, HY.out.1]; rfl, hwn, hY2⟩
        have HCs : Hid (cellsR (ys ++ [(⟨n, .slice p11 ld c11, d⟩ : Rx)]) = cellsR ys ++ [.int .u64 (n : Int), .slice p11 ld c11]) := Lib.hid (by rw [cellsR_snoc]; rfl)
        have hrowk : Bs w11 (.slice pv lf cv) f ∧ w11.cell? ⟨b, o + k, none⟩ = some (.slice pv lf cv) := ⟨HBf.out.below HBr11.out, HCk.out _ HBr11.out⟩
        have HPut := Lib.hid (rfput_any (.slice pv lf cv) f w11 hrowk.1)
        have ck := hrowk.2
        have hpg := put_good HMy.out
        have HPR : Hid (∀ e w', PutR f w11 e w' → ∃ p3 c3, e = .returned (.tuple #[.slice p3 (lf + 8) c3, .int .i64 0]) ∧ Below w11.heap.size w11 w') := Lib.hid (by
          rintro e w' ⟨v, h1, h2, h3⟩
          rw [hpg.1] at h1
          rw [hpg.2] at h2
          obtain ⟨p3, c3, rfl⟩ := h2.form
          rw [frm_length, HLF.out] at h1
          exact ⟨p3, c3, h1, h3⟩)
        clear hok hrc hfb hsz hY2 hwn hpg hrowk hk1 hk2
        obtain ⟨lo, hlo⟩ : ∃ lo, lf + 8 = lo := ⟨_, rfl⟩
        rw [hlo] at HPR HY2 hwm
        clear hlo
        go_wp2_with fail
        refine HPut.out.mono ?_; intro e w13 h13
        obtain ⟨p3, c3, rfl, b13⟩ := HPR.out _ _ h13
        have HK13 := Lib.hid (HK11.out.later b13)
        have r1 := HK13.out.cell 0 rfl
        have B14 := below_one w13 (.cells #[.int .u64 (n : Int), .slice p11 ld c11] 25)
        have K14 := Blk.new w13 25 #[.int .u64 (n : Int), .slice p11 ld c11]
        have HO14 := Lib.hid (own_later11 (own_later11 HO11.out b13) B14)
        have HB14 := Lib.hid (then_ (then_ HB11.out b13) B14)
        have HSr := Lib.hid (src_rec K14 rfl rfl)
        have HY14 : Hid (∀ y ∈ ys ++ [(⟨n, .slice p11 ld c11, d⟩ : Rx)], OwnB (w13.alloc (.cells #[.int .u64 (n : Int), .slice p11 ld c11] 25)) w6.heap.size y.v y.d) := Lib.hid (fun y hy => by
          rcases List.mem_append.1 hy with h | h
          · exact ((HY11.out y h).below b13).below B14
          · rw [List.mem_singleton] at h; subst h
            have h2 := (HD11.out.below b13).below B14
            exact h2)
        obtain ⟨ys2, hys2⟩ : ∃ ys2, ys ++ [(⟨n, .slice p11 ld c11, d⟩ : Rx)] = ys2 := ⟨_, rfl⟩
        rw [hys2] at HY2 HCs HY14
        clear h13 b13 HPut HPR B14 K14 hys2
        go_wp2_with (at_builtin; refine wpList_append_src rfl _ _ 36 (by rfl) w6.heap.size 25 j0 (.agg #[.int .u64 0, .slice none 0 0]) 2 32 Tryz.underlying36 ji jz0 jz1 jz2 rfl (by decide) _ _ _ (by rfl) HO14.out _ 1 [.int .u64 (n : Int), .slice p11 ld c11] (by rfl) HSr.out (k + 1) (by rfl) (by unfold maxLen; omega) (by omega) (HB14.out.size) ?_; intro pA cA wA hownA hgrowA; have HOA := Lib.hid hownA; have HBA := Lib.hid (HB14.out.grown hgrowA HB14.out.size (fun j hj => (World.ownsRow.lt HO14.out j hj).1)); have HYA : Hid (∀ y ∈ ys2, OwnB wA w6.heap.size y.v y.d) := Lib.hid (fun y hy => own_apart12 (HY14.out y hy) HO14.out (by decide) hgrowA); clear hownA hgrowA)
        go_roundw
        case rel => exact ⟨k + 1, wh + lo, n, pA, cA, ys2, by omega, hwm, hnm, rfl, by go_num, rfl, by go_num, HY2, HYA, Lib.hid (by rw [HCs.out]; exact HOA.out), HBA⟩
        case measure => simp [intOf]; omega
    · obtain rfl : k = nf := by omega
      have hd : fs.drop k = [] := List.drop_of_length_le (by rw [HNF.out]; exact Nat.le_refl _)
      have hseg : segL L first = ys.map Rx.rc := by rw [HS.out, HY.out.2.2, hd, segF_nil, List.append_nil]
      have HF : Hid (wr.ownsRow w.heap.size 25 2 (.slice po k co) ys.length (cellsR ys) ∧ (∀ y ∈ ys, OwnB wr w.heap.size y.v y.d) ∧ ys.map Rx.rc = segL L first ∧ wholeS (segL L first) = wh) := Lib.hid ⟨ownR_base (by rw [HY.out.1]; exact HO.out) HB6.out.size, fun y hy => (HYo.out y hy).base HB6.out.size, hseg.symm, by rw [hseg]; exact HY.out.2.1⟩
      clear hd hseg
      go_wp2_with fail
      go_ret2
      exact ⟨.slice po k co, ys, by rw [HF.out.2.2.2]; rfl, HF.out.2.2.1, HF.out.1, HF.out.2.1, then_ HB6.out HB.out⟩
end Go.Proofs.YtelocbohiddpgaaGreatDoor.Crc
