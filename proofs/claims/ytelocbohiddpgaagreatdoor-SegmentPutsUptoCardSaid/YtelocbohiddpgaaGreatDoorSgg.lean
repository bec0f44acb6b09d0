/- Layer 12: taker and Split, walked. -/
import Derived.Test.YtelocbohiddpgaaGreatDoorSgf
set_option linter.unusedSimpArgs false
set_option linter.unusedVariables false
namespace Go.Proofs.YtelocbohiddpgaaGreatDoor.Crc
open Go Go.RowKit Gm
attribute [local go_sem ↓] Go.wp_at_zero Go.wp_at_succ

set_option maxRecDepth 100000 in
theorem taker_any (v : Value) (L : List UInt8) (w : World) (hE : Env w) (hB : Bs w v L) (hl : L.length ≤ maxSp) : Calls Tryz.prog 31 #[v] w fun e w' => ∃ (g : Nat) (xs : List Fx), e = .returned (.func (.func 68) #[] #[.pointer (some ⟨g, 0, none⟩)]) ∧ w.heap.size ≤ g ∧ xs.map Fx.r = splitR L ∧ Tk w.heap.size g xs 0 w' ∧ Below w.heap.size w w' := by
  have HS := Lib.hid (split_any v L w hE hB hl)
  obtain ⟨p, cap, rfl⟩ := hB.form
  clear hB hE
  go_enter Tryz.func31, Tryz.ntmps31
  go_wp2_with fail
  refine HS.out.mono ?_; rintro e w1 ⟨v1, rfl, ⟨xs, hxr, hxo, hxe⟩, b1⟩
  obtain ⟨p1, c1, rfl⟩ := own_shape hxo
  have hcap : xs.length ≤ c1 := by
    rcases hxo.2 with ⟨e, h0⟩ | ⟨g1, cap1, cur, e, _, _, h2, _⟩
    · simp only [Value.slice.injEq] at e; omega
    · simp only [Value.slice.injEq] at e; omega
  obtain ⟨wl, hwl⟩ : ∃ n, wholeL (splitR L) = n := ⟨_, rfl⟩
  rw [hwl]
  have B2 := below_one w1 (.cells #[.slice p1 xs.length c1] 74)
  have K2 := Blk.new w1 74 #[.slice p1 xs.length c1]
  have HT : Hid (Tk w.heap.size w1.heap.size xs 0 (w1.alloc (.cells #[.slice p1 xs.length c1] 74))) := Lib.hid ⟨_, p1, c1, own_later11 hxo B2, by rw [Nat.sub_zero]; exact K2, b1.size, by omega, fun hb hv hj => by
    rcases hxo.2 with ⟨e, h0⟩ | ⟨g1, cap1, cur, e, _, _, h2, _⟩
    · omega
    · simp only [Value.slice.injEq] at e
      rw [e.1] at hv ⊢
      simp only [Value.ownBlock, Option.some.injEq] at hv
      rw [hv], fun x hx => (hxe x hx).later B2⟩
  have HB := Lib.hid (then_ b1 B2)
  have HZ := Lib.hid b1.size
  have HX := Lib.hid hxr
  clear hwl hxo hxe hxr B2 K2 b1 hcap
  go_wp2_with fail
  go_ret
  exact ⟨w1.heap.size, xs, rfl, HZ.out, HX.out, HT.out, HB.out⟩
theorem infoRec12 : (Tryz.prog.info? 30).map (fun i => (i.zero, i.size, i.bytes)) = some (some (.agg #[.int .u64 0, .slice none 0 0]), 2, 32) := by kernel_rfl
/-- A record as it lies in a row: its number, its slice; its bytes. -/
structure Rx where
  n : Nat
  v : Value
  d : List UInt8
def Rx.rc (x : Rx) : Rc := ⟨x.n, x.d⟩
def encRx (x : Rx) : List Value := [.int .u64 (x.n : Int), x.v]
def cellsR (l : List Rx) : List Value := l.flatMap encRx
theorem cellsR_snoc (l : List Rx) (x : Rx) : cellsR (l ++ [x]) = cellsR l ++ encRx x := by simp [cellsR]
theorem cellsR_length (l : List Rx) : (cellsR l).length = l.length * 2 := by
  induction l with
  | nil => rfl
  | cons x l ih => simp only [cellsR, List.flatMap_cons, List.length_append, List.length_cons] at ih ⊢; rw [ih]; simp [encRx]; omega
theorem src_rec {w : World} {g : Nat} {t : TypeId} {a b : Value} (h : Blk w g t #[a, b]) (ha : a.oneCell' = true) (hb : b.oneCell' = true) : Src w (.slice (some ⟨g, 0, none⟩) 1 1) 1 2 [a, b] := by
  refine .inr ⟨⟨g, 0, none⟩, 1, rfl, rfl, fun j u hu => ?_, fun u hu => ?_⟩
  · have h0 := h.cell j (u := u) (by simpa using hu)
    rw [add0_11]; exact h0
  · simp only [List.mem_cons, List.not_mem_nil, or_false] at hu
    rcases hu with rfl | rfl
    · exact ha
    · exact hb
/-- A record's bytes lie in a frame's record, in memory of its own. -/
def DRec (w : World) (base : Nat) (v : Value) (d : List UInt8) : Prop := ∃ vf f, Rec w base vf f ∧ ∀ V, Bs V vf f → Bs V v d
theorem DRec.bs {w : World} {base : Nat} {v : Value} {d : List UInt8} (h : DRec w base v d) : Bs w v d := by
  obtain ⟨vf, f, h1, h2⟩ := h
  exact h2 _ h1.bs
theorem DRec.later {w w' : World} {base : Nat} {v : Value} {d : List UInt8} (h : DRec w base v d) (hb : Below w.heap.size w w') : DRec w' base v d := by
  obtain ⟨vf, f, h1, h2⟩ := h
  exact ⟨vf, f, h1.later hb, h2⟩
/-- What a Split leaves. -/
def SplitS (L : List UInt8) (first : Nat) (w : World) (e : Ending) (w' : World) : Prop := ∃ (v : Value) (ys : List Rx), e = .returned (.tuple #[v, .int .i64 (wholeS (segL L first) : Nat)]) ∧ ys.map Rx.rc = segL L first ∧ w'.ownsRow w.heap.size 30 2 v ys.length (cellsR ys) ∧ (∀ y ∈ ys, DRec w' w.heap.size y.v y.d) ∧ Below w.heap.size w w'
theorem tk_rec {base g : Nat} {xs : List Fx} {j : Nat} {W : World} (h : Tk base g xs j W) : ∀ x ∈ xs, Rec W base x.v x.r := by
  obtain ⟨v, p, cj, _, _, _, _, _, h6⟩ := h
  exact h6
set_option maxHeartbeats 8000000 in
set_option maxRecDepth 100000 in
theorem ssplit_any (v : Value) (L : List UInt8) (first : Nat) (hf : first < 18446744073709551616) (w : World) (hE : Env w) (hP : PartsIs w) (hB : Bs w v L) (hl : L.length ≤ maxSp) : Calls Tryz.prog 8 #[v, .int .u64 (first : Int)] w (SplitS L first w) := by
  obtain ⟨j0, ji, jz0, jz1, jz2⟩ := info_parts infoRec12
  have HIs := Lib.hid (isnum_any first w hP)
  have HTk := Lib.hid (fun X (h : Below w.heap.size w X) => taker_any v L X (hE.below h) (hB.below h) hl)
  obtain ⟨p, cap, rfl⟩ := hB.form
  have HP := Lib.hid hP
  have HMay := Lib.hid (split_may L)
  have hsl : (splitR L).length ≤ 1099511627776 := by
    have h1 := split_le L
    have h2 : ∀ l : List (List UInt8), l.length ≤ wholeL l := fun l => by
      induction l with
      | nil => exact Nat.zero_le _
      | cons r l ih => rw [wholeL_cons, List.length_cons]; omega
    exact Nat.le_trans (Nat.le_trans (h2 _) h1) hl
  unfold SplitS
  cases ho : okN first with
  | false =>
    have hs : segL L first = [] := by unfold segL; rw [ho]; rfl
    rw [ho] at HIs
    have HS := Lib.hid hs
    clear hB hE hP hs ho HTk hl hsl HMay
    generalize L.length = m at *
    go_enter Tryz.func8, Tryz.ntmps8
    go_wp2_with fail
    refine HIs.out.mono ?_; rintro e w1 ⟨rfl, b1⟩
    go_wp2_with fail
    go_ret2
    exact ⟨_, [], by rw [HS.out]; rfl, by rw [HS.out]; rfl, World.ownsRow_nil _ _ _ _, (fun y hy => by cases hy), b1⟩
  | true =>
    have hs : segL L first = segF first (splitR L) := by unfold segL; rw [ho, if_pos rfl]
    rw [ho] at HIs
    have HS := Lib.hid hs
    have hwl := seg_le L first
    have hfo := (okN_iff first).1 ho
    clear hB hE hP hs ho
    have hlm : L.length ≤ 1099511627776 := hl
    obtain ⟨m, hm⟩ : ∃ m, L.length = m := ⟨_, rfl⟩
    rw [hm] at HTk hlm hwl ⊢
    have HWL := Lib.hid hwl
    clear hl hm hwl
    go_enter Tryz.func8, Tryz.ntmps8
    go_wp2_with fail
    refine HIs.out.mono ?_; rintro e w1 ⟨rfl, b1⟩
    have HB1 := Lib.hid b1
    clear b1 HIs
    go_wp2_with fail
    refine (HTk.out _ HB1.out).mono ?_; rintro e w2 ⟨g, xs, rfl, hg, hxr, ht, b2⟩
    have HT := Lib.hid ht
    have HB2 := Lib.hid (then_ HB1.out b2)
    have HXR := Lib.hid hxr
    have hxl : xs.length ≤ 1099511627776 := by rw [← List.length_map (f := Fx.r), hxr]; exact hsl
    have HMx : Hid (∀ x ∈ xs, mayR x.r = true) := Lib.hid (fun x hx => HMay.out _ (by rw [← hxr]; exact List.mem_map.2 ⟨x, hx, rfl⟩))
    have HG : Hid (w.heap.size ≤ g) := Lib.hid (Nat.le_trans HB1.out.size hg)
    have hz1 : w.heap.size ≤ w1.heap.size := HB1.out.size
    obtain ⟨base, hbase⟩ : ∃ base, w1.heap.size = base := ⟨_, rfl⟩
    rw [hbase] at HT hz1
    have HBs := Lib.hid hz1
    clear ht b2 hxr hg HTk HMay hsl hz1 hbase
    go_wp2_with fail
    go_loopw [6, 7, 9] (fun lv wv nv wr => ∃ (j lst wh : Nat) (pl : Option Addr) (cl : Nat) (ys : List Rx), j ≤ xs.length ∧ wh ≤ m ∧ lst ≤ 1099511627777 ∧ lv = .slice pl j cl ∧ wv = .int .i64 (wh : Nat) ∧ nv = .int .u64 (lst : Nat) ∧ Hid (ys.length = j ∧ wholeS (ys.map Rx.rc) = wh ∧ segF first (splitR L) = ys.map Rx.rc ++ segF lst ((xs.map Fx.r).drop j)) ∧ Hid (wr.ownsRow w.heap.size 30 2 (.slice pl j cl) j (cellsR ys)) ∧ Hid (Tk base g xs j wr) ∧ Hid (∀ y ∈ ys, ∃ x ∈ xs, ∀ V, Bs V x.v x.r → Bs V y.v y.d) ∧ Hid (Below w.heap.size w wr)) (fun lv _ _ _ => xs.length - (match lv with | .slice _ n _ => n | _ => 0))
    case atStart => exact ⟨0, first, 0, none, 0, [], Nat.zero_le _, Nat.zero_le _, by omega, rfl, rfl, rfl, Lib.hid ⟨rfl, rfl, by rw [HXR.out]; rfl⟩, Lib.hid (World.ownsRow_nil _ _ _ _), HT, Lib.hid (fun y hy => by cases hy), HB2⟩
    case round =>
      obtain ⟨j, lst, wh, pl, cl, ys, hj, hwh, hlst, rfl, rfl, rfl, HY, HO, HTj, HD, HBr⟩ := hrel
      have HTc := Lib.hid (take12 base g xs j lst (by omega) (by omega) HMx.out wr (HP.out.below HBr.out) HTj.out hj)
      have hgb := HTj.out.form
      obtain ⟨pb, cb, hgb, _⟩ := hgb
      have HAp := Lib.hid (hgb.apart HO.out (by decide))
      have hgl := hgb.lt
      clear hgb
      go_wp2_with fail
      refine HTc.out.mono ?_; rintro e w3 ⟨hg3, hc⟩
      have HO3 := Lib.hid (World.ownsRow.kept HO.out hg3 (.inr HAp.out))
      have HB3 := Lib.hid (HBr.out.grown hg3 HBr.out.size (fun k hk => by cases hk; exact HG.out))
      clear hg3 HTc
      rcases hc with ⟨rfl, hs, ht⟩ | ⟨hj2, r, pv, cv, hr, hle, rfl, hv, ht⟩
      · have HT3 := Lib.hid ht
        have hseg : segL L first = ys.map Rx.rc := by rw [HS.out, HY.out.2.2, hs, List.append_nil]
        have HSeg := Lib.hid hseg
        clear hs ht hseg
        go_wp2_with fail
        go_ret2
        have hb := below_one w3 (.cells #[.int .u64 0, .slice none 0 0] 30)
        refine ⟨.slice pl j cl, ys, by rw [HSeg.out, HY.out.2.1]; rfl, HSeg.out.symm, by rw [HY.out.1]; exact own_later11 HO3.out hb, fun y hy => ?_, then_ HB3.out hb⟩
        obtain ⟨x, hx, hxy⟩ := HD.out y hy
        exact ⟨x.v, x.r, ((tk_rec HT3.out x hx).base HBs.out).later hb, hxy⟩
      · have HR := Lib.hid hr
        have HV := Lib.hid hv
        have HT3 := Lib.hid ht
        have hok := (rec_is hr).1
        have hrn := ((okRc_iff r).1 hok).1
        have hsz : sizeF r ≤ 1518 := by have := body_len hok; unfold sizeF; omega
        have hdr : (xs.map Fx.r).drop j = xs[j].r :: (xs.map Fx.r).drop (j + 1) := by
          rw [List.drop_eq_getElem_cons (by rw [List.length_map]; exact hj2), List.getElem_map]
        have hsn : segF first (splitR L) = (ys ++ [(⟨r.n, .slice pv r.d.length cv, r.d⟩ : Rx)]).map Rx.rc ++ segF (r.n + 1) ((xs.map Fx.r).drop (j + 1)) := by
          rw [HY.out.2.2, hdr, segF_some hr hle, List.map_append, List.append_assoc]
          rfl
        have hwn : wholeS ((ys ++ [(⟨r.n, .slice pv r.d.length cv, r.d⟩ : Rx)]).map Rx.rc) = wh + sizeF r := by
          rw [List.map_append, wholeS_app, HY.out.2.1]
          show wh + wholeS [r] = _
          rw [wholeS_cons, wholeS_nil, Nat.add_zero]
        have hwm : wh + sizeF r ≤ m := by
          have h1 := HWL.out
          rw [HS.out, hsn, wholeS_app, hwn] at h1
          omega
        have HD2 : Hid (∀ y ∈ ys ++ [(⟨r.n, .slice pv r.d.length cv, r.d⟩ : Rx)], ∃ x ∈ xs, ∀ V, Bs V x.v x.r → Bs V y.v y.d) := Lib.hid (fun y hy => by
          rcases List.mem_append.1 hy with h | h
          · exact HD.out y h
          · rw [List.mem_singleton] at h; subst h
            exact ⟨_, List.getElem_mem hj2, hv⟩)
        have HY2 : Hid ((ys ++ [(⟨r.n, .slice pv r.d.length cv, r.d⟩ : Rx)]).length = j + 1 ∧ wholeS ((ys ++ [(⟨r.n, .slice pv r.d.length cv, r.d⟩ : Rx)]).map Rx.rc) = wh + sizeF r ∧ segF first (splitR L) = (ys ++ [(⟨r.n, .slice pv r.d.length cv, r.d⟩ : Rx)]).map Rx.rc ++ segF (r.n + 1) ((xs.map Fx.r).drop (j + 1))) := Lib.hid ⟨by rw [List.length_append, HY.out.1]; rfl, hwn, hsn⟩
        have HCs : Hid (cellsR (ys ++ [(⟨r.n, .slice pv r.d.length cv, r.d⟩ : Rx)]) = cellsR ys ++ [.int .u64 (r.n : Int), .slice pv r.d.length cv]) := Lib.hid (by rw [cellsR_snoc]; rfl)
        obtain ⟨ys2, hys2⟩ : ∃ ys2, ys ++ [(⟨r.n, .slice pv r.d.length cv, r.d⟩ : Rx)] = ys2 := ⟨_, rfl⟩
        rw [hys2] at HD2 HY2 HCs
        obtain ⟨N, hN⟩ : ∃ N, r.n = N := ⟨_, rfl⟩
        obtain ⟨nd, hnd⟩ : ∃ nd, r.d.length = nd := ⟨_, rfl⟩
        obtain ⟨sz, hsze⟩ : ∃ sz, sizeF r = sz := ⟨_, rfl⟩
        rw [hN] at hrn HY2 HCs
        rw [hnd] at HCs
        rw [hsze] at HY2 hwm hsz
        rw [hN, hnd, hsze]
        have B4 := below_one w3 (.cells #[.int .u64 (N : Int), .slice pv nd cv] 30)
        have K4 := Blk.new w3 30 #[.int .u64 (N : Int), .slice pv nd cv]
        have HO4 := own_later11 HO3.out B4
        have HT4 := HT3.out.below B4
        have hz4 : (w3.alloc (.cells #[.int .u64 (N : Int), .slice pv nd cv] 30)).heap.size = w3.heap.size + 1 := by simp
        have hzo : ∀ k, (Value.slice pl j cl).ownBlock = some k → w.heap.size ≤ k ∧ k < w3.heap.size := fun k hk => World.ownsRow.lt HO3.out k hk
        obtain ⟨z, hz⟩ : ∃ z, w3.heap.size = z := ⟨_, rfl⟩
        obtain ⟨W4, hW4⟩ : ∃ W4, w3.alloc (.cells #[.int .u64 (N : Int), .slice pv nd cv] 30) = W4 := ⟨_, rfl⟩
        rw [hW4] at B4 K4 HO4 HT4 hz4
        rw [hz] at K4 hz4 hzo
        have B5 := below_one W4 (.cells #[.int .u64 (N : Int), .slice pv nd cv] 30)
        have K5 := Blk.new W4 30 #[.int .u64 (N : Int), .slice pv nd cv]
        have HO5 := Lib.hid (own_later11 HO4 B5)
        have HT5 := Lib.hid (HT4.below B5)
        have HK5 := Lib.hid (K4.later B5)
        have HSr := Lib.hid (src_rec K5 rfl rfl)
        have HB5 := Lib.hid ((then_ HB3.out (by rw [← hz] at hz4; exact B4) : Below w.heap.size w W4).trans (B5.mono (Nat.le_trans HB3.out.size B4.size)))
        have HZo := Lib.hid hzo
        have HW4 := Lib.hid hW4
        have HZ := Lib.hid hz
        have k0 := K4.cell 0 rfl
        have k1 := K4.cell 1 rfl
        have hj1 : (j + 1) * 32 ≤ 140737488355328 := by omega
        have hs5 : w.heap.size ≤ (W4.alloc (.cells #[.int .u64 (N : Int), .slice pv nd cv] 30)).heap.size := HB5.out.size
        clear hr hv ht hok hdr hsn hwn hys2 hN hnd hsze B4 K4 HO4 HT4 hz4 hzo hW4 hz B5 K5
        go_upto_region 10 with (fail)
        rw [HW4.out, HZ.out]
        go_wp2_with (at_builtin; refine wpList_append_src rfl _ _ 33 (by rfl) w.heap.size 30 j0 (.agg #[.int .u64 0, .slice none 0 0]) 2 32 Tryz.underlying33 ji jz0 jz1 jz2 rfl (by decide) _ _ _ (by rfl) HO5.out _ 1 [.int .u64 (N : Int), .slice pv nd cv] (by rfl) HSr.out (j + 1) (by rfl) (by unfold maxLen; omega) hj1 hs5 ?_; intro pA cA wA hownA hgrowA; have HOf := Lib.hid hownA; have HBf := Lib.hid (HB5.out.grown hgrowA hs5 (fun k hk => (HZo.out k hk).1)); have HTf := Lib.hid (HT5.out.grown HO5.out hgrowA); have kz := (HK5.out.grown hgrowA (fun e => by have := (HZo.out _ e).2; omega)).cell 0 rfl; clear hownA hgrowA)
        go_roundw
        case rel => exact ⟨j + 1, N + 1, wh + sz, pA, cA, ys2, hj2, hwm, by omega, rfl, by go_num, by go_num, HY2, Lib.hid (by rw [HCs.out]; exact HOf.out), HTf, HD2, HBf⟩
        case measure => simp; omega
end Go.Proofs.YtelocbohiddpgaaGreatDoor.Crc
