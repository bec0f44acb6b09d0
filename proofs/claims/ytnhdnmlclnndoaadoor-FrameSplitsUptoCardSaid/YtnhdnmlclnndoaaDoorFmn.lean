/- Layer 11: made: the frames of records that may be, and these records. -/
import Derived.Test.YtnhdnmlclnndoaaDoorFmk
import Derived.Test.YtnhdnmlclnndoaaDoorFmi
import Derived.Test.YtnhdnmlclnndoaaDoorYua
set_option linter.unusedSimpArgs false
set_option linter.unusedVariables false
namespace Go.Proofs.YtnhdnmlclnndoaaDoor.Crc
open Go Go.RowKit Gm
attribute [local go_sem ↓] Go.wp_at_zero Go.wp_at_succ

def madeL (l : List (List UInt8)) : List (List UInt8) := (l.filter mayR).take 40
def madeK (l : List (List UInt8)) (k : Nat) : List (List UInt8) := (l.take k).filter mayR
theorem madeK_next {l : List (List UInt8)} {k : Nat} (hk : k < l.length) : madeK l (k + 1) = madeK l k ++ (if mayR (l.getD k []) then [l.getD k []] else []) := by
  unfold madeK
  rw [List.take_succ_eq_append_getElem hk, List.filter_append, getD_at11 hk]
  cases h : mayR l[k] <;> simp [List.filter, h]
theorem madeK_all {l : List (List UInt8)} {k : Nat} (h40 : (madeK l k).length ≤ 40) (h : k = l.length ∨ (madeK l k).length = 40) : madeL l = madeK l k := by
  unfold madeL
  rcases h with h | h
  · have e : madeK l k = l.filter mayR := by unfold madeK; rw [h, List.take_length]
    rw [e] at h40 ⊢
    exact List.take_of_length_le h40
  · have e : l.filter mayR = madeK l k ++ (l.drop k).filter mayR := by unfold madeK; rw [← List.filter_append, List.take_append_drop]
    rw [e]
    exact List.take_left' h
theorem made_may {l : List (List UInt8)} : ∀ r ∈ madeL l, mayR r = true := fun r hr => (List.mem_filter.1 (List.mem_of_mem_take hr)).2
theorem made_len (l : List (List UInt8)) : (madeL l).length ≤ 40 := by unfold madeL; rw [List.length_take]; omega
theorem whole_le : ∀ (l : List (List UInt8)), (∀ r ∈ l, mayR r = true) → wholeL l ≤ l.length * 2056
  | [], _ => Nat.zero_le _
  | r :: l, h => by
    have h1 := (mayR_iff r).1 (h r (by simp))
    have h2 := whole_le l (fun x hx => h x (by simp [hx]))
    rw [wholeL_cons, List.length_cons]
    omega
theorem src_one {w : World} {g : Nat} {t : TypeId} {v : Value} (h : Blk w g t #[v]) (hv : v.oneCell' = true) : Src w (.slice (some ⟨g, 0, none⟩) 1 1) 1 1 [v] := by
  refine .inr ⟨⟨g, 0, none⟩, 1, rfl, rfl, fun j u hu => ?_, fun u hu => ?_⟩
  · have hj : j = 0 := by
      cases j with
      | zero => rfl
      | succ j => simp at hu
    subst hj
    have h0 := h.cell 0 (u := u) (by simpa using hu)
    simpa [add0_11] using h0
  · rw [List.mem_singleton] at hu; subst hu; exact hv
/-- What made leaves. -/
def MadeR (l : List (List UInt8)) (w : World) (e : Ending) (w' : World) : Prop := ∃ v1 v2, e = .returned (.tuple #[v1, v2]) ∧ OwnB w' w.heap.size v1 (frms (madeL l)) ∧ RowR w' v2 (madeL l) ∧ Below w.heap.size w w'
theorem own_apart11 {w w' : World} {base base2 : Nat} {t t2 : TypeId} {size size2 n n2 : Nat} {v v2 : Value} {xs xs2 : List Value} (h : w.ownsRow base t size v n xs) (h2 : w.ownsRow base2 t2 size2 v2 n2 xs2) (ht : t ≠ t2) (hg : w.grownBy w' v2.ownBlock) : w'.ownsRow base t size v n xs := by
  refine h.kept hg ?_
  rcases h.2 with ⟨rfl, _⟩ | ⟨g, cap, cur, rfl, _, hh, _⟩
  · exact .inl rfl
  · refine .inr fun e => ?_
    rcases h2.2 with ⟨rfl, _⟩ | ⟨g2, cap2, cur2, rfl, _, hh2, _⟩
    · simp [Value.ownBlock] at e
    · have : g = g2 := by simpa [Value.ownBlock] using e
      subst this
      rw [hh] at hh2
      simp only [Option.some.injEq, Obj.cells.injEq] at hh2
      exact ht hh2.2.1
set_option maxHeartbeats 8000000 in
set_option maxRecDepth 100000 in
theorem made_any (v : Value) (l : List (List UInt8)) (W : World) (hE : Env W) (hR : RowR W v l) (hl : l.length ≤ maxTk) : Calls Tryd.prog 17 #[v] W (MadeR l W) := by
  obtain ⟨i0, ii, iz0, iz1, iz2⟩ := info_parts infoB
  obtain ⟨j0, ji, jz0, jz1, jz2⟩ := info_parts infoSl11
  unfold maxTk at hl
  obtain ⟨p, cap, rfl, hc⟩ := hR
  have HC := Lib.hid hc
  have HE := Lib.hid hE
  unfold MadeR
  obtain ⟨n, hn⟩ : ∃ n, l.length = n := ⟨_, rfl⟩
  have HN := Lib.hid hn
  rw [hn] at hl ⊢
  clear hc hE hn
  go_enter Tryd.func17, Tryd.ntmps17
  go_wp2_with fail
  go_loopw [4, 5, 6] (fun vb vo i wr => ∃ (k X nB : Nat) (pb po : Option Addr) (cb co : Nat) (xs : List Fx), k ≤ n ∧ X ≤ 40 ∧ i = .int .i64 k ∧ vb = .slice pb nB cb ∧ vo = .slice po X co ∧ Hid (xs.map Fx.r = madeK l k ∧ xs.length = X ∧ (frms (madeK l k)).length = nB ∧ ∀ x ∈ xs, Bs W x.v x.r) ∧ Hid (OwnB wr W.heap.size (.slice pb nB cb) (frms (madeK l k))) ∧ Hid (wr.ownsRow W.heap.size 22 1 (.slice po X co) X (xs.map Fx.v)) ∧ Hid (Below W.heap.size W wr)) (fun _ _ i _ => n - (intOf i).toNat)
  case atStart => exact ⟨0, 0, 0, none, none, 0, 0, [], Nat.zero_le _, by omega, rfl, rfl, rfl, Lib.hid ⟨rfl, rfl, rfl, fun x hx => by cases hx⟩, Lib.hid (OwnB.nil _ _), Lib.hid (World.ownsRow_nil _ _ _ _), Lib.hid (Below.refl _ _)⟩
  case round =>
    obtain ⟨k, X, nB, pb, po, cb, co, xs, hk, hX, rfl, rfl, rfl, HX, HB, HO, HL⟩ := hrel
    by_cases hkn : k < n ∧ X < 40
    · obtain ⟨hkn, hX40⟩ := hkn
      have hkl : k < l.length := by rw [HN.out]; exact hkn
      obtain ⟨b, o, vj, rfl, hbl, hcell, hbs⟩ := HC.out k hkl
      have hnext := madeK_next hkl
      obtain ⟨pk, ck, rfl⟩ := hbs.form
      obtain ⟨r, hr⟩ : ∃ r, l.getD k [] = r := ⟨_, rfl⟩
      rw [hr] at hbs hnext hcell
      have d1 := (HL.out.cell (p := ⟨b, o + k, none⟩) hbl).trans hcell
      have hidx := idx_r (some ⟨b, o, none⟩) b o n cap k rfl hkn
      have HP := Lib.hid (fput_any _ r wr (HE.out.below HL.out) (hbs.below HL.out))
      have HBS := Lib.hid hbs
      have HCk := Lib.hid (fun X (h : Below W.heap.size W X) => (h.cell (p := ⟨b, o + k, none⟩) hbl).trans hcell)
      have HNX := Lib.hid hnext
      clear hbs hnext hcell hbl hkl hr
      cases hm : mayR r with
      | false =>
        have h0 : putE r ≠ 0 := by
          rcases put_cases r with h | h | h
          · rw [(put_none h).1]; decide
          · rw [(put_long h).1]; decide
          · rw [hm] at h; cases h
        have HN2 : Hid (madeK l (k + 1) = madeK l k) := Lib.hid (by rw [HNX.out, hm]; simp)
        unfold PutR at HP
        generalize putE r = er at HP h0
        generalize putB r = br at HP
        clear hm HNX
        go_wp2_with fail
        refine HP.out.mono ?_; rintro e w1 ⟨v1, rfl, ho1, b1⟩
        obtain ⟨p1, c1, rfl⟩ := ho1.form
        have HB1 := Lib.hid (HB.out.below b1)
        have HO1 := Lib.hid (own_later11 HO.out b1)
        have HL1 := Lib.hid (HL.out.trans (b1.mono HL.out.size))
        clear ho1 b1 HP
        go_wp2_with fail
        go_roundw
        case rel => exact ⟨k + 1, X, nB, pb, po, cb, co, xs, by omega, hX, by go_num, rfl, rfl, Lib.hid (by rw [HN2.out]; exact HX.out), by rw [HN2.out]; exact HB1, HO1, HL1⟩
        case measure => simp [intOf]; omega
      | true =>
        have HN2 : Hid (madeK l (k + 1) = madeK l k ++ [r]) := Lib.hid (by rw [HNX.out, hm]; simp)
        have hml := (mayR_iff r).1 hm
        have HM := Lib.hid hm
        have hnB : nB ≤ 82240 := by
          have h1 := whole_le (madeK l k) (fun x hx => (List.mem_filter.1 hx).2)
          rw [← frms_length, HX.out.2.2.1] at h1
          have h2 : (madeK l k).length = X := by rw [← HX.out.1, List.length_map, HX.out.2.1]
          rw [h2] at h1
          omega
        clear hm HNX
        go_wp2_with fail
        refine HP.out.mono ?_; intro e w1 h1
        obtain ⟨p1, c1, rfl, ho1, b1⟩ := h1.good HM.out
        have HS1 := Lib.hid (fun X (h : Below w1.heap.size w1 X) => (ho1.bs.below h).src)
        have HB1 := Lib.hid (HB.out.below b1)
        have HO1 := Lib.hid (own_later11 HO.out b1)
        have HL1 := Lib.hid (HL.out.trans (b1.mono HL.out.size))
        have d2 := (b1.cell (p := ⟨b, o + k, none⟩) (World.block_lt_of_cell? _ _ d1)).trans d1
        have HB1w : Hid (w1.ownsRow W.heap.size 5 1 (.slice pb nB cb) nB (cellsB (frms (madeK l k)))) := Lib.hid (by have h := HB1.out; unfold OwnB at h; rw [HX.out.2.2.1] at h; exact h)
        have HKn : Hid ((Value.slice pb nB cb).ownBlock ≠ some w1.heap.size) := Lib.hid (fun e => by have := (World.ownsRow.lt HB1w.out _ e).2; omega)
        have HK0 := Lib.hid (Blk.new w1 22 #[.slice pk r.length ck])
        have HL1a := Lib.hid (HL1.out.trans ((below_one w1 (.cells #[.slice pk r.length ck] 22)).mono HL1.out.size))
        obtain ⟨nF, hnF⟩ : ∃ nF, r.length + 8 = nF := ⟨_, rfl⟩
        have HNF : Hid ((frm r).length = nF) := Lib.hid (by rw [frm_length, hnF])
        rw [HNF.out, hnF] at HS1
        rw [hnF]
        have hnF2 : nF ≤ 2056 := by omega
        obtain ⟨nR, hnR⟩ : ∃ nR, r.length = nR := ⟨_, rfl⟩
        have HNR := Lib.hid hnR
        rw [hnR] at d2 HCk HL1a HK0 ⊢
        clear h1 ho1 b1 HP d1 hml hnF hnR
        go_wp2_with fail
        go_region_law (first | (refine step_append_src rfl _ _ 22 (by rfl) W.heap.size 5 i0 (.int .u8 0) 1 1 Tryd.underlying22 ii iz0 iz1 iz2 rfl (by decide) _ _ _ (by rfl) (own_later11 HB1w.out (Below.refl _ w1).drew) _ nF (cellsB (frm r)) (by rfl) (HS1.out _ (Below.refl _ w1).drew) (nB + nF) (by rfl) (by unfold maxLen; omega) (by omega) (HL1.out.size) ?_; intro pA cA wA hownA hgrowA; have HB5 := Lib.hid hownA; have HL5 := Lib.hid ((HL1.out.drew).grown hgrowA (HL1.out.size) (fun j hj => (World.ownsRow.lt (own_later11 HB1w.out (Below.refl _ w1).drew) j hj).1)); have HO5 := Lib.hid (own_apart11 (own_later11 HO1.out (Below.refl _ w1).drew) (own_later11 HB1w.out (Below.refl _ w1).drew) (by decide) hgrowA); have d3 := HCk.out _ HL5.out; clear hownA hgrowA) | (refine step_append_src rfl _ _ 22 (by rfl) W.heap.size 5 i0 (.int .u8 0) 1 1 Tryd.underlying22 ii iz0 iz1 iz2 rfl (by decide) _ _ _ (by rfl) (own_later11 HB1w.out ((below_one w1 (.cells #[.slice pk nR ck] 22)).drew)) _ nF (cellsB (frm r)) (by rfl) (HS1.out _ ((below_one w1 (.cells #[.slice pk nR ck] 22)).drew)) (nB + nF) (by rfl) (by unfold maxLen; omega) (by omega) (HL1a.out.size) ?_; intro pA cA wA hownA hgrowA; have HB6 := Lib.hid hownA; have HL6 := Lib.hid ((HL1a.out.drew).grown hgrowA (HL1a.out.size) (fun j hj => (World.ownsRow.lt (own_later11 HB1w.out ((below_one w1 (.cells #[.slice pk nR ck] 22)).drew)) j hj).1)); have HO6 := Lib.hid (own_apart11 (own_later11 HO1.out ((below_one w1 (.cells #[.slice pk nR ck] 22)).drew)) (own_later11 HB1w.out ((below_one w1 (.cells #[.slice pk nR ck] 22)).drew)) (by decide) hgrowA); have HK6 := Lib.hid ((HK0.out.later (Below.refl _ (w1.alloc (.cells #[.slice pk nR ck] 22))).drew).grown hgrowA HKn.out); clear hownA hgrowA) | (refine step_append_src rfl _ _ 31 (by rfl) W.heap.size 22 j0 (.slice none 0 0) 1 24 Tryd.underlying31 ji jz0 jz1 jz2 rfl (by decide) _ _ _ (by rfl) (own_later11 HO5.out (below_one wA (.cells #[.slice pk nR ck] 22))) _ 1 [.slice pk nR ck] (by rfl) (src_one (Blk.new wA 22 #[.slice pk nR ck]) rfl) (X + 1) (by rfl) (by unfold maxLen; omega) (by omega) (by have := HL5.out.size; simp; omega) ?_; intro pO cO wO hownO hgrowO; have HOf := Lib.hid hownO; have HLf := Lib.hid ((HL5.out.trans ((below_one wA (.cells #[.slice pk nR ck] 22)).mono HL5.out.size)).grown hgrowO (by have := HL5.out.size; simp; omega) (fun j hj => (World.ownsRow.lt (own_later11 HO5.out (below_one wA (.cells #[.slice pk nR ck] 22))) j hj).1)); have HBf := Lib.hid (own_apart11 (own_later11 HB5.out (below_one wA (.cells #[.slice pk nR ck] 22))) (own_later11 HO5.out (below_one wA (.cells #[.slice pk nR ck] 22))) (by decide) hgrowO); clear hownO hgrowO) | (refine step_append_src rfl _ _ 31 (by rfl) W.heap.size 22 j0 (.slice none 0 0) 1 24 Tryd.underlying31 ji jz0 jz1 jz2 rfl (by decide) _ _ _ (by rfl) (HO6.out) _ 1 [.slice pk nR ck] (by rfl) (src_one HK6.out rfl) (X + 1) (by rfl) (by unfold maxLen; omega) (by omega) (HL6.out.size) ?_; intro pO cO wO hownO hgrowO; have HOf := Lib.hid hownO; have HLf := Lib.hid ((HL6.out).grown hgrowO (HL6.out.size) (fun j hj => (World.ownsRow.lt (HO6.out) j hj).1)); have HBf := Lib.hid (own_apart11 (HB6.out) (HO6.out) (by decide) hgrowO); clear hownO hgrowO))
        all_goals
          have HBn : Hid (OwnB wO W.heap.size (.slice pA (nB + nF) cA) (frms (madeK l (k + 1)))) := Lib.hid (by rw [HN2.out, frms_snoc]; exact ownB_app HBf.out (by rw [HX.out.2.2.1, HNF.out]))
          have HXn : Hid ((xs ++ [(⟨.slice pk nR ck, r, 0⟩ : Fx)]).map Fx.r = madeK l (k + 1) ∧ (xs ++ [(⟨.slice pk nR ck, r, 0⟩ : Fx)]).length = X + 1 ∧ (frms (madeK l (k + 1))).length = nB + nF ∧ ∀ x ∈ xs ++ [(⟨.slice pk nR ck, r, 0⟩ : Fx)], Bs W x.v x.r) := Lib.hid ⟨by rw [List.map_append, HX.out.1, HN2.out]; rfl, by rw [List.length_append, HX.out.2.1]; rfl, by rw [HN2.out, frms_snoc, List.length_append, HX.out.2.2.1, HNF.out], fun x hx => by
            rcases List.mem_append.1 hx with h | h
            · exact HX.out.2.2.2 x h
            · rw [List.mem_singleton] at h; subst h; have := HBS.out; rw [HNR.out] at this; exact this⟩
          have HOn : Hid (wO.ownsRow W.heap.size 22 1 (.slice pO (X + 1) cO) (X + 1) ((xs ++ [(⟨.slice pk nR ck, r, 0⟩ : Fx)]).map Fx.v)) := Lib.hid (by rw [List.map_append]; exact HOf.out)
          obtain ⟨ys, hys⟩ : ∃ ys, xs ++ [(⟨.slice pk nR ck, r, 0⟩ : Fx)] = ys := ⟨_, rfl⟩
          rw [hys] at HXn HOn
          clear hys
          go_wp2_with fail
          go_roundw
          case rel => exact ⟨k + 1, X + 1, nB + nF, pA, pO, cA, cO, ys, by omega, by omega, by go_num, rfl, rfl, HXn, HBn, HOn, HLf⟩
          case measure => simp [intOf]; omega
    · have hend : madeL l = madeK l k := madeK_all (by
        have h : (madeK l k).length = X := by rw [← HX.out.1, List.length_map, HX.out.2.1]
        rw [h]; exact hX) (by
        have h : (madeK l k).length = X := by rw [← HX.out.1, List.length_map, HX.out.2.1]
        rw [h, HN.out]; omega)
      have HF : Hid (OwnB wr W.heap.size (.slice pb nB cb) (frms (madeL l)) ∧ RowR wr (.slice po X co) (madeL l) ∧ Below W.heap.size W wr) := Lib.hid (by
        rw [hend]
        refine ⟨HB.out, ?_, HL.out⟩
        have h := HO.out
        rw [← HX.out.2.1] at h ⊢
        rw [← HX.out.1]
        exact rowR_own h (fun x hx => (HX.out.2.2.2 x hx).below HL.out))
      clear HX HB HO HL hend
      by_cases hkn2 : k < n
      · obtain rfl : X = 40 := by omega
        go_wp2_with fail
        go_ret2
        exact ⟨_, _, rfl, HF.out.1, HF.out.2.1, HF.out.2.2⟩
      · obtain rfl : k = n := by omega
        go_wp2_with fail
        go_ret2
        exact ⟨_, _, rfl, HF.out.1, HF.out.2.1, HF.out.2.2⟩
end Go.Proofs.YtnhdnmlclnndoaaDoor.Crc
