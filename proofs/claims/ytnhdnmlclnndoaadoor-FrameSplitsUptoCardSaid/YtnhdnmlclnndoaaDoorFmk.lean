/- Layer 11: the chapter's rows that each statement asks first: wakes. -/
import Derived.Test.YtnhdnmlclnndoaaDoorFmh
import Derived.Test.YtnhdnmlclnndoaaDoorGd
set_option linter.unusedSimpArgs false
set_option linter.unusedVariables false
namespace Go.Proofs.YtnhdnmlclnndoaaDoor.Crc
open Go Go.RowKit Gm
attribute [local go_sem ↓] Go.wp_at_zero Go.wp_at_succ

def ab11 : List UInt8 := [97, 98]
def c11 : List UInt8 := [99]
def z20 : List UInt8 := List.replicate 20 0
theorem wk_split : splitR (((([] : List UInt8) ++ frm ab11) ++ frm c11) ++ [7]) = [ab11, c11] := by
  have h := split_app [ab11, c11] [7] (by decide)
  have e : frms [ab11, c11] ++ [7] = ((([] : List UInt8) ++ frm ab11) ++ frm c11) ++ [7] := by
    rw [frms_cons, frms_cons, frms_nil]; simp
  rw [e] at h
  rw [h, split_none (by decide)]
  rfl
theorem wk_zero : splitR z20 = [] := split_none (by decide +kernel)
theorem mk20 (W : World) : (Instr.makeSlice 22 (.int .i64 20) (.int .i64 20)).run Tryd.prog W = .ok (.slice (some ⟨W.heap.size, 0, none⟩) 20 20) (W.alloc (.cells (cellsB z20).toArray 5)) := by kernel_rfl
theorem wk_len : ((((([] : List UInt8) ++ frm ab11) ++ frm c11) ++ [7])).length = 20 := by
  simp only [List.length_append, frm_length]; rfl
/-- What a Split leaves, at known records. -/
theorem SplitR.is {L : List UInt8} {w : World} {e : Ending} {w' : World} (h : SplitR L w e w') {l : List (List UInt8)} (hl : splitR L = l) : ∃ p c, e = .returned (.tuple #[.slice p l.length c, .int .i64 (wholeL l : Nat)]) ∧ RowR w' (.slice p l.length c) l ∧ Below w.heap.size w w' := by
  obtain ⟨v, rfl, ⟨xs, h1, h2, h3⟩, hb⟩ := h
  rw [hl] at h1 ⊢
  obtain ⟨p, c, rfl⟩ := own_shape h2
  have e : xs.length = l.length := by rw [← h1, List.length_map]
  have hr := rowR_own h2 (fun x hx => (h3 x hx).bs)
  rw [h1, e] at hr
  rw [e]
  exact ⟨p, c, rfl, hr, hb⟩
theorem PutR.good {L : List UInt8} {w : World} {e : Ending} {w' : World} (h : PutR L w e w') (hm : mayR L = true) : ∃ p c, e = .returned (.tuple #[.slice p (L.length + 8) c, .int .i64 0]) ∧ OwnB w' w.heap.size (.slice p (L.length + 8) c) (frm L) ∧ Below w.heap.size w w' := by
  obtain ⟨v, rfl, ho, hb⟩ := h
  obtain ⟨e1, e2⟩ := put_good hm
  rw [e1] 
  rw [e2] at ho
  obtain ⟨p, c, rfl⟩ := ho.form
  rw [frm_length] at ho ⊢
  exact ⟨p, c, rfl, ho, hb⟩
theorem row_at {w : World} {p : Option Addr} {n c : Nat} {l : List (List UInt8)} (h : RowR w (.slice p n c) l) {k : Nat} (hk : k < l.length) : ∃ b o vj, p = some ⟨b, o, none⟩ ∧ w.cell? ⟨b, o + k, none⟩ = some vj ∧ Bs w vj (l.getD k []) := by
  obtain ⟨p1, c1, e, h2⟩ := h
  simp only [Value.slice.injEq] at e
  obtain ⟨rfl, _, _⟩ := e
  obtain ⟨b, o, vj, h3, _, h5, h6⟩ := h2 k hk
  exact ⟨b, o, vj, h3, h5, h6⟩
set_option maxHeartbeats 4000000 in
set_option maxRecDepth 100000 in
theorem wakes_any (w : World) (hE : Env w) : Calls Tryd.prog 13 #[] w (Gives (.bool true) w) := by
  obtain ⟨i0, ii, iz0, iz1, iz2⟩ := info_parts infoB
  have hcs := conv_const
  have HE := Lib.hid hE
  clear hE
  go_enter Tryd.func13, Tryd.ntmps13
  go_wp2_with fail
  refine (fput_any _ [] w HE.out (Bs.nil w)).mono ?_
  rintro e w1 ⟨v1, rfl, ho1, b1⟩
  obtain ⟨p1, c1, rfl⟩ := ho1.form
  rw [show putE [] = 1 from rfl, show (putB []).length = 0 from rfl]
  have HB1 := Lib.hid b1
  clear ho1 b1
  go_wp2_with fail
  have B2 := then_ HB1.out (below_one w1 (.cells #[.int .u8 97, .int .u8 98] 5 (2, 3)))
  refine (fput_any _ ab11 _ (HE.out.below B2) (bs_const w1 ab11 _ 2 (2, 3) rfl rfl)).mono ?_
  intro e w2 h2
  obtain ⟨p2, c2, rfl, ho2, b2⟩ := h2.good (by decide)
  have HO2 := Lib.hid ho2
  have HB2 := Lib.hid (then_ B2 b2)
  clear h2 ho2 b2 B2
  rw [show ab11.length + 8 = 10 from rfl] at HO2 ⊢
  go_wp2_with fail
  have B3 := then_ HB2.out (below_one w2 (.cells #[.int .u8 99] 5 (1, 2)))
  refine (fput_any _ c11 _ (HE.out.below B3) (bs_const w2 c11 _ 1 (1, 2) rfl rfl)).mono ?_
  intro e w3 h3
  obtain ⟨p3, c3, rfl, ho3, b3⟩ := h3.good (by decide)
  have HO3 := Lib.hid ho3
  have HB3 := Lib.hid (then_ B3 b3)
  have HO2b := Lib.hid (HO2.out.below ((below_one w2 (.cells #[.int .u8 99] 5 (1, 2))).trans (b3.mono (by simp))))
  clear h3 ho3 b3 B3 HO2
  rw [show c11.length + 8 = 9 from rfl] at HO3 ⊢
  have HSa := Lib.hid (fun X (h : Below w3.heap.size w3 X) => (HO2b.out.bs.below h).src)
  have HSb := Lib.hid (fun X (h : Below w3.heap.size w3 X) => (HO3.out.bs.below h).src)
  have HN := Lib.hid (OwnB.nil w3 w3.heap.size)
  have HR := Lib.hid (Below.refl w3.heap.size w3)
  rw [frm_length] at HSa HSb
  clear hcs
  go_wp2_with (at_builtin; refine wpList_append_src rfl _ _ 22 (by rfl) w3.heap.size 5 i0 (.int .u8 0) 1 1 Tryd.underlying22 ii iz0 iz1 iz2 rfl (by decide) _ _ _ (by rfl) HN.out _ 10 (cellsB (frm ab11)) (by rfl) (HSa.out _ HR.out) (10) (by rfl) (by unfold maxLen; omega) (by omega) (Nat.le_refl _) ?_; intro pA4 capA4 w4 hown4 hgrow4; have HO4 := Lib.hid (ownB_app hown4 (by rw [frm_length]; rfl)); have HB4 := Lib.hid (HR.out.grown hgrow4 (Nat.le_refl _) (fun j hj => (World.ownsRow.lt HN.out j hj).1)); clear hown4 hgrow4; go_wp2_with (at_builtin; refine wpList_append_src rfl _ _ 22 (by rfl) w3.heap.size 5 i0 (.int .u8 0) 1 1 Tryd.underlying22 ii iz0 iz1 iz2 rfl (by decide) _ _ _ (by rfl) HO4.out _ 9 (cellsB (frm c11)) (by rfl) (HSb.out _ HB4.out) (19) (by rfl) (by unfold maxLen; omega) (by omega) (HB4.out.size) ?_; intro pA5 capA5 w5 hown5 hgrow5; have HO5 := Lib.hid (ownB_app hown5 (by simp only [List.length_append, frm_length]; rfl)); have HB5 := Lib.hid (HB4.out.grown hgrow5 (HB4.out.size) (fun j hj => (World.ownsRow.lt HO4.out j hj).1)); clear hown5 hgrow5; go_wp2_with (at_builtin; have HO5w := Lib.hid (HO5.out.below (below_one w5 (.cells #[.int .u8 7] 5))); have HB6 := Lib.hid (HB5.out.trans ((below_one w5 (.cells #[.int .u8 7] 5)).mono HB5.out.size)); refine wpList_append_src rfl _ _ 22 (by rfl) w3.heap.size 5 i0 (.int .u8 0) 1 1 Tryd.underlying22 ii iz0 iz1 iz2 rfl (by decide) _ _ _ (by rfl) HO5w.out _ 1 (cellsB ([7])) (by rfl) (src_b rfl 7 _ rfl) (20) (by rfl) (by unfold maxLen; omega) (by omega) (HB6.out.size) ?_; intro pA7 capA7 w7 hown7 hgrow7; have HO7 := Lib.hid (ownB_app hown7 (by simp only [List.length_append, frm_length]; rfl)); have HB7 := Lib.hid (HB6.out.grown hgrow7 (HB6.out.size) (fun j hj => (World.ownsRow.lt HO5w.out j hj).1)); clear hown7 hgrow7)))
  have e7 : (((([] : List UInt8) ++ frm ab11) ++ frm c11) ++ [7]).length = 20 := wk_len
  have HB7c := Lib.hid (then_ HB3.out HB7.out)
  refine (split_any _ _ w7 (HE.out.below HB7c.out) HO7.out.bs (by rw [e7]; decide)).mono ?_
  intro e w8 h8
  obtain ⟨p8, c8, rfl, hr8, b8⟩ := h8.is wk_split
  rw [show ([ab11, c11] : List (List UInt8)).length = 2 from rfl, show wholeL [ab11, c11] = 19 from rfl] at *
  have HR8 := Lib.hid hr8
  have HB8 := Lib.hid (then_ HB7c.out b8)
  clear h8 hr8 b8 e7 HO7 HB7 HO5 HB5 HO4 HB4 HN HR HSa HSb HO2b HO3
  have hm := mk20
  go_wp2_with fail
  have B9 := below_one w8 (.cells (cellsB z20).toArray 5)
  refine (split_any _ z20 _ (HE.out.below (then_ HB8.out B9)) (bs_const w8 z20 _ 20 (0, 0) rfl rfl) (by decide)).mono ?_
  intro e w9 h9
  obtain ⟨p9, c9, rfl, -, b9⟩ := h9.is wk_zero
  rw [show ([] : List (List UInt8)).length = 0 from rfl, show wholeL [] = 0 from rfl]
  have HB9 := Lib.hid (then_ HB8.out (then_ B9 b9))
  have hr9 := HR8.out.later (then_ B9 b9)
  obtain ⟨g8, o8, x0, rfl, q0, t0⟩ := row_at hr9 (k := 0) (by decide)
  obtain ⟨g8', o8', x1, e1, q1, t1⟩ := row_at hr9 (k := 1) (by decide)
  simp only [Option.some.injEq, Addr.mk.injEq, and_true] at e1
  obtain ⟨rfl, rfl⟩ := e1
  rw [show ([ab11, c11] : List (List UInt8)).getD 0 [] = ab11 from rfl] at t0
  rw [show ([ab11, c11] : List (List UInt8)).getD 1 [] = c11 from rfl] at t1
  obtain ⟨pa, ca, rfl⟩ := t0.form
  obtain ⟨pb, cb, rfl⟩ := t1.form
  rw [show ab11.length = 2 from rfl] at *
  rw [show c11.length = 1 from rfl] at *
  have HQ0 := Lib.hid q0
  have HQ1 := Lib.hid q1
  have HT0 := Lib.hid t0
  have HT1 := Lib.hid t1
  clear h9 b9 B9 hm hr9 HR8 HB8 q0 q1 t0 t1 HB7c
  go_wp2_with fail
  refine (size_any _ [] (by decide) w9 (Bs.nil w9)).mono ?_
  rintro e w9 ⟨rfl, rfl⟩
  rw [show sizeR [] = 0 from rfl]
  have hcs := conv_const
  go_wp2_with fail
  have Ba := below_one w9 (.cells #[.int .u8 97, .int .u8 98] 5 (2, 3))
  have HBa := Lib.hid (then_ HB9.out Ba)
  have q0 := (Ba.cell (p := ⟨g8, o8 + 0, none⟩) (World.block_lt_of_cell? _ _ HQ0.out)).trans HQ0.out
  have q1 := (Ba.cell (p := ⟨g8, o8 + 1, none⟩) (World.block_lt_of_cell? _ _ HQ1.out)).trans HQ1.out
  have t0 := conv_bs (HT0.out.below Ba) 9 Tryd.underlying9
  have t1 := conv_bs (HT1.out.below Ba) 9 Tryd.underlying9
  rw [Nat.add_zero] at q0
  rw [show (⟨ab11.toArray⟩ : ByteArray) = ⟨#[97, 98]⟩ from rfl] at t0
  rw [show (⟨c11.toArray⟩ : ByteArray) = ⟨#[99]⟩ from rfl] at t1
  have hz := size_any _ ab11 (by decide) _ (bs_const w9 ab11 #[.int .u8 97, .int .u8 98] 2 (2, 3) rfl rfl)
  rw [show sizeR ab11 = 10 from rfl] at hz
  refine hz.mono ?_
  rintro e wa ⟨rfl, rfl⟩
  clear Ba hz hcs HT0 HT1 HQ0 HQ1
  have hidx := idx_r (some ⟨g8, o8, none⟩) g8 o8 2 c8 1 rfl (by decide)
  have hidx0 := idx_r (some ⟨g8, o8, none⟩) g8 o8 2 c8 0 rfl (by decide)
  rw [Nat.add_zero] at hidx0
  go_wp2_with fail
  go_ret
  exact ⟨rfl, HBa.out⟩
end Go.Proofs.YtnhdnmlclnndoaaDoor.Crc
