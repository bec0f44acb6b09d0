/- The walk of FrameMore. -/
import Derived.Test.YtnhdnmlclnndoaaDoorFmu
set_option linter.unusedSimpArgs false
set_option linter.unusedVariables false
namespace Go.Proofs.YtnhdnmlclnndoaaDoor.Crc
open Go Go.RowKit Gm
attribute [local go_sem ↓] Go.wp_at_zero Go.wp_at_succ

theorem SplitR.own {L : List UInt8} {w : World} {e : Ending} {w' : World} (h : SplitR L w e w') : ∃ (p : Option Addr) (c : Nat) (xs : List Fx), e = .returned (.tuple #[.slice p (splitR L).length c, .int .i64 (wholeL (splitR L) : Nat)]) ∧ xs.map Fx.r = splitR L ∧ xs.length = (splitR L).length ∧ w'.ownsRow w.heap.size 22 1 (.slice p (splitR L).length c) (splitR L).length (xs.map Fx.v) ∧ (∀ x ∈ xs, Rec w' w.heap.size x.v x.r) ∧ Below w.heap.size w w' := by
  obtain ⟨v, rfl, ⟨xs, h1, h2, h3⟩, hb⟩ := h
  obtain ⟨p, c, rfl⟩ := own_shape h2
  have e : xs.length = (splitR L).length := by rw [← h1, List.length_map]
  rw [e] at h2 ⊢
  exact ⟨p, c, xs, rfl, h1, e, h2, h3, hb⟩
theorem split_count (L : List UInt8) : (splitR L).length ≤ L.length := by
  have h1 := split_le L
  have h2 : ∀ l : List (List UInt8), l.length ≤ wholeL l := fun l => by
    induction l with
    | nil => exact Nat.zero_le _
    | cons r l ih => rw [wholeL_cons, List.length_cons]; omega
  exact Nat.le_trans (h2 _) h1
set_option maxHeartbeats 16000000 in
set_option maxRecDepth 100000 in
theorem law_fmore (v v1 : Value) (L M : List UInt8) (W : World) (hE : Env W) (hB : Bs W v L) (hC : Bs W v1 M) (hL : L.length ≤ 1048576) (hM : M.length ≤ 1048576) :
    Calls Tryd.prog 7 #[v, v1] W (Gives (.bool true) W) := by
  obtain ⟨i0, ii, iz0, iz1, iz2⟩ := info_parts infoB
  obtain ⟨p0, c0, rfl⟩ := hB.form
  obtain ⟨p1, c1, rfl⟩ := hC.form
  have HB := Lib.hid hB
  have HC := Lib.hid hC
  have HE := Lib.hid hE
  have HSp1 := Lib.hid (split_any _ L W hE hB (Nat.le_trans hL (by decide)))
  have hs := split_more L M
  have hle := split_le L
  have hle2 := split_le (L ++ M)
  have hct := split_count L
  have hct2 := split_count (L ++ M)
  have hlm : (L ++ M).length = L.length + M.length := List.length_append
  rw [hlm] at hle2 hct2
  obtain ⟨n1, hn1⟩ : ∃ n, L.length = n := ⟨_, rfl⟩
  obtain ⟨n2, hn2⟩ : ∃ n, M.length = n := ⟨_, rfl⟩
  have HN1 := Lib.hid hn1
  have HN2 := Lib.hid hn2
  have HS1 := Lib.hid (fun X (h : Below W.heap.size W X) => by have := (HB.out.below h).src; rw [HN1.out] at this; exact this)
  have HS2 := Lib.hid (fun X (h : Below W.heap.size W X) => by have := (HC.out.below h).src; rw [HN2.out] at this; exact this)
  rw [hn1] at hL hle hct hle2 hct2 HSp1 HB ⊢
  rw [hn2] at hM hle2 hct2 HC ⊢
  clear hB hC hE hn1 hn2
  obtain ⟨S1, hS1⟩ : ∃ S, splitR L = S := ⟨_, rfl⟩
  obtain ⟨w1n, hw1⟩ : ∃ n, wholeL S1 = n := ⟨_, rfl⟩
  obtain ⟨S3, hS3⟩ : ∃ S, splitR ((L ++ M).drop w1n) = S := ⟨_, rfl⟩
  rw [hS1, hw1, hS3] at hs
  rw [hS1] at hle hct
  rw [hs] at hle2 hct2
  rw [hw1] at hle
  have hwapp := wholeL_app S1 S3
  rw [hw1] at hwapp
  obtain ⟨w3n, hw3⟩ : ∃ n, wholeL S3 = n := ⟨_, rfl⟩
  rw [hw3] at hwapp
  rw [hwapp] at hle2
  rw [List.length_append] at hct2
  obtain ⟨k1, hk1⟩ : ∃ k, S1.length = k := ⟨_, rfl⟩
  obtain ⟨k3, hk3⟩ : ∃ k, S3.length = k := ⟨_, rfl⟩
  rw [hk1] at hct hct2
  rw [hk3] at hct2
  have HS := Lib.hid hs
  have HSa := Lib.hid hS1
  have HSc := Lib.hid hS3
  have HW1 := Lib.hid hw1
  have HW3 := Lib.hid hw3
  have HWA := Lib.hid hwapp
  have HK1 := Lib.hid hk1
  have HK3 := Lib.hid hk3
  clear hs hS1 hS3 hw1 hw3 hwapp hk1 hk3 hlm
  go_enter Tryd.func7, Tryd.ntmps7
  go_wp2_with fail
  refine HSp1.out.mono ?_; intro e w1 h1
  obtain ⟨px, cx, xs, rfl, hx1, hx2, hx3, hx4, b1⟩ := h1.own
  rw [HSa.out] at hx1 hx2 hx3 ⊢
  rw [HW1.out]
  rw [HK1.out] at hx2 hx3 ⊢
  have HX := Lib.hid (rowR_own (by rw [hx2]; exact hx3) (fun x hx => (hx4 x hx).bs))
  rw [hx1] at HX
  have HB1 := Lib.hid b1
  have HN := Lib.hid (OwnB.nil w1 w1.heap.size)
  have HR1 := Lib.hid (Below.refl w1.heap.size w1)
  clear h1 hx1 hx2 hx3 hx4 b1 HSp1
  go_wp2_with (at_builtin; refine wpList_append_src rfl _ _ 22 (by rfl) w1.heap.size 5 i0 (.int .u8 0) 1 1 Tryd.underlying22 ii iz0 iz1 iz2 rfl (by decide) _ _ _ (by rfl) HN.out _ n1 (cellsB (L)) (by rfl) (HS1.out _ (then_ HB1.out HR1.out)) (n1) (by simp) (by unfold maxLen; omega) (by omega) (Nat.le_refl _) ?_; intro pAa capAa wa howna hgrowa; have HOa := Lib.hid howna; have HBa := Lib.hid (HR1.out.grown hgrowa (Nat.le_refl _) (fun j hj => (World.ownsRow.lt HN.out j hj).1)); clear howna hgrowa; go_wp2_with (at_builtin; refine wpList_append_src rfl _ _ 22 (by rfl) w1.heap.size 5 i0 (.int .u8 0) 1 1 Tryd.underlying22 ii iz0 iz1 iz2 rfl (by decide) _ _ _ (by rfl) HOa.out _ n2 (cellsB (M)) (by rfl) (HS2.out _ (then_ HB1.out HBa.out)) (n1 + n2) (by rfl) (by unfold maxLen; omega) (by omega) (HBa.out.size) ?_; intro pAb capAb wb hownb hgrowb; have HOb := Lib.hid hownb; have HBb := Lib.hid (HBa.out.grown hgrowb (HBa.out.size) (fun j hj => (World.ownsRow.lt HOa.out j hj).1)); clear hownb hgrowb))
  have hlA : (L ++ M).length = n1 + n2 := by rw [List.length_append, HN1.out, HN2.out]
  have HOb := Lib.hid (own_raw HOb.out (L := L ++ M) (by rw [cellsB_append]; rfl) hlA)
  refine (split_any _ (L ++ M) wb (HE.out.below (then_ HB1.out HBb.out)) HOb.out.bs (by rw [hlA]; unfold maxSp; omega)).mono ?_
  intro e w3 h3
  obtain ⟨py, cy, ys, rfl, hy1, hy2, hy3, hy4, b3⟩ := h3.own
  rw [HS.out] at hy1 hy2 hy3 ⊢
  rw [List.length_append, HK1.out, HK3.out] at hy2 hy3 ⊢
  rw [HWA.out]
  have HB3 := Lib.hid (then_ HB1.out (then_ HBb.out b3))
  have hB13 : Below w1.heap.size w1 w3 := then_ HBb.out b3
  have hyb : ∀ x ∈ ys, Bs w3 x.v x.r := fun x hx => (hy4 x hx).bs
  obtain ⟨r1, hr1⟩ := row_upto (k := k1) hy3 hy2 hyb (by omega)
  obtain ⟨qz, dz, r2, hr2⟩ := row_from (k := k1) hy3 hy2 hyb (by omega)
  rw [Nat.add_sub_cancel_left] at r2 hr2
  have e1 : (ys.take k1).map Fx.r = S1 := by rw [List.map_take, hy1]; exact List.take_left' HK1.out
  have e2 : (ys.drop k1).map Fx.r = S3 := by rw [List.map_drop, hy1]; exact List.drop_left' HK1.out
  rw [e1] at hr1
  rw [e2] at hr2
  have HSm := Lib.hid (same_any _ _ S1 S1 w3 (HX.out.later hB13) hr1 (by rw [HK1.out]; unfold maxTk; omega))
  rw [show decide (S1 = S1) = true from decide_eq_true rfl] at HSm
  have HR2 := Lib.hid hr2
  have hOl : Bs w3 (.slice pAb (L ++ M).length capAb) (L ++ M) := by rw [hlA]; exact HOb.out.bs.below b3
  obtain ⟨pd, cd, r3, hd⟩ := slice_from hOl (k := w1n) (by rw [hlA]; omega) (by rw [hlA]; unfold maxTk; omega)
  rw [hlA] at r3 hd
  have HD := Lib.hid hd
  clear h3 hy1 hy2 hy3 hy4 b3 hB13 hyb hr1 hr2 e1 e2 HX HOb HOa HBa HBb hOl hd
  have c1 : ¬ (k1 + k3 < k1) := by omega
  have c2 : ¬ (((k1 + k3 : Nat) : Int) < (k1 : Int)) := by omega
  have c3 : ¬ (((w1n + w3n : Nat) : Int) < (w1n : Int)) := by omega
  go_wp2_with fail
  refine HSm.out.mono ?_; rintro e w4 ⟨rfl, b4⟩
  have HB4 := Lib.hid (then_ HB3.out b4)
  have hDb : Bs w4 (.slice pd (n1 + n2 - w1n) cd) ((L ++ M).drop w1n) := HD.out.below b4
  have HSp3 := Lib.hid (split_any _ _ w4 (HE.out.below HB4.out) hDb (by rw [List.length_drop, hlA]; unfold maxSp; omega))
  have HR4 := Lib.hid (HR2.out.later b4)
  clear HSm HD hDb b4 HB3 HR2
  go_wp2_with fail
  refine HSp3.out.mono ?_; intro e w5 h5
  obtain ⟨pz, cz, rfl, hrz, b5⟩ := h5.is HSc.out
  rw [HK3.out] at hrz ⊢
  rw [HW3.out]
  have HB5 := Lib.hid (then_ HB4.out b5)
  have HSn := Lib.hid (same_any _ _ S3 S3 w5 hrz (HR4.out.later b5) (by rw [HK3.out]; unfold maxTk; omega))
  rw [show decide (S3 = S3) = true from decide_eq_true rfl] at HSn
  clear h5 hrz b5 HSp3 HR4 HB4
  have c4 : k1 + k3 - k1 = k3 := by omega
  go_wp2_with fail
  refine HSn.out.mono ?_; rintro e w6 ⟨rfl, b6⟩
  have HB6 := Lib.hid (then_ HB5.out b6)
  have HWK := Lib.hid (wakes_any _ (HE.out.below HB6.out))
  clear HSn b6 HB5
  go_wp2_with fail
  refine HWK.out.mono ?_; rintro e w7 ⟨rfl, b7⟩
  have HB7 := Lib.hid (then_ HB6.out b7)
  clear HWK b7
  go_wp2_with fail
  go_ret
  exact ⟨rfl, HB7.out⟩
end Go.Proofs.YtnhdnmlclnndoaaDoor.Crc
