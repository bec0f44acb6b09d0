/- Package codec's TakeEvent, TakePred, TakeItem, TakePage. (Written by tools/gen_tz.py.) -/
import Derived.Test.YtkfheodcmhodpaaTy
set_option linter.unusedSimpArgs false
set_option linter.unusedVariables false
namespace Go.Proofs.Ytkfheodcmhodpaa.Gm
open Go Go.RowKit
attribute [local go_sem ↓] Go.wp_at_zero Go.wp_at_succ

section
variable {base base' : Nat} {v : Value} {w : World}
theorem evr_base {x : Ev} (h : EvR base x v w) (hb : base' ≤ base) : EvR base' x v w := by
  obtain ⟨p, cap, e, ho⟩ := h
  exact ⟨p, cap, e, own_base ho hb⟩
theorem itr_base {x : It} (h : ItR base x v w) (hb : base' ≤ base) : ItR base' x v w := by
  obtain ⟨c, e1, e2, ho⟩ := h
  exact ⟨c, e1, e2, own_base ho hb⟩
theorem prr_base {x : Pz} (h : PrR base x v w) (hb : base' ≤ base) : PrR base' x v w := by
  obtain ⟨cs, e1, ho, hi⟩ := h
  exact ⟨cs, e1, own_base ho hb, fun c hc => ⟨own_base (hi c hc).1 hb, (hi c hc).2⟩⟩
theorem pgr_base {x : Pg} (h : PgR base x v w) (hb : base' ≤ base) : PgR base' x v w := by
  obtain ⟨p, e1, e2, ho, hi, hg⟩ := h
  exact ⟨p, e1, e2, own_base ho hb, fun c hc => own_base (hi c hc) hb, own_base hg hb⟩
end
/-- What a Take answers. -/
inductive Took (α : Type) where
  | it (x : α)
  | no
set_option maxHeartbeats 4000000 in
set_option maxRecDepth 20000 in
theorem te_any (v0 : Value) (L : List UInt8) (w : World) (hB : Bs w v0 L) (hL : L.length ≤ 140737488355328) : Calls Try.prog 13 #[v0] w (TakeE eS (fun x : Ev => mayE x.1 x.2) (EvR w.heap.size) (.agg #[.string ⟨#[]⟩, .slice none 0 0]) L w) := by
  have HB0 := Lib.hid (below_one w (.cells #[.string ⟨#[]⟩, .slice none 0 0] 24))
  have HC := Lib.hid (take_Event v0 L _ (hB.below HB0.out) hL)
  have HX0 := Lib.hid (Blk.new w 24 #[.string ⟨#[]⟩, .slice none 0 0])
  obtain ⟨p0, c0, rfl⟩ := hB.form
  clear hB hL
  cases hr : takeR eS (fun x : Ev => mayE x.1 x.2) L with
  | none =>
    go_enter Try.func13, Try.ntmps13
    go_wp2_with fail
    refine HC.out.mono ?_; intro e w1 h
    unfold TakeE at h
    rw [hr] at h
    obtain ⟨rfl, b1⟩ := h
    have HB1 := Lib.hid (HB0.out.trans (b1.mono HB0.out.size))
    have HX1 := Lib.hid (HX0.out.later b1)
    have c0 := HX1.out.cell 0 rfl
    have f0 := HX1.out.free 0
    have c1 := HX1.out.cell 1 rfl
    have f1 := HX1.out.free 1
    clear b1
    go_wp2_with fail
    refine bodyPost_ret (v := .tuple #[.agg #[.string ⟨#[]⟩, .slice none 0 0], .int .i64 5]) (by simp [results, Try.results13, go_sem, c0, c1]) rfl ?_
    exact takeE_no hr (HB1.out.trans (sets_below (Nat.le_refl _) [(0, .string ⟨#[]⟩), (1, .slice none 0 0)]))
  | some x =>
    go_enter Try.func13, Try.ntmps13
    go_wp2_with fail
    refine HC.out.mono ?_; intro e w1 h
    unfold TakeE at h
    rw [hr] at h
    obtain ⟨⟨v, rfl, hv⟩, b1⟩ := h
    have HB1 := Lib.hid (HB0.out.trans (b1.mono HB0.out.size))
    have HV := Lib.hid (evr_base hv HB0.out.size)
    have HX1 := Lib.hid (HX0.out.later b1)
    have c0 := HX1.out.cell 0 rfl
    have f0 := HX1.out.free 0
    have c1 := HX1.out.cell 1 rfl
    have f1 := HX1.out.free 1
    obtain ⟨key, l⟩ := x
    obtain ⟨p, cap, rfl, _⟩ := id hv
    clear b1 hv
    go_wp2_with fail
    have kt := sets_keep [(0, .string key), (1, .slice p l.length cap)] HX1.out
    have HV2 := evr_keep HV.out kt (by decide)
    refine bodyPost_ret (v := .tuple #[.agg #[.string key, .slice p l.length cap], .int .i64 0]) (by simp [results, Try.results13, go_sem, c0, c1]) rfl ?_
    unfold TakeE
    rw [hr]
    exact ⟨⟨_, rfl, HV2⟩, HB1.out.trans (sets_below (Nat.le_refl _) [(0, .string key), (1, .slice p l.length cap)])⟩
set_option maxHeartbeats 4000000 in
set_option maxRecDepth 20000 in
theorem ti_any (v0 : Value) (L : List UInt8) (w : World) (hB : Bs w v0 L) (hL : L.length ≤ 140737488355328) : Calls Try.prog 25 #[v0] w (TakeE itS (mayI) (ItR w.heap.size) (.agg #[.int .u64 0, .int .u64 0, .string ⟨#[]⟩, .slice none 0 0]) L w) := by
  have HB0 := Lib.hid (below_one w (.cells #[.int .u64 0, .int .u64 0, .string ⟨#[]⟩, .slice none 0 0] 51))
  have HC := Lib.hid (take_Item v0 L _ (hB.below HB0.out) hL)
  have HX0 := Lib.hid (Blk.new w 51 #[.int .u64 0, .int .u64 0, .string ⟨#[]⟩, .slice none 0 0])
  obtain ⟨p0, c0, rfl⟩ := hB.form
  clear hB hL
  cases hr : takeR itS (mayI) L with
  | none =>
    go_enter Try.func25, Try.ntmps25
    go_wp2_with fail
    refine HC.out.mono ?_; intro e w1 h
    unfold TakeE at h
    rw [hr] at h
    obtain ⟨rfl, b1⟩ := h
    have HB1 := Lib.hid (HB0.out.trans (b1.mono HB0.out.size))
    have HX1 := Lib.hid (HX0.out.later b1)
    have c0 := HX1.out.cell 0 rfl
    have f0 := HX1.out.free 0
    have c1 := HX1.out.cell 1 rfl
    have f1 := HX1.out.free 1
    have c2 := HX1.out.cell 2 rfl
    have f2 := HX1.out.free 2
    have c3 := HX1.out.cell 3 rfl
    have f3 := HX1.out.free 3
    clear b1
    go_wp2_with fail
    refine bodyPost_ret (v := .tuple #[.agg #[.int .u64 0, .int .u64 0, .string ⟨#[]⟩, .slice none 0 0], .int .i64 5]) (by simp [results, Try.results25, go_sem, c0, c1, c2, c3]) rfl ?_
    exact takeE_no hr (HB1.out.trans (sets_below (Nat.le_refl _) [(0, .int .u64 0), (1, .int .u64 0), (2, .string ⟨#[]⟩), (3, .slice none 0 0)]))
  | some x =>
    go_enter Try.func25, Try.ntmps25
    go_wp2_with fail
    refine HC.out.mono ?_; intro e w1 h
    unfold TakeE at h
    rw [hr] at h
    obtain ⟨⟨v, rfl, hv⟩, b1⟩ := h
    have HB1 := Lib.hid (HB0.out.trans (b1.mono HB0.out.size))
    have HV := Lib.hid (itr_base hv HB0.out.size)
    have HX1 := Lib.hid (HX0.out.later b1)
    have c0 := HX1.out.cell 0 rfl
    have f0 := HX1.out.free 0
    have c1 := HX1.out.cell 1 rfl
    have f1 := HX1.out.free 1
    have c2 := HX1.out.cell 2 rfl
    have f2 := HX1.out.free 2
    have c3 := HX1.out.cell 3 rfl
    have f3 := HX1.out.free 3
    obtain ⟨⟨n, t, key, ap, ac, at_⟩, hc, rfl, _⟩ := id hv
    clear hc
    clear b1 hv
    go_wp2_with fail
    have kt := sets_keep [(0, .int .u64 n), (1, .int .u64 t), (2, .string key), (3, .slice ap at_.length ac)] HX1.out
    have HV2 := itr_keep HV.out kt (by decide)
    refine bodyPost_ret (v := .tuple #[.agg #[.int .u64 n, .int .u64 t, .string key, .slice ap at_.length ac], .int .i64 0]) (by simp [results, Try.results25, go_sem, c0, c1, c2, c3]) rfl ?_
    unfold TakeE
    rw [hr]
    exact ⟨⟨_, rfl, HV2⟩, HB1.out.trans (sets_below (Nat.le_refl _) [(0, .int .u64 n), (1, .int .u64 t), (2, .string key), (3, .slice ap at_.length ac)])⟩
set_option maxHeartbeats 4000000 in
set_option maxRecDepth 20000 in
theorem tp_any (v0 : Value) (L : List UInt8) (w : World) (hB : Bs w v0 L) (hL : L.length ≤ 140737488355328) : Calls Try.prog 20 #[v0] w (TakeE pzS (mayPz) (PrR w.heap.size) (.slice none 0 0) L w) := by
  have HB0 := Lib.hid (Below.refl w.heap.size w)
  have HC := Lib.hid (take_Pred v0 L _ (hB.below HB0.out) hL)
  obtain ⟨p0, c0, rfl⟩ := hB.form
  clear hB hL
  cases hr : takeR pzS (mayPz) L with
  | none =>
    go_enter Try.func20, Try.ntmps20
    go_wp2_with fail
    refine HC.out.mono ?_; intro e w1 h
    unfold TakeE at h
    rw [hr] at h
    obtain ⟨rfl, b1⟩ := h
    have HB1 := Lib.hid (HB0.out.trans (b1.mono HB0.out.size))
    clear b1
    go_wp2_with fail
    go_ret2
    exact takeE_no hr HB1.out
  | some x =>
    go_enter Try.func20, Try.ntmps20
    go_wp2_with fail
    refine HC.out.mono ?_; intro e w1 h
    unfold TakeE at h
    rw [hr] at h
    obtain ⟨⟨v, rfl, hv⟩, b1⟩ := h
    have HB1 := Lib.hid (HB0.out.trans (b1.mono HB0.out.size))
    have HV := Lib.hid (prr_base hv HB0.out.size)
    obtain ⟨cs, hcs, ho, _⟩ := id hv
    obtain ⟨p, cap, rfl⟩ := own_shape ho
    clear ho hcs
    clear b1 hv
    go_wp2_with fail
    go_ret2
    unfold TakeE; rw [hr]; exact ⟨⟨_, rfl, HV.out⟩, HB1.out⟩
set_option maxHeartbeats 4000000 in
set_option maxRecDepth 20000 in
theorem tg_any (v0 : Value) (L : List UInt8) (w : World) (hB : Bs w v0 L) (hL : L.length ≤ 140737488355328) : Calls Try.prog 33 #[v0] w (TakeE pgS (mayPg) (PgR w.heap.size) (.agg #[.int .u64 0, .int .u64 0, .slice none 0 0, .slice none 0 0, .bool false]) L w) := by
  have HB0 := Lib.hid (below_one w (.cells #[.int .u64 0, .int .u64 0, .slice none 0 0, .slice none 0 0, .bool false] 64))
  have HC := Lib.hid (take_Page v0 L _ (hB.below HB0.out) hL)
  have HX0 := Lib.hid (Blk.new w 64 #[.int .u64 0, .int .u64 0, .slice none 0 0, .slice none 0 0, .bool false])
  obtain ⟨p0, c0, rfl⟩ := hB.form
  clear hB hL
  cases hr : takeR pgS (mayPg) L with
  | none =>
    go_enter Try.func33, Try.ntmps33
    go_wp2_with fail
    refine HC.out.mono ?_; intro e w1 h
    unfold TakeE at h
    rw [hr] at h
    obtain ⟨rfl, b1⟩ := h
    have HB1 := Lib.hid (HB0.out.trans (b1.mono HB0.out.size))
    have HX1 := Lib.hid (HX0.out.later b1)
    have c0 := HX1.out.cell 0 rfl
    have f0 := HX1.out.free 0
    have c1 := HX1.out.cell 1 rfl
    have f1 := HX1.out.free 1
    have c2 := HX1.out.cell 2 rfl
    have f2 := HX1.out.free 2
    have c3 := HX1.out.cell 3 rfl
    have f3 := HX1.out.free 3
    have c4 := HX1.out.cell 4 rfl
    have f4 := HX1.out.free 4
    clear b1
    go_wp2_with fail
    refine bodyPost_ret (v := .tuple #[.agg #[.int .u64 0, .int .u64 0, .slice none 0 0, .slice none 0 0, .bool false], .int .i64 5]) (by simp [results, Try.results33, go_sem, c0, c1, c2, c3, c4]) rfl ?_
    exact takeE_no hr (HB1.out.trans (sets_below (Nat.le_refl _) [(0, .int .u64 0), (1, .int .u64 0), (2, .slice none 0 0), (3, .slice none 0 0), (4, .bool false)]))
  | some x =>
    go_enter Try.func33, Try.ntmps33
    go_wp2_with fail
    refine HC.out.mono ?_; intro e w1 h
    unfold TakeE at h
    rw [hr] at h
    obtain ⟨⟨v, rfl, hv⟩, b1⟩ := h
    have HB1 := Lib.hid (HB0.out.trans (b1.mono HB0.out.size))
    have HV := Lib.hid (pgr_base hv HB0.out.size)
    have HX1 := Lib.hid (HX0.out.later b1)
    have c0 := HX1.out.cell 0 rfl
    have f0 := HX1.out.free 0
    have c1 := HX1.out.cell 1 rfl
    have f1 := HX1.out.free 1
    have c2 := HX1.out.cell 2 rfl
    have f2 := HX1.out.free 2
    have c3 := HX1.out.cell 3 rfl
    have f3 := HX1.out.free 3
    have c4 := HX1.out.cell 4 rfl
    have f4 := HX1.out.free 4
    obtain ⟨⟨fr, en, ip, ic, its, gp, gc, gps, last⟩, hc, rfl, _⟩ := id hv
    clear hc
    clear b1 hv
    go_wp2_with fail
    have kt := sets_keep [(0, .int .u64 fr), (1, .int .u64 en), (2, .slice ip its.length ic), (3, .slice gp gps.length gc), (4, .bool last)] HX1.out
    have HV2 := pgr_keep HV.out kt (by decide) (by decide) (by decide)
    refine bodyPost_ret (v := .tuple #[.agg #[.int .u64 fr, .int .u64 en, .slice ip its.length ic, .slice gp gps.length gc, .bool last], .int .i64 0]) (by simp [results, Try.results33, go_sem, c0, c1, c2, c3, c4]) rfl ?_
    unfold TakeE
    rw [hr]
    exact ⟨⟨_, rfl, HV2⟩, HB1.out.trans (sets_below (Nat.le_refl _) [(0, .int .u64 fr), (1, .int .u64 en), (2, .slice ip its.length ic), (3, .slice gp gps.length gc), (4, .bool last)])⟩
end Go.Proofs.Ytkfheodcmhodpaa.Gm
