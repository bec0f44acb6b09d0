/- The document's SameItem and SamePage, of what is alike. -/
import Derived.Test.YtmbfhmjcphoddaaGreatDoorTp
import Derived.Test.YtmbfhmjcphoddaaGreatDoorRMc
import Derived.Test.YtmbfhmjcphoddaaGreatDoorKL
set_option linter.unusedSimpArgs false
set_option linter.unusedVariables false
namespace Go.Proofs.YtmbfhmjcphoddaaGreatDoor.Gm
open Go Go.RowKit
attribute [local go_sem ↓] Go.wp_at_zero Go.wp_at_succ

set_option maxHeartbeats 8000000 in
set_option maxRecDepth 20000 in
theorem sitem_any (n t : Nat) (k1 k2 : ByteArray) (u1 u2 : Value) (l1 l2 : List Attr) (w : World) (h1 : Sl w u1 l1) (h2 : Sl w u2 l2) (hs : sameB k1 l1 k2 l2 = true) : Calls Tryz.prog 13 #[.agg #[.int .u64 n, .int .u64 t, .string k1, u1], .agg #[.int .u64 n, .int .u64 t, .string k2, u2]] w (Gives (.bool true) w) := by
  have HS := Lib.hid (fun W (h : Below w.heap.size w W) => by have := qsame_any k1 k2 u1 u2 l1 l2 W (h1.below h) (h2.below h); rwa [hs] at this)
  obtain ⟨p1, ca1, _, _, rfl, _⟩ := h1
  obtain ⟨p2, ca2, _, _, rfl, _⟩ := h2
  obtain ⟨m1, hm1⟩ : ∃ m, l1.length = m := ⟨_, rfl⟩
  obtain ⟨m2, hm2⟩ : ∃ m, l2.length = m := ⟨_, rfl⟩
  rw [hm1, hm2] at HS ⊢
  have HB0 := Lib.hid (below_two (o := .cells #[.int .u64 n, .int .u64 t, .string k2, .slice p2 m2 ca2] 39) (below_one w (.cells #[.int .u64 n, .int .u64 t, .string k1, .slice p1 m1 ca1] 39)))
  have HX := Lib.hid ((Blk.new w 39 #[.int .u64 n, .int .u64 t, .string k1, .slice p1 m1 ca1]).alloc (.cells #[.int .u64 n, .int .u64 t, .string k2, .slice p2 m2 ca2] 39))
  have HY : Hid (Blk ((w.alloc (.cells #[.int .u64 n, .int .u64 t, .string k1, .slice p1 m1 ca1] 39)).alloc (.cells #[.int .u64 n, .int .u64 t, .string k2, .slice p2 m2 ca2] 39)) (w.heap.size + 1) 39 #[.int .u64 n, .int .u64 t, .string k2, .slice p2 m2 ca2]) := Lib.hid (by have h := Blk.new (w.alloc (.cells #[.int .u64 n, .int .u64 t, .string k1, .slice p1 m1 ca1] 39)) 39 #[.int .u64 n, .int .u64 t, .string k2, .slice p2 m2 ca2]; simpa using h)
  have x0 := fun z => Later.cell (HX.out.cell 0 rfl) z
  have x1 := fun z => Later.cell (HX.out.cell 1 rfl) z
  have x2 := fun z => Later.cell (HX.out.cell 2 rfl) z
  have x3 := fun z => Later.cell (HX.out.cell 3 rfl) z
  have y0 := fun z => Later.cell (HY.out.cell 0 rfl) z
  have y1 := fun z => Later.cell (HY.out.cell 1 rfl) z
  have y2 := fun z => Later.cell (HY.out.cell 2 rfl) z
  have y3 := fun z => Later.cell (HY.out.cell 3 rfl) z
  have HS1 := Lib.hid (fun W (h : Below _ _ W) => HS.out W (then_ HB0.out h))
  clear HX HY hm1 hm2 hs HS
  go_enter Tryz.func13, Tryz.ntmps13
  go_wp2_with fail
  refine (HS1.out _ (Below.refl _ _)).mono ?_; rintro e w1 ⟨rfl, b1⟩
  have HBz := Lib.hid (then_ HB0.out b1)
  clear b1
  go_wp2_with fail
  go_ret
  exact ⟨rfl, HBz.out⟩
theorem it_alike {x y : Im} (h : toIt x = toIt y) : x.n = y.n ∧ x.t = y.t ∧ x.key = y.key ∧ x.at_ = y.at_ := by
  unfold toIt at h
  simpa using h
theorem its_alike {l m : List Im} (h : l.map toIt = m.map toIt) {k : Nat} (hk : k < l.length) : toIt (l.getD k default) = toIt (m.getD k default) := by
  have e : l.length = m.length := by have := congrArg List.length h; simpa using this
  have h2 : (l.map toIt)[k]? = (m.map toIt)[k]? := by rw [h]
  rw [List.getElem?_map, List.getElem?_map, List.getElem?_eq_getElem hk, List.getElem?_eq_getElem (e ▸ hk)] at h2
  rw [List.getD_eq_getElem?_getD, List.getD_eq_getElem?_getD, List.getElem?_eq_getElem hk, List.getElem?_eq_getElem (e ▸ hk)]
  simpa using h2
end Go.Proofs.YtmbfhmjcphoddaaGreatDoor.Gm
