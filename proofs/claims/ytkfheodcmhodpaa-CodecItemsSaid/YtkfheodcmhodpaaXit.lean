/- The statement's function CodecItems returns true for any item and any bytes, and each argument reads afterwards as before; no condition. -/
import Derived.Test.YtkfheodcmhodpaaNe
import Derived.Test.YtkfheodcmhodpaaNo
import Derived.Test.YtkfheodcmhodpaaNob
import Derived.SizedLaws
import Derived.OpenShut
import Derived.WalkKit
import Derived.ProofKit
/- The walk of CodecItems. -/
set_option linter.unusedSimpArgs false
set_option linter.unusedVariables false
namespace Go.Proofs.Ytkfheodcmhodpaa.Gm
open Go Go.RowKit
attribute [local go_sem ↓] Go.wp_at_zero Go.wp_at_succ

/-- What a Take leaves, whatever it answers: the thing, or a bare one. -/
theorem tkq_i {rd : Rd It} {L : List UInt8} {w w' : World} {e : Ending} (hq : takeR rd mayI L = tkI L) (h : TakeE rd mayI (ItR w.heap.size) (.agg #[.int .u64 0, .int .u64 0, .string ⟨#[]⟩, .slice none 0 0]) L w e w') : ∃ (p : Option Addr) (cap : Nat), e = .returned (.tuple #[.agg #[.int .u64 (((tkI L).getD (0, 0, ⟨#[]⟩, [])).1 : Nat), .int .u64 (((tkI L).getD (0, 0, ⟨#[]⟩, [])).2.1 : Nat), .string ((tkI L).getD (0, 0, ⟨#[]⟩, [])).2.2.1, .slice p ((tkI L).getD (0, 0, ⟨#[]⟩, [])).2.2.2.length cap], .int .i64 (if (tkI L).isSome then 0 else 5)]) ∧ Below w.heap.size w w' ∧ w'.ownsRow w.heap.size 81 5 (.slice p ((tkI L).getD (0, 0, ⟨#[]⟩, [])).2.2.2.length cap) ((tkI L).getD (0, 0, ⟨#[]⟩, [])).2.2.2.length (((tkI L).getD (0, 0, ⟨#[]⟩, [])).2.2.2.flatMap encA) ∧ ((tkI L).getD (0, 0, ⟨#[]⟩, [])).2.2.2.length ≤ 8 := by
  obtain ⟨h1, h2⟩ := h
  rw [hq] at h1
  cases hr : tkI L with
  | none =>
    rw [hr] at h1
    exact ⟨none, 0, h1, h2, World.ownsRow_nil _ _ _ _, by simp⟩
  | some x =>
    rw [hr] at h1
    obtain ⟨v, rfl, c, rfl, rfl, ho⟩ := h1
    exact ⟨c.ap, c.ac, rfl, h2, ho, (again_i (N := c.n) (T := c.t) (key := c.key) (l := c.at_) hr).2.2⟩
set_option maxHeartbeats 16000000 in
set_option maxRecDepth 20000 in
theorem law_citems (N0 T0 : Nat) (key0 : ByteArray) (pu : Option Addr) (cu : Nat) (l0 : List Attr) (v0 : Value) (B : List UInt8) (w : World) (hN0 : N0 < 18446744073709551616) (hT0 : T0 < 18446744073709551616) (hS : Sl w (.slice pu l0.length cu) l0) (hR : Room l0) (hB : Bs w v0 B) (hlen0 : B.length ≤ 140737488351232) : Calls Try.prog 5 #[.agg #[.int .u64 N0, .int .u64 T0, .string key0, .slice pu l0.length cu], v0] w (Gives (.bool true) w) := by
  obtain ⟨p0, c0, hv⟩ := hB.form
  obtain ⟨nB, hnB⟩ : ∃ nB, B.length = nB := ⟨_, rfl⟩
  rw [hnB] at hv
  subst hv
  have HP := Lib.hid (fun W (h : Below w.heap.size w W) => pi_any N0 T0 key0 (.slice pu l0.length cu) l0 W (hS.below h) hR)
  have HQ := Lib.hid (fun W (h : Below w.heap.size w W) => qputitem_any N0 T0 key0 (.slice pu l0.length cu) l0 W (hS.below h) hR)
  have HM := Lib.hid (fun W (h : Below w.heap.size w W) => mc_item N0 T0 key0 (.slice pu l0.length cu) l0 W (hS.below h) hR)
  have HN := Lib.hid (fun W (h : Below w.heap.size w W) => qmayitem_any N0 T0 key0 (.slice pu l0.length cu) l0 W (hS.below h) hR)
  have HT := Lib.hid (fun W (h : Below w.heap.size w W) => ti_any (.slice p0 nB c0) B W (hB.below h) (by omega))
  have HU := Lib.hid (fun W (h : Below w.heap.size w W) => qtake_item (.slice p0 nB c0) B W (hB.below h) (by omega))
  obtain ⟨S, hSS⟩ : ∃ S, putI (N0, T0, key0, l0) = S := ⟨_, rfl⟩
  obtain ⟨mi, hmi⟩ : ∃ mi, mayI (N0, T0, key0, l0) = mi := ⟨_, rfl⟩
  rw [hSS] at HP HQ
  rw [hmi] at HM HN
  obtain ⟨nl, hnl⟩ : ∃ nl, l0.length = nl := ⟨_, rfl⟩
  rw [hnl] at HP HQ HM HN ⊢
  have HXb := Lib.hid (Blk.new w 51 #[.int .u64 N0, .int .u64 T0, .string key0, .slice pu nl cu])
  have HB0 := Lib.hid (below_one w (.cells #[.int .u64 N0, .int .u64 T0, .string key0, .slice pu nl cu] 51))
  clear hB hnB hSS hnl hmi hS
  go_enter Try.func5, Try.ntmps5
  go_wp2_with fail
  refine (HP.out _ HB0.out).mono ?_; rintro e w2 ⟨vx, rfl, hox, b2⟩
  obtain ⟨EF, hEF⟩ : ∃ EF : Int, (if S.isSome then 0 else 30) = EF := ⟨_, rfl⟩
  rw [hEF]
  have HEF := Lib.hid hEF
  obtain ⟨px, cx, rfl⟩ := hox.form
  obtain ⟨FS, hFS⟩ : ∃ FS, S.getD [] = FS := ⟨_, rfl⟩
  have HFS := Lib.hid hFS
  rw [hFS] at hox ⊢
  obtain ⟨NF, hNF⟩ : ∃ NF, FS.length = NF := ⟨_, rfl⟩
  have HNF := Lib.hid hNF
  rw [hNF] at hox ⊢
  have HOx2 := Lib.hid hox
  have HX2 := Lib.hid (HXb.out.later b2)
  have HB2 := Lib.hid (then_ HB0.out b2)
  have y0 := HX2.out.cell 0 (u := .int .u64 N0) rfl
  have y1 := HX2.out.cell 1 (u := .int .u64 T0) rfl
  have y2 := HX2.out.cell 2 (u := .string key0) rfl
  have y3 := HX2.out.cell 3 (u := .slice pu nl cu) rfl
  clear hEF hFS hNF hox b2 HXb HB0
  go_wp2_with fail
  refine (HQ.out _ HB2.out).mono ?_; rintro e w3 ⟨vy, rfl, hoy, b3⟩
  obtain ⟨py, cy, rfl⟩ := hoy.form
  rw [HFS.out] at hoy ⊢
  rw [HEF.out]
  rw [HNF.out] at hoy ⊢
  have HOy3 := Lib.hid hoy
  have HOx3 := Lib.hid (HOx2.out.below b3)
  have HX3 := Lib.hid (HX2.out.later b3)
  have HB3 := Lib.hid (then_ HB2.out b3)
  clear hoy b3 y0 y1 y2 y3 HX2 HOx2 HEF HFS HB2
  go_wp2_with fail
  refine (HT.out _ HB3.out).mono ?_; intro e w4 h
  obtain ⟨pe, ce, rfl, b4, ho4, hl4⟩ := tkq_i rfl h
  obtain ⟨⟨N4, T4, k4, l4⟩, hx4⟩ : ∃ X, (tkI B).getD (0, 0, ⟨#[]⟩, []) = X := ⟨_, rfl⟩
  obtain ⟨ET, hET⟩ : ∃ ET : Int, (if (tkI B).isSome then 0 else 5) = ET := ⟨_, rfl⟩
  rw [hx4] at ho4 hl4 ⊢
  rw [hET]
  simp only at ho4 hl4 ⊢
  have HX4e := Lib.hid hx4
  have HET := Lib.hid hET
  obtain ⟨n4, hn4⟩ : ∃ n4, l4.length = n4 := ⟨_, rfl⟩
  rw [hn4] at ho4 hl4 ⊢
  have Hn4 := Lib.hid hn4
  have HU4 := Lib.hid (Blk.new w4 51 #[.int .u64 N4, .int .u64 T4, .string k4, .slice pe n4 ce])
  have bz := then_ b4 (below_one w4 (.cells #[.int .u64 N4, .int .u64 T4, .string k4, .slice pe n4 ce] 51))
  obtain ⟨W5, hW5⟩ : ∃ W5, w4.alloc (.cells #[.int .u64 N4, .int .u64 T4, .string k4, .slice pe n4 ce] 51) = W5 := ⟨_, rfl⟩
  have HUo5 : Hid (W5.ownsRow w3.heap.size 81 5 (.slice pe n4 ce) n4 (l4.flatMap encA)) := Lib.hid (by rw [← hW5]; exact World.ownsRow.alloc ho4 _)
  rw [hW5] at HU4 bz
  have HOy5 := Lib.hid (HOy3.out.below bz)
  have HOx5 := Lib.hid (HOx3.out.below bz)
  have HX5 := Lib.hid (HX3.out.later bz)
  have HB5 := Lib.hid (then_ HB3.out bz)
  clear h ho4 b4 bz hx4 hET hn4 HOy3 HOx3 HX3 HB3 HT
  go_wp2_with fail
  clear hW5
  refine (HU.out _ HB5.out).mono ?_; intro e w7 h
  obtain ⟨pf, cf, rfl, b7, ho7, -⟩ := tkq_i (takeq_i B) h
  rw [HX4e.out] at ho7 ⊢
  rw [HET.out]
  simp only at ho7 ⊢
  rw [Hn4.out] at ho7 ⊢
  have HV8 := Lib.hid (Blk.new w7 51 #[.int .u64 N4, .int .u64 T4, .string k4, .slice pf n4 cf])
  have bz := then_ b7 (below_one w7 (.cells #[.int .u64 N4, .int .u64 T4, .string k4, .slice pf n4 cf] 51))
  obtain ⟨W8, hW8⟩ : ∃ W8, w7.alloc (.cells #[.int .u64 N4, .int .u64 T4, .string k4, .slice pf n4 cf] 51) = W8 := ⟨_, rfl⟩
  have HVo8 : Hid (W8.ownsRow W5.heap.size 81 5 (.slice pf n4 cf) n4 (l4.flatMap encA)) := Lib.hid (by rw [← hW8]; exact World.ownsRow.alloc ho7 _)
  rw [hW8] at HV8 bz
  have HUo8 := Lib.hid (own_later HUo5.out bz)
  have HU8 := Lib.hid (HU4.out.later bz)
  have HX8 := Lib.hid (HX5.out.later bz)
  have HB8 := Lib.hid (then_ HB5.out bz)
  have cvx := fun (z : Later W8) => conv_bs (((HOx5.out.below bz).below (Later.bel z)).bs) 9 Try.underlying9
  have cvy := fun (z : Later W8) => conv_bs (((HOy5.out.below bz).below (Later.bel z)).bs) 9 Try.underlying9
  have hse := str_same FS
  obtain ⟨XS, hXS⟩ : ∃ XS, (⟨FS.toArray⟩ : ByteArray) = XS := ⟨_, rfl⟩
  simp only [hXS] at cvx cvy hse
  have HSm : Hid (∀ W, Below W8.heap.size W8 W → Calls Try.prog 27 #[.agg #[.int .u64 N4, .int .u64 T4, .string k4, .slice pe n4 ce], .agg #[.int .u64 N4, .int .u64 T4, .string k4, .slice pf n4 cf]] W (Gives (.bool true) W)) := Lib.hid (fun W hb => by
    have h1 : Sl W (.slice pe n4 ce) l4 := by have h := own_later HUo8.out hb; rw [← Hn4.out] at h ⊢; exact sl_own h (by rw [Hn4.out]; omega)
    have h2 : Sl W (.slice pf n4 cf) l4 := by have h := own_later HVo8.out hb; rw [← Hn4.out] at h ⊢; exact sl_own h (by rw [Hn4.out]; omega)
    exact sitem_any N4 T4 k4 k4 (.slice pe n4 ce) (.slice pf n4 cf) l4 l4 W h1 h2 ((sameB_iff k4 l4 k4 l4).2 ⟨rfl, rfl⟩))
  have HM8 := Lib.hid (fun W (h : Below W8.heap.size W8 W) => HM.out W (then_ HB8.out h))
  have HN8 := Lib.hid (fun W (h : Below W8.heap.size W8 W) => HN.out W (then_ HB8.out h))
  have f0 := fun (z : Later W8) => Later.cell (HU8.out.cell 0 (u := .int .u64 N4) rfl) z
  have f1 := fun (z : Later W8) => Later.cell (HU8.out.cell 1 (u := .int .u64 T4) rfl) z
  have f2 := fun (z : Later W8) => Later.cell (HU8.out.cell 2 (u := .string k4) rfl) z
  have f3 := fun (z : Later W8) => Later.cell (HU8.out.cell 3 (u := .slice pe n4 ce) rfl) z
  have g0 := fun (z : Later W8) => Later.cell (HV8.out.cell 0 (u := .int .u64 N4) rfl) z
  have g1 := fun (z : Later W8) => Later.cell (HV8.out.cell 1 (u := .int .u64 T4) rfl) z
  have g2 := fun (z : Later W8) => Later.cell (HV8.out.cell 2 (u := .string k4) rfl) z
  have g3 := fun (z : Later W8) => Later.cell (HV8.out.cell 3 (u := .slice pf n4 cf) rfl) z
  have x0 := fun (z : Later W8) => Later.cell (HX8.out.cell 0 (u := .int .u64 N0) rfl) z
  have x1 := fun (z : Later W8) => Later.cell (HX8.out.cell 1 (u := .int .u64 T0) rfl) z
  have x2 := fun (z : Later W8) => Later.cell (HX8.out.cell 2 (u := .string key0) rfl) z
  have x3 := fun (z : Later W8) => Later.cell (HX8.out.cell 3 (u := .slice pu nl cu) rfl) z
  clear h ho7 b7 bz hXS HOx5 HOy5 HUo5 HUo8 HVo8 HU4 HX5 HP HQ HU
  go_upto_region 5 with (fail)
  clear hW8
  refine wp_region_later (by kernel_rfl) (by kernel_rfl) ?_
  repeat (quiet_step ((first | (go_at_call 27; exact later_call _ (HSm.out _ (Later.bel _))) | (go_at_call 28; exact later_call _ (HM8.out _ (Later.bel _))) | (go_at_call 29; exact later_call _ (HN8.out _ (Later.bel _))) | (go_at_call 17; exact later_call _ (wakes_any _)))))
  refine wpQuiet_nil ?_
  intro wz hw'
  obtain ⟨⟨_, hbz⟩, rfl⟩ := hw'
  have HBz := Lib.hid (then_ HB8.out hbz)
  clear hbz cvx cvy f0 f1 f2 f3 g0 g1 g2 g3 x0 x1 x2 x3
  go_wp2_with fail
  go_ret
  exact ⟨rfl, HBz.out⟩
end Go.Proofs.Ytkfheodcmhodpaa.Gm
set_option linter.unusedSimpArgs false
set_option linter.unusedVariables false
namespace Go.Proofs.Ytkfheodcmhodpaa
open Go.ChangeShapes Go.WideShapes Go.ChangeAt Go.RowKit Gm

set_option maxRecDepth 100000 in
theorem lifted_codecItems (os : Os) (started : os.Started) (H : Type) (enc : TypeId × Value → H) :
    ReturnsInHanded {} Try.checked os 5 .any (Rows.codecItemsSpec.pre6 enc Try.prog Try.f5 Rows.codecItemsRow.domain false) (Rows.codecItemsSpec.post enc Try.prog Try.f5 false true false false) := by
  refine returnsInHanded_of_change_sized (C := Try.checked) (s := Rows.codecItemsSpec) own started (by kernel_rfl) Try.func5
    (ChangeSpec.witness6 (enc := enc) (C := Try.checked) (os := os) (s := Rows.codecItemsSpec) false ⟨#[], #[.agg #[.int .u64 0, .int .u64 0, .string ⟨#[]⟩, .slice none 0 0], .slice none 0 0], []⟩ 8 (by kernel_rfl) (by kernel_rfl) (by kernel_rfl) (by kernel_rfl)) ?_
  intro W base args ds gs before hval0 hW _ hsz _
  have hval : ∀ (j : Nat) t v, Try.f5.params[j]? = some t → args[j]? = some v → Value.okWide Try.prog W .any base t v := hval0
  have hW' := hW
  obtain ⟨p, q, hA0, hV, rfl, hfz, hnd⟩ := hW
  have hA : DataW.TrodAll enc Try.prog W 0 (fun _ => true) true Try.f5.params.toList args.toList ds p := hA0
  rw [Try.params5] at hA hval
  obtain ⟨v0, vs0, d0, ds0, p0, q0, hargs, rfl, rfl, h0, r0⟩ := trodAll_cons hA
  obtain ⟨v1, vs1, d1, ds1, p1, q1, rfl, rfl, rfl, h1, r1⟩ := trodAll_cons r0
  obtain ⟨rfl, rfl, rfl⟩ := trodAll_nil r1
  obtain rfl : args = #[v0, v1] := by cases args; simp_all
  obtain ⟨rfl, rfl⟩ := trodVars_none hV
  have lt0 : ∀ x ∈ p0, x.block < W.heap.size := by obtain ⟨m, hm⟩ := h0; exact DataW.trod_lt m _ _ _ hm
  have lt1 : ∀ x ∈ p1, x.block < W.heap.size := by obtain ⟨m, hm⟩ := h1; exact DataW.trod_lt m _ _ _ hm
  obtain ⟨x0, rfl, hn0, ht0, hI0, hIr0⟩ := open_item (hval 0 51 v0 rfl rfl) h0 (fun n hn => by simpa using List.all_eq_true.1 hsz _ (DataW.weights_mem_each (j := 0) (t := 51) (d := d0) (by rw [Try.params5]; rfl) rfl n hn))
  obtain ⟨L1, hB1, hl1⟩ := open_bs (hval 1 25 v1 rfl rfl) h1
  clear hA0 hval0
  refine (law_citems x0.n x0.t x0.key x0.ap x0.ac x0.at_ v1 L1 W hn0 ht0 hI0 hIr0 hB1 (by rw [hl1]; exact reach_bs (fun n hn => by simpa using List.all_eq_true.1 hsz _ (DataW.weights_mem_each (j := 1) (t := 25) (d := d1) (by rw [Try.params5]; rfl) rfl n hn)))).mono fun e W' ⟨he, bel⟩ => ?_
  subst he
  exact ⟨_, rfl, _, _, _, [], _, [], hW', trodAll_mk1 (shut_bool Try.underlying4 _), (trodAll_cons_mk (Below.trod laidOut (by kernel_rfl) (of_decide_eq_true (by kernel_rfl)) h0 bel lt0) (trodAll_cons_mk (Below.trod laidOut (by kernel_rfl) (of_decide_eq_true (by kernel_rfl)) h1 bel lt1) trodAll_mk0)), rfl, bel.frame _, fun h => by cases h⟩

theorem codecItems_said : Rows.CodecItemsSaid :=
  OpenClaim.holds_of_wide 5 Try.f5 rfl rfl rfl rfl rfl rfl rfl ⟨rfl, rfl, rfl, rfl, rfl⟩ rfl rfl rfl rfl rfl (by kernel_rfl) Try.func5 (by kernel_rfl)
    (of_decide_eq_true (by kernel_rfl)) (by unfold Func.isWrapper; first | (rw [if_pos (by decide +kernel)]; kernel_rfl) | (rw [if_neg (by decide +kernel)]; exact ⟨rfl, rfl⟩))
    (fun os started H enc _ => lifted_codecItems os started H enc)
#print axioms codecItems_said
end Go.Proofs.Ytkfheodcmhodpaa
