/- The contract of package cover's regionOf. -/
import Derived.Test.YtggcboejdihdiaaCm
set_option linter.unusedSimpArgs false
set_option linter.unusedVariables false
namespace Go.Proofs.Ytggcboejdihdiaa.Gm
open Go Go.RowKit
attribute [local go_sem ↓] Go.wp_at_zero Go.wp_at_succ

set_option maxHeartbeats 8000000 in
set_option maxRecDepth 100000 in
theorem regionOf1_any (c : Cn) (hop : c.op = 1) (w : World) : Calls Try.prog 42 #[cc c] w (RetR allR w) := by
  have H2 := two w 34 39 (cnc c) zRg
  have HZ := Lib.hid H2.2.1
  have HB := Lib.hid H2.2.2
  clear H2
  have h1 : (c.op == 1) = true := by simp [hop]
  clear hop
  have HA := Lib.hid (fun W => all_r W)
  generalize allR = x at HA ⊢
  go_enter Try.func42, Try.ntmps42
  go_wp2_with fail
  refine (HA.out _).mono ?_; rintro e w1 ⟨k1, rfl, ho1, b1⟩
  have HO1 := Lib.hid ho1
  have HB1 := Lib.hid (then_ HB.out b1)
  have HZ1 := Lib.hid (HZ.out.later b1)
  clear b1 ho1
  have z0 := HZ1.out.cell 0 rfl
  have z1 := HZ1.out.cell 1 rfl
  have z2 := HZ1.out.cell 2 rfl
  have z3 := HZ1.out.cell 3 rfl
  have f0 := HZ1.out.free 0
  have f1 := HZ1.out.free 1
  have f2 := HZ1.out.free 2
  have f3 := HZ1.out.free 3
  go_wp2_with fail
  exact post_rg (m := k1) (r := x) HZ1.out (fun W hW => by have e0 := hW.cell 0 rfl; have e1 := hW.cell 1 rfl; have e2 := hW.cell 2 rfl; have e3 := hW.cell 3 rfl; clear HZ HB HA HZ1 HB1 HO1 z0 z1 z2 z3 f0 f1 f2 f3; simp [results, Try.results42, go_sem, e0, e1, e2, e3]) rfl ⟨k1, rfl, OwnR.put4 HO1.out HZ1.out, (same4 _ _ _ _).below HB1.out HB1.out.size (by omega)⟩
set_option maxHeartbeats 8000000 in
set_option maxRecDepth 100000 in
theorem regionOf3_any (c : Cn) (hop : c.op = 3) (hv : mayVl c.v = true) (hr : Rv c.v) (w : World) : Calls Try.prog 42 #[cc c] w (RetR (orR (stretchR 4 c.v) (stretchR 6 c.v)) w) := by
  have H2 := two w 34 39 (cnc c) zRg
  have HP0 : Hid (Blk (((w.alloc (.cells (cnc c) 34)).alloc (.cells zRg 39)).drew) w.heap.size 34 (cnc c)) := Lib.hid H2.1
  have HZ0 : Hid (Blk (((w.alloc (.cells (cnc c) 34)).alloc (.cells zRg 39)).drew) (w.heap.size + 1) 39 zRg) := Lib.hid H2.2.1
  have HB0 : Hid (Below w.heap.size w (((w.alloc (.cells (cnc c) 34)).alloc (.cells zRg 39)).drew)) := Lib.hid H2.2.2.drew
  clear H2
  have h1 : (c.op == 1) = false := by simp [hop]
  have h3 : (c.op == 3) = true := by simp [hop]
  clear hop
  have HS4 := Lib.hid (fun W => stretch_any 4 c.v (may_kind hv) hr (by have := may_size hv; omega) W)
  have HS6 := Lib.hid (fun W => stretch_any 6 c.v (may_kind hv) hr (by have := may_size hv; omega) W)
  have HOr := Lib.hid (fun W q q' (h : OwnR W q (stretchR 4 c.v)) (h' : OwnR W q' (stretchR 6 c.v)) => or_r q q' (stretchR 4 c.v) (stretchR 6 c.v) 1 1 W (h.rg (LeR.stretch _ _) (by omega)) (h'.rg (LeR.stretch _ _) (by omega)) (LeR.stretch _ _) (LeR.stretch _ _) (by omega))
  clear hv hr
  generalize stretchR 4 c.v = x4 at HS4 HOr ⊢
  generalize stretchR 6 c.v = x6 at HS6 HOr ⊢
  generalize orR x4 x6 = x at HOr ⊢
  go_enter Try.func42, Try.ntmps42
  go_wp2_with fail
  obtain ⟨W2, hW2⟩ : ∃ W2, W2 = (w.alloc (.cells (cnc c) 34)).alloc (.cells zRg 39) := ⟨_, rfl⟩
  rw [← hW2] at HP0 HZ0 HB0 ⊢
  clear hW2
  go_region_held3 (fun w9 => w9.cell? ⟨w.heap.size, 2, none⟩ = some (.int .i64 c.v.k) ∧ w9.cell? ⟨w.heap.size, 3, none⟩ = some (.int .i64 c.v.n) ∧ w9.cell? ⟨w.heap.size, 4, none⟩ = some (.string c.v.s) ∧ w9.cell? ⟨w.heap.size, 5, none⟩ = some (.bool c.v.b)) (first | (with_reducible exact cells7 HP3.out) | (with_reducible exact cells7 HP2.out) | (with_reducible exact cells7 HP1.out) | (with_reducible exact keep7 k3 x HP3.out (by omega)) | exact cells7 HP0.out) (first | (go_at_call 54; (with_reducible refine (HS4.out _).mono ?_); rintro e w1 ⟨k1, rfl, ho, b9⟩; have HO1 := Lib.hid ho; have HP1 := Lib.hid (HP0.out.later b9); have HZ1 := Lib.hid (HZ0.out.later b9); have HB1 := Lib.hid (then_ HB0.out b9); clear b9 ho; skip) | (go_at_call 54; (with_reducible refine (HS6.out _).mono ?_); rintro e w2 ⟨k2, rfl, ho, b9⟩; have HO2 := Lib.hid ho; have HO12 := Lib.hid (HO1.out.later b9); have HP2 := Lib.hid (HP1.out.later b9); have HZ2 := Lib.hid (HZ1.out.later b9); have HB2 := Lib.hid (then_ HB1.out b9); clear b9 ho; skip) | (go_at_call 55; (with_reducible refine (HOr.out _ _ _ HO12.out HO2.out).mono ?_); rintro e w3 ⟨k3, rfl, ho, b9⟩; have HO3 := Lib.hid ho; have HP3 := Lib.hid (HP2.out.later b9); have HZ3 := Lib.hid (HZ2.out.later b9); have HB3 := Lib.hid (then_ HB2.out b9); clear b9 ho; have z0 := HZ3.out.cell 0 rfl; have z1 := HZ3.out.cell 1 rfl; have z2 := HZ3.out.cell 2 rfl; have z3 := HZ3.out.cell 3 rfl; have f0 := HZ3.out.free 0; have f1 := HZ3.out.free 1; have f2 := HZ3.out.free 2; have f3 := HZ3.out.free 3; skip))
  all_goals (try go_wp2_with fail)
  all_goals
    exact post_rg (m := k3) (r := x) HZ3.out (fun W hW => by have e0 := hW.cell 0 rfl; have e1 := hW.cell 1 rfl; have e2 := hW.cell 2 rfl; have e3 := hW.cell 3 rfl; clear HP0 HP1 HP2 HP3 HZ0 HZ1 HZ2 HB0 HB1 HB2 HS4 HS6 HOr HO1 HO2 HO12 HZ3 HB3 HO3 z0 z1 z2 z3 f0 f1 f2 f3; simp [results, Try.results42, go_sem, e0, e1, e2, e3]) rfl ⟨k3, rfl, OwnR.put4 HO3.out HZ3.out, (same4 _ _ _ _).below HB3.out HB3.out.size (by omega)⟩
set_option maxHeartbeats 8000000 in
set_option maxRecDepth 100000 in
theorem regionOf2_any (c : Cn) (hop : c.op ≠ 1 ∧ c.op ≠ 3 ∧ c.op ≠ 9) (hv : mayVl c.v = true) (hr : Rv c.v) (w : World) : Calls Try.prog 42 #[cc c] w (RetR (stretchR c.op c.v) w) := by
  have H2 := two w 34 39 (cnc c) zRg
  have HZ := Lib.hid H2.2.1
  have HB := Lib.hid H2.2.2
  clear H2
  have h1 : (c.op == 1) = false := by simp [hop.1]
  have h3 : (c.op == 3) = false := by simp [hop.2.1]
  have h9 : (c.op == 9) = false := by simp [hop.2.2]
  clear hop
  have HA := Lib.hid (fun W => stretch_any c.op c.v (may_kind hv) hr (by have := may_size hv; omega) W)
  clear hv hr
  generalize stretchR c.op c.v = x at HA ⊢
  go_enter Try.func42, Try.ntmps42
  go_wp2_with fail
  refine (HA.out _).mono ?_; rintro e w1 ⟨k1, rfl, ho1, b1⟩
  have HO1 := Lib.hid ho1
  have HB1 := Lib.hid (then_ HB.out b1)
  have HZ1 := Lib.hid (HZ.out.later b1)
  clear b1 ho1
  have z0 := HZ1.out.cell 0 rfl
  have z1 := HZ1.out.cell 1 rfl
  have z2 := HZ1.out.cell 2 rfl
  have z3 := HZ1.out.cell 3 rfl
  have f0 := HZ1.out.free 0
  have f1 := HZ1.out.free 1
  have f2 := HZ1.out.free 2
  have f3 := HZ1.out.free 3
  go_wp2_with fail
  exact post_rg (m := k1) (r := x) HZ1.out (fun W hW => by have e0 := hW.cell 0 rfl; have e1 := hW.cell 1 rfl; have e2 := hW.cell 2 rfl; have e3 := hW.cell 3 rfl; clear HZ HB HA HZ1 HB1 HO1 z0 z1 z2 z3 f0 f1 f2 f3; simp [results, Try.results42, go_sem, e0, e1, e2, e3]) rfl ⟨k1, rfl, OwnR.put4 HO1.out HZ1.out, (same4 _ _ _ _).below HB1.out HB1.out.size (by omega)⟩
end Go.Proofs.Ytggcboejdihdiaa.Gm
