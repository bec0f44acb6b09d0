/- The contracts of package cover's stretch, regionOf, Of. -/
import Derived.Test.YtggcboejdihdiaaCl
set_option linter.unusedSimpArgs false
set_option linter.unusedVariables false
namespace Go.Proofs.Ytggcboejdihdiaa.Gm
open Go Go.RowKit
attribute [local go_sem ↓] Go.wp_at_zero Go.wp_at_succ

theorem below_none {w w' : World} (h : w.grownBy w' none) : Below w.heap.size w w' := ⟨h.os, h.tape, h.output, h.size, fun k hk => h.block k hk (by simp)⟩
theorem with_nil (s : Sp) (w : World) : Calls Try.prog 44 #[.slice none 0 0, spv s] w fun e w' => ∃ p c, e = .returned (.slice p (withL [] s).length c) ∧ OwnS w' 0 (.slice p (withL [] s).length c) (withL [] s) ∧ Below w.heap.size w w' :=
  (with_any 0 (.slice none 0 0) [] s w (OwnS.nil _ _) (Nat.zero_le _) (by simp)).mono fun e w' ⟨p, c, h1, h2, h3⟩ => ⟨p, c, h1, h2, below_none h3⟩
theorem cells4 {w : World} {a : Nat} {v : Vl} (hP : Blk w a 31 (vlc v)) : w.cell? ⟨a, 0, none⟩ = some (.int .i64 v.k) ∧ w.cell? ⟨a, 1, none⟩ = some (.int .i64 v.n) ∧ w.cell? ⟨a, 2, none⟩ = some (.string v.s) ∧ w.cell? ⟨a, 3, none⟩ = some (.bool v.b) :=
  ⟨hP.cell 0 rfl, hP.cell 1 rfl, hP.cell 2 rfl, hP.cell 3 rfl⟩
theorem keep4 {w : World} {a g i : Nat} {u : Value} {v : Vl} (hP : Blk w a 31 (vlc v)) (h : a ≠ g) : (w.setCell ⟨g, i, none⟩ u).cell? ⟨a, 0, none⟩ = some (.int .i64 v.k) ∧ (w.setCell ⟨g, i, none⟩ u).cell? ⟨a, 1, none⟩ = some (.int .i64 v.n) ∧ (w.setCell ⟨g, i, none⟩ u).cell? ⟨a, 2, none⟩ = some (.string v.s) ∧ (w.setCell ⟨g, i, none⟩ u).cell? ⟨a, 3, none⟩ = some (.bool v.b) :=
  have S : Same g w (w.setCell ⟨g, i, none⟩ u) := (Same.refl _ _).set _ _
  cells4 (S.blk hP h)
theorem idx_ra1 (g : Nat) (W : World) : (Instr.indexAt 37 (.pointer (some ⟨g, 0, none⟩)) (.int .i64 0)).run Try.prog W = .ok (.pointer (some ⟨g, 0, none⟩)) W := by simp [Instr.indexAt, go_sem]
theorem idx_ra2 (g : Nat) (W : World) : (Instr.indexAt 37 (.pointer (some ⟨g, 0, none⟩)) (.int .i64 1)).run Try.prog W = .ok (.pointer (some ⟨g, 1, none⟩)) W := by simp [Instr.indexAt, go_sem]
theorem idx_ra3 (g : Nat) (W : World) : (Instr.indexAt 37 (.pointer (some ⟨g, 0, none⟩)) (.int .i64 2)).run Try.prog W = .ok (.pointer (some ⟨g, 2, none⟩)) W := by simp [Instr.indexAt, go_sem]
theorem three3 (w : World) (t t' t'' : TypeId) (a b c : Array Value) : Blk (((w.alloc (.cells a t)).alloc (.cells b t')).alloc (.cells c t'')) w.heap.size t a ∧ Blk (((w.alloc (.cells a t)).alloc (.cells b t')).alloc (.cells c t'')) (w.heap.size + 1) t' b ∧ Blk (((w.alloc (.cells a t)).alloc (.cells b t')).alloc (.cells c t'')) (w.heap.size + 1 + 1) t'' c ∧ Below w.heap.size w (((w.alloc (.cells a t)).alloc (.cells b t')).alloc (.cells c t'')) := by
  have h1 := Blk.new w t a
  have h2 := Blk.new (w.alloc (.cells a t)) t' b
  have h3 := Blk.new ((w.alloc (.cells a t)).alloc (.cells b t')) t'' c
  refine ⟨(h1.alloc _).alloc _, ?_, ?_, (below_two w _ _).alloc (by simp; omega) _⟩
  · have := h2.alloc (.cells c t''); simpa using this
  · simpa using h3
set_option maxHeartbeats 8000000 in
set_option maxRecDepth 100000 in
theorem stretch1_any (op n : Int) (s : ByteArray) (b : Bool) (hr : Rv ⟨1, n, s, b⟩) (hs : s.size ≤ 1048576) (w : World) : Calls Try.prog 54 #[.int .i64 op, .agg #[.int .i64 1, .int .i64 n, .string s, .bool b]] w (RetR (stretchR op ⟨1, n, s, b⟩) w) := by
  have HC := Lib.hid (fun W => stretched_any op ⟨1, n, s, b⟩ (by simp) hr hs W)
  have HW := Lib.hid (fun W => with_nil (strS op ⟨1, n, s, b⟩) W)
  have HE : Hid (stretchR op ⟨1, n, s, b⟩ = atK 1 (withL [] (strS op ⟨1, n, s, b⟩))) := Lib.hid rfl
  rw [HE.out]
  clear HE hr hs
  generalize strS op ⟨1, n, s, b⟩ = t at HC HW ⊢
  generalize withL [] t = L at HW ⊢
  have HE2 : Hid (atK 1 L = ⟨L, [], [], false⟩) := Lib.hid rfl
  rw [HE2.out]
  clear HE2
  have H3 := Lib.hid (three3 w 31 39 39 (vlc ⟨1, n, s, b⟩) zRg zRg)
  go_enter Try.func54, Try.ntmps54
  go_wp2
  obtain ⟨W3, hW3⟩ : ∃ W3, W3 = ((w.alloc (.cells (vlc ⟨1, n, s, b⟩) 31)).alloc (.cells zRg 39)).alloc (.cells zRg 39) := ⟨_, rfl⟩
  rw [← hW3] at H3 ⊢
  clear hW3
  have HP0 : Hid (Blk W3.drew w.heap.size 31 (vlc ⟨1, n, s, b⟩)) := Lib.hid H3.out.1
  have HQ0 : Hid (Blk W3.drew (w.heap.size + 1) 39 zRg) := Lib.hid H3.out.2.1
  have HZ0 : Hid (Blk W3.drew (w.heap.size + 1 + 1) 39 zRg) := Lib.hid H3.out.2.2.1
  have HB0 : Hid (Below w.heap.size w W3.drew) := Lib.hid H3.out.2.2.2.drew
  clear H3
  obtain ⟨G, hG⟩ : ∃ G, w.heap.size + 1 + 1 = G := ⟨_, rfl⟩
  rw [hG] at HZ0 ⊢
  have hG1 : w.heap.size + 1 < G := by omega
  have hia := idx_ra1 G
  have hwr : IntKind.i64.wrap 0 = 0 := by decide
  clear hG
  go_region_held3 (fun w9 => w9.cell? ⟨w.heap.size, 0, none⟩ = some (.int .i64 1) ∧ w9.cell? ⟨w.heap.size, 1, none⟩ = some (.int .i64 n) ∧ w9.cell? ⟨w.heap.size, 2, none⟩ = some (.string s) ∧ w9.cell? ⟨w.heap.size, 3, none⟩ = some (.bool b)) (first | (with_reducible exact cells4 (v := ⟨1, n, s, b⟩) HP2.out) | (with_reducible exact cells4 (v := ⟨1, n, s, b⟩) HP1.out) | (with_reducible exact keep4 (v := ⟨1, n, s, b⟩) HP2.out (by omega)) | exact cells4 (v := ⟨1, n, s, b⟩) HP0.out) (first | (go_at_call 61; (with_reducible refine (HC.out _).mono ?_); rintro e w1 ⟨rfl, b9⟩; have HP1 := Lib.hid (HP0.out.later b9); have HQ1 := Lib.hid (HQ0.out.later b9); have HZ1 := Lib.hid (HZ0.out.later b9); have HB1 := Lib.hid (then_ HB0.out b9); clear b9; skip) | (go_at_call 44; (with_reducible refine (HW.out _).mono ?_); rintro e w2 ⟨p9, c9, rfl, ho, b9⟩; have HO2 := Lib.hid ho; have HP2 := Lib.hid (HP1.out.later b9); have HQ2 := Lib.hid (HQ1.out.later b9); have HZ2 := Lib.hid (HZ1.out.later b9); have HB2 := Lib.hid (then_ HB1.out b9); clear b9 ho; have z0 := HZ2.out.cell 0 rfl; have z1 := HZ2.out.cell 1 rfl; have z2 := HZ2.out.cell 2 rfl; have z3 := HZ2.out.cell 3 rfl; have f0 := HZ2.out.free 0; have f1 := HZ2.out.free 1; have f2 := HZ2.out.free 2; have f3 := HZ2.out.free 3; have y0 := HQ2.out.cell 0 rfl; have y1 := HQ2.out.cell 1 rfl; have y2 := HQ2.out.cell 2 rfl; have y3 := HQ2.out.cell 3 rfl; have g0 := HQ2.out.free 0; have g1 := HQ2.out.free 1; have g2 := HQ2.out.free 2; have g3 := HQ2.out.free 3; skip))
  all_goals (try go_wp2_with fail)
  have S : Same (G) w2 (w2.setCell ⟨G, 0, none⟩ (.slice p9 L.length c9)) := (Same.refl _ _).set _ _
  have HQ3 := S.blk HQ2.out (by omega)
  have HO3 : OwnR (w2.setCell ⟨G, 0, none⟩ (.slice p9 L.length c9)) ⟨p9, c9, none, 0, none, 0⟩ ⟨L, [], [], false⟩ := ⟨Same.own S HO2.out (HZ2.out.apart HO2.out (by decide)), OwnS.nil _ _, OwnS.nil _ _⟩
  have HB3 := S.below HB2.out HB2.out.size (by omega)
  exact post_rg (m := ⟨p9, c9, none, 0, none, 0⟩) (r := ⟨L, [], [], false⟩) HQ3 (fun W hW => by have e0 := hW.cell 0 rfl; have e1 := hW.cell 1 rfl; have e2 := hW.cell 2 rfl; have e3 := hW.cell 3 rfl; clear HP0 HQ0 HZ0 HB0 HP1 HQ1 HZ1 HB1 HP2 HQ2 HZ2 HB2 HO2 HC HW S HQ3 HO3 HB3 z0 z1 z2 z3 f0 f1 f2 f3 y0 y1 y2 y3 g0 g1 g2 g3; simp [results, Try.results54, go_sem, e0, e1, e2, e3]) rfl ⟨⟨p9, c9, none, 0, none, 0⟩, rfl, OwnR.put4 HO3 HQ3, (same4 _ _ _ _).below HB3 HB3.size (by omega)⟩
set_option maxHeartbeats 8000000 in
set_option maxRecDepth 100000 in
theorem stretch2_any (op n : Int) (s : ByteArray) (b : Bool) (hr : Rv ⟨2, n, s, b⟩) (hs : s.size ≤ 1048576) (w : World) : Calls Try.prog 54 #[.int .i64 op, .agg #[.int .i64 2, .int .i64 n, .string s, .bool b]] w (RetR (stretchR op ⟨2, n, s, b⟩) w) := by
  have HC := Lib.hid (fun W => stretched_any op ⟨2, n, s, b⟩ (by simp) hr hs W)
  have HW := Lib.hid (fun W => with_nil (strS op ⟨2, n, s, b⟩) W)
  have HE : Hid (stretchR op ⟨2, n, s, b⟩ = atK 2 (withL [] (strS op ⟨2, n, s, b⟩))) := Lib.hid rfl
  rw [HE.out]
  clear HE hr hs
  generalize strS op ⟨2, n, s, b⟩ = t at HC HW ⊢
  generalize withL [] t = L at HW ⊢
  have HE2 : Hid (atK 2 L = ⟨[], L, [], false⟩) := Lib.hid rfl
  rw [HE2.out]
  clear HE2
  have H3 := Lib.hid (three3 w 31 39 39 (vlc ⟨2, n, s, b⟩) zRg zRg)
  go_enter Try.func54, Try.ntmps54
  go_wp2
  obtain ⟨W3, hW3⟩ : ∃ W3, W3 = ((w.alloc (.cells (vlc ⟨2, n, s, b⟩) 31)).alloc (.cells zRg 39)).alloc (.cells zRg 39) := ⟨_, rfl⟩
  rw [← hW3] at H3 ⊢
  clear hW3
  have HP0 : Hid (Blk W3.drew w.heap.size 31 (vlc ⟨2, n, s, b⟩)) := Lib.hid H3.out.1
  have HQ0 : Hid (Blk W3.drew (w.heap.size + 1) 39 zRg) := Lib.hid H3.out.2.1
  have HZ0 : Hid (Blk W3.drew (w.heap.size + 1 + 1) 39 zRg) := Lib.hid H3.out.2.2.1
  have HB0 : Hid (Below w.heap.size w W3.drew) := Lib.hid H3.out.2.2.2.drew
  clear H3
  obtain ⟨G, hG⟩ : ∃ G, w.heap.size + 1 + 1 = G := ⟨_, rfl⟩
  rw [hG] at HZ0 ⊢
  have hG1 : w.heap.size + 1 < G := by omega
  have hia := idx_ra2 G
  have hwr : IntKind.i64.wrap 1 = 1 := by decide
  clear hG
  go_region_held3 (fun w9 => w9.cell? ⟨w.heap.size, 0, none⟩ = some (.int .i64 2) ∧ w9.cell? ⟨w.heap.size, 1, none⟩ = some (.int .i64 n) ∧ w9.cell? ⟨w.heap.size, 2, none⟩ = some (.string s) ∧ w9.cell? ⟨w.heap.size, 3, none⟩ = some (.bool b)) (first | (with_reducible exact cells4 (v := ⟨2, n, s, b⟩) HP2.out) | (with_reducible exact cells4 (v := ⟨2, n, s, b⟩) HP1.out) | (with_reducible exact keep4 (v := ⟨2, n, s, b⟩) HP2.out (by omega)) | exact cells4 (v := ⟨2, n, s, b⟩) HP0.out) (first | (go_at_call 61; (with_reducible refine (HC.out _).mono ?_); rintro e w1 ⟨rfl, b9⟩; have HP1 := Lib.hid (HP0.out.later b9); have HQ1 := Lib.hid (HQ0.out.later b9); have HZ1 := Lib.hid (HZ0.out.later b9); have HB1 := Lib.hid (then_ HB0.out b9); clear b9; skip) | (go_at_call 44; (with_reducible refine (HW.out _).mono ?_); rintro e w2 ⟨p9, c9, rfl, ho, b9⟩; have HO2 := Lib.hid ho; have HP2 := Lib.hid (HP1.out.later b9); have HQ2 := Lib.hid (HQ1.out.later b9); have HZ2 := Lib.hid (HZ1.out.later b9); have HB2 := Lib.hid (then_ HB1.out b9); clear b9 ho; have z0 := HZ2.out.cell 0 rfl; have z1 := HZ2.out.cell 1 rfl; have z2 := HZ2.out.cell 2 rfl; have z3 := HZ2.out.cell 3 rfl; have f0 := HZ2.out.free 0; have f1 := HZ2.out.free 1; have f2 := HZ2.out.free 2; have f3 := HZ2.out.free 3; have y0 := HQ2.out.cell 0 rfl; have y1 := HQ2.out.cell 1 rfl; have y2 := HQ2.out.cell 2 rfl; have y3 := HQ2.out.cell 3 rfl; have g0 := HQ2.out.free 0; have g1 := HQ2.out.free 1; have g2 := HQ2.out.free 2; have g3 := HQ2.out.free 3; skip))
  all_goals (try go_wp2_with fail)
  have S : Same (G) w2 (w2.setCell ⟨G, 1, none⟩ (.slice p9 L.length c9)) := (Same.refl _ _).set _ _
  have HQ3 := S.blk HQ2.out (by omega)
  have HO3 : OwnR (w2.setCell ⟨G, 1, none⟩ (.slice p9 L.length c9)) ⟨none, 0, p9, c9, none, 0⟩ ⟨[], L, [], false⟩ := ⟨OwnS.nil _ _, Same.own S HO2.out (HZ2.out.apart HO2.out (by decide)), OwnS.nil _ _⟩
  have HB3 := S.below HB2.out HB2.out.size (by omega)
  exact post_rg (m := ⟨none, 0, p9, c9, none, 0⟩) (r := ⟨[], L, [], false⟩) HQ3 (fun W hW => by have e0 := hW.cell 0 rfl; have e1 := hW.cell 1 rfl; have e2 := hW.cell 2 rfl; have e3 := hW.cell 3 rfl; clear HP0 HQ0 HZ0 HB0 HP1 HQ1 HZ1 HB1 HP2 HQ2 HZ2 HB2 HO2 HC HW S HQ3 HO3 HB3 z0 z1 z2 z3 f0 f1 f2 f3 y0 y1 y2 y3 g0 g1 g2 g3; simp [results, Try.results54, go_sem, e0, e1, e2, e3]) rfl ⟨⟨none, 0, p9, c9, none, 0⟩, rfl, OwnR.put4 HO3 HQ3, (same4 _ _ _ _).below HB3 HB3.size (by omega)⟩
set_option maxHeartbeats 8000000 in
set_option maxRecDepth 100000 in
theorem stretch3_any (op n : Int) (s : ByteArray) (b : Bool) (hr : Rv ⟨3, n, s, b⟩) (hs : s.size ≤ 1048576) (w : World) : Calls Try.prog 54 #[.int .i64 op, .agg #[.int .i64 3, .int .i64 n, .string s, .bool b]] w (RetR (stretchR op ⟨3, n, s, b⟩) w) := by
  have HC := Lib.hid (fun W => stretched_any op ⟨3, n, s, b⟩ (by simp) hr hs W)
  have HW := Lib.hid (fun W => with_nil (strS op ⟨3, n, s, b⟩) W)
  have HE : Hid (stretchR op ⟨3, n, s, b⟩ = atK 3 (withL [] (strS op ⟨3, n, s, b⟩))) := Lib.hid rfl
  rw [HE.out]
  clear HE hr hs
  generalize strS op ⟨3, n, s, b⟩ = t at HC HW ⊢
  generalize withL [] t = L at HW ⊢
  have HE2 : Hid (atK 3 L = ⟨[], [], L, false⟩) := Lib.hid rfl
  rw [HE2.out]
  clear HE2
  have H3 := Lib.hid (three3 w 31 39 39 (vlc ⟨3, n, s, b⟩) zRg zRg)
  go_enter Try.func54, Try.ntmps54
  go_wp2
  obtain ⟨W3, hW3⟩ : ∃ W3, W3 = ((w.alloc (.cells (vlc ⟨3, n, s, b⟩) 31)).alloc (.cells zRg 39)).alloc (.cells zRg 39) := ⟨_, rfl⟩
  rw [← hW3] at H3 ⊢
  clear hW3
  have HP0 : Hid (Blk W3.drew w.heap.size 31 (vlc ⟨3, n, s, b⟩)) := Lib.hid H3.out.1
  have HQ0 : Hid (Blk W3.drew (w.heap.size + 1) 39 zRg) := Lib.hid H3.out.2.1
  have HZ0 : Hid (Blk W3.drew (w.heap.size + 1 + 1) 39 zRg) := Lib.hid H3.out.2.2.1
  have HB0 : Hid (Below w.heap.size w W3.drew) := Lib.hid H3.out.2.2.2.drew
  clear H3
  obtain ⟨G, hG⟩ : ∃ G, w.heap.size + 1 + 1 = G := ⟨_, rfl⟩
  rw [hG] at HZ0 ⊢
  have hG1 : w.heap.size + 1 < G := by omega
  have hia := idx_ra3 G
  have hwr : IntKind.i64.wrap 2 = 2 := by decide
  clear hG
  go_region_held3 (fun w9 => w9.cell? ⟨w.heap.size, 0, none⟩ = some (.int .i64 3) ∧ w9.cell? ⟨w.heap.size, 1, none⟩ = some (.int .i64 n) ∧ w9.cell? ⟨w.heap.size, 2, none⟩ = some (.string s) ∧ w9.cell? ⟨w.heap.size, 3, none⟩ = some (.bool b)) (first | (with_reducible exact cells4 (v := ⟨3, n, s, b⟩) HP2.out) | (with_reducible exact cells4 (v := ⟨3, n, s, b⟩) HP1.out) | (with_reducible exact keep4 (v := ⟨3, n, s, b⟩) HP2.out (by omega)) | exact cells4 (v := ⟨3, n, s, b⟩) HP0.out) (first | (go_at_call 61; (with_reducible refine (HC.out _).mono ?_); rintro e w1 ⟨rfl, b9⟩; have HP1 := Lib.hid (HP0.out.later b9); have HQ1 := Lib.hid (HQ0.out.later b9); have HZ1 := Lib.hid (HZ0.out.later b9); have HB1 := Lib.hid (then_ HB0.out b9); clear b9; skip) | (go_at_call 44; (with_reducible refine (HW.out _).mono ?_); rintro e w2 ⟨p9, c9, rfl, ho, b9⟩; have HO2 := Lib.hid ho; have HP2 := Lib.hid (HP1.out.later b9); have HQ2 := Lib.hid (HQ1.out.later b9); have HZ2 := Lib.hid (HZ1.out.later b9); have HB2 := Lib.hid (then_ HB1.out b9); clear b9 ho; have z0 := HZ2.out.cell 0 rfl; have z1 := HZ2.out.cell 1 rfl; have z2 := HZ2.out.cell 2 rfl; have z3 := HZ2.out.cell 3 rfl; have f0 := HZ2.out.free 0; have f1 := HZ2.out.free 1; have f2 := HZ2.out.free 2; have f3 := HZ2.out.free 3; have y0 := HQ2.out.cell 0 rfl; have y1 := HQ2.out.cell 1 rfl; have y2 := HQ2.out.cell 2 rfl; have y3 := HQ2.out.cell 3 rfl; have g0 := HQ2.out.free 0; have g1 := HQ2.out.free 1; have g2 := HQ2.out.free 2; have g3 := HQ2.out.free 3; skip))
  all_goals (try go_wp2_with fail)
  have S : Same (G) w2 (w2.setCell ⟨G, 2, none⟩ (.slice p9 L.length c9)) := (Same.refl _ _).set _ _
  have HQ3 := S.blk HQ2.out (by omega)
  have HO3 : OwnR (w2.setCell ⟨G, 2, none⟩ (.slice p9 L.length c9)) ⟨none, 0, none, 0, p9, c9⟩ ⟨[], [], L, false⟩ := ⟨OwnS.nil _ _, OwnS.nil _ _, Same.own S HO2.out (HZ2.out.apart HO2.out (by decide))⟩
  have HB3 := S.below HB2.out HB2.out.size (by omega)
  exact post_rg (m := ⟨none, 0, none, 0, p9, c9⟩) (r := ⟨[], [], L, false⟩) HQ3 (fun W hW => by have e0 := hW.cell 0 rfl; have e1 := hW.cell 1 rfl; have e2 := hW.cell 2 rfl; have e3 := hW.cell 3 rfl; clear HP0 HQ0 HZ0 HB0 HP1 HQ1 HZ1 HB1 HP2 HQ2 HZ2 HB2 HO2 HC HW S HQ3 HO3 HB3 z0 z1 z2 z3 f0 f1 f2 f3 y0 y1 y2 y3 g0 g1 g2 g3; simp [results, Try.results54, go_sem, e0, e1, e2, e3]) rfl ⟨⟨none, 0, none, 0, p9, c9⟩, rfl, OwnR.put4 HO3 HQ3, (same4 _ _ _ _).below HB3 HB3.size (by omega)⟩
theorem stretch_any (op : Int) (v : Vl) (hk : v.k = 1 ∨ v.k = 2 ∨ v.k = 3) (hr : Rv v) (hs : v.s.size ≤ 1048576) (w : World) : Calls Try.prog 54 #[.int .i64 op, vv v] w fun e w' => ∃ q, e = .returned (rgv q (stretchR op v)) ∧ OwnR w' q (stretchR op v) ∧ Below w.heap.size w w' := by
  obtain ⟨k, n, s, b⟩ := v
  simp only at hk hs
  rcases hk with rfl | rfl | rfl
  · exact stretch1_any op n s b hr hs w
  · exact stretch2_any op n s b hr hs w
  · exact stretch3_any op n s b hr hs w
theorem all_r (w : World) : Calls Try.prog 41 #[] w fun e w' => ∃ q, e = .returned (rgv q allR) ∧ OwnR w' q allR ∧ Below w.heap.size w w' := all_any w
theorem or_r (m m' : Rm) (r s : Rg) (n n' : Nat) (w : World) (hR : RgIn w m r) (hS : RgIn w m' s) (hr : LeR r n) (hs : LeR s n') (hn : n + n' + 10 ≤ 1000000) : Calls Try.prog 55 #[rgv m r, rgv m' s] w fun e w' => ∃ q, e = .returned (rgv q (orR r s)) ∧ OwnR w' q (orR r s) ∧ Below w.heap.size w w' := or_any m m' r s n n' w hR hS hr hs hn
theorem may_size {v : Vl} (h : mayVl v = true) : v.s.size ≤ 32 := by
  have he : ∀ s : ByteArray, s.toList.isEmpty = true → s.size ≤ 32 := by
    intro s hs
    have : s.data.toList = [] := by rw [← toList_data]; simpa using hs
    have e : s.data.toList.length = s.size := by simp
    rw [this] at e; simp at e; omega
  unfold mayVl mayB at h
  split at h
  · simp only [Bool.and_eq_true] at h; exact he _ h.1
  split at h
  · simp only [Bool.and_eq_true, decide_eq_true_eq] at h; exact h.1
  split at h
  · simp only [Bool.and_eq_true] at h; exact he _ h.2
  · cases h
abbrev cnc (c : Cn) : Array Value := #[.string c.nm, .int .i64 c.op, .int .i64 c.v.k, .int .i64 c.v.n, .string c.v.s, .bool c.v.b, .slice c.sp c.set.length c.sc]
theorem cells7 {w : World} {a : Nat} {c : Cn} (hP : Blk w a 34 (cnc c)) : w.cell? ⟨a, 2, none⟩ = some (.int .i64 c.v.k) ∧ w.cell? ⟨a, 3, none⟩ = some (.int .i64 c.v.n) ∧ w.cell? ⟨a, 4, none⟩ = some (.string c.v.s) ∧ w.cell? ⟨a, 5, none⟩ = some (.bool c.v.b) :=
  ⟨hP.cell 2 rfl, hP.cell 3 rfl, hP.cell 4 rfl, hP.cell 5 rfl⟩
/-- A region's four cells, written one behind the other. -/
abbrev chain4 (w : World) (g : Nat) (m : Rm) (r : Rg) : World := (((w.setCell ⟨g, 0, none⟩ (.slice m.p0 r.a.length m.c0)).setCell ⟨g, 1, none⟩ (.slice m.p1 r.b.length m.c1)).setCell ⟨g, 2, none⟩ (.slice m.p2 r.c.length m.c2)).setCell ⟨g, 3, none⟩ (.bool r.o)
theorem keep7 {w : World} {a g : Nat} {c : Cn} (m : Rm) (r : Rg) (hP : Blk w a 34 (cnc c)) (h : a ≠ g) : (chain4 w g m r).cell? ⟨a, 2, none⟩ = some (.int .i64 c.v.k) ∧ (chain4 w g m r).cell? ⟨a, 3, none⟩ = some (.int .i64 c.v.n) ∧ (chain4 w g m r).cell? ⟨a, 4, none⟩ = some (.string c.v.s) ∧ (chain4 w g m r).cell? ⟨a, 5, none⟩ = some (.bool c.v.b) :=
  cells7 ((same4 w g m r).blk hP h)
end Go.Proofs.Ytggcboejdihdiaa.Gm
