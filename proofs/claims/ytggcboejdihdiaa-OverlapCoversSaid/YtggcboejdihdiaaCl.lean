/- The contract of package cover's stretched. -/
import Derived.Test.YtggcboejdihdiaaCk
set_option linter.unusedSimpArgs false
set_option linter.unusedVariables false
namespace Go.Proofs.Ytggcboejdihdiaa.Gm
open Go Go.RowKit
attribute [local go_sem ↓] Go.wp_at_zero Go.wp_at_succ

theorem run_store_f' (P : Program) (w : World) (a : Addr) (m : Mode) (fn : Fn) (x y : Array Value) : (store a (.func fn x y) m).run P w = stored P w a (.func fn x y) m := run_store P w a _ m rfl
attribute [local go_sem] run_store_f'
/-- The function that takes a value to the cut behind it. -/
theorem beh_fn (v : Vl) (hk : v.k = 1 ∨ v.k = 2 ∨ v.k = 3) (hr : Rv v) (hs : v.s.size ≤ 1048576) : ∃ F : FuncId, behF v.k = .func (.func F) #[] #[] ∧ (∀ args w, (callFunc F args).run Try.prog w = .ok (.enter F args) w) ∧ ∀ W, Calls Try.prog F #[vv v] W (Gives (ctv (behC v)) W) := by
  rcases hk with h | h | h
  · exact ⟨79, by rw [h]; rfl, enters_of Try.func79 (by kernel_rfl) rfl, fun W => cuts1 v h hr W⟩
  · exact ⟨80, by rw [h]; rfl, enters_of Try.func80 (by kernel_rfl) rfl, fun W => cuts2 v h hs W⟩
  · exact ⟨81, by rw [h]; rfl, enters_of Try.func81 (by kernel_rfl) rfl, fun W => cuts3 v h W⟩
abbrev spz : Array Value := spc ⟨⟨⟨0, 0, ⟨#[]⟩, false⟩, false⟩, ⟨⟨0, 0, ⟨#[]⟩, false⟩, false⟩⟩
/-- A span's ten cells are written. -/
def put10 (w : World) (g : Nat) (s : Sp) : World := put5 (put5 w g 0 s.f) g 5 s.t
theorem same10 (w : World) (g : Nat) (s : Sp) : Same g w (put10 w g s) := ((((((((((Same.refl g w).set _ _).set _ _).set _ _).set _ _).set _ _).set _ _).set _ _).set _ _).set _ _).set _ _
theorem blk10 {w : World} {g : Nat} {t : TypeId} (h : Blk w g t spz) (s : Sp) : Blk (put10 w g s) g t (spc s) := blk5t (blk5f h s.f) s.t
theorem post_sp {P : Program} {fn : Func} {a : Act} {w1 : World} {g : Nat} {t : TypeId} {s : Sp} {R : Ending → World → Prop} (hK : Blk w1 g t spz) (hr : ∀ W, Blk W g t (spc s) → (results fn a.tmps).run P W = .ok (spv s) W) (hd : a.defers = []) (hR : R (.returned (spv s)) (put10 w1 g s)) : bodyPost P fn R .ret a (put10 w1 g s) :=
  bodyPost_ret (hr _ (blk10 hK s)) hd hR
theorem Same.cell {g b i : Nat} {w w' : World} {u : Value} (h : Same g w w') (hb : b ≠ g) (k : w.cell? ⟨b, i, none⟩ = some u) : w'.cell? ⟨b, i, none⟩ = some u := by
  rw [← k]
  simp only [World.cell?, h.block b hb]
/-- A span's ten cells, written one behind the other. -/
abbrev chain10 (w : World) (g : Nat) (s : Sp) : World := ((((((((((w.setCell ⟨g, 0, none⟩ (.int .i64 s.f.v.k)).setCell ⟨g, 1, none⟩ (.int .i64 s.f.v.n)).setCell ⟨g, 2, none⟩ (.string s.f.v.s)).setCell ⟨g, 3, none⟩ (.bool s.f.v.b)).setCell ⟨g, 4, none⟩ (.bool s.f.e)).setCell ⟨g, 5, none⟩ (.int .i64 s.t.v.k)).setCell ⟨g, 6, none⟩ (.int .i64 s.t.v.n)).setCell ⟨g, 7, none⟩ (.string s.t.v.s)).setCell ⟨g, 8, none⟩ (.bool s.t.v.b)).setCell ⟨g, 9, none⟩ (.bool s.t.e))
theorem cells10 {w : World} {a b : Nat} {v : Vl} {f0 : Ct} {F : FuncId} (hP : Blk w a 31 (vlc v)) (hU : Blk w b 98 #[.int .i64 f0.v.k, .int .i64 f0.v.n, .string f0.v.s, .bool f0.v.b, .bool f0.e, .func (.func F) #[] #[]]) : (w).cell? ⟨a, 0, none⟩ = some (.int .i64 v.k) ∧ (w).cell? ⟨a, 1, none⟩ = some (.int .i64 v.n) ∧ (w).cell? ⟨a, 2, none⟩ = some (.string v.s) ∧ (w).cell? ⟨a, 3, none⟩ = some (.bool v.b) ∧ (w).cell? ⟨b, 0, none⟩ = some (.int .i64 f0.v.k) ∧ (w).cell? ⟨b, 1, none⟩ = some (.int .i64 f0.v.n) ∧ (w).cell? ⟨b, 2, none⟩ = some (.string f0.v.s) ∧ (w).cell? ⟨b, 3, none⟩ = some (.bool f0.v.b) ∧ (w).cell? ⟨b, 4, none⟩ = some (.bool f0.e) ∧ (w).cell? ⟨b, 5, none⟩ = some (.func (.func F) #[] #[]) :=
  ⟨hP.cell 0 rfl, hP.cell 1 rfl, hP.cell 2 rfl, hP.cell 3 rfl, hU.cell 0 rfl, hU.cell 1 rfl, hU.cell 2 rfl, hU.cell 3 rfl, hU.cell 4 rfl, hU.cell 5 rfl⟩
theorem keep10 {w : World} {g a b : Nat} {v : Vl} {f0 : Ct} {F : FuncId} (s : Sp) (hP : Blk w a 31 (vlc v)) (hU : Blk w b 98 #[.int .i64 f0.v.k, .int .i64 f0.v.n, .string f0.v.s, .bool f0.v.b, .bool f0.e, .func (.func F) #[] #[]]) (ha : a ≠ g) (hb : b ≠ g) : (chain10 w g s).cell? ⟨a, 0, none⟩ = some (.int .i64 v.k) ∧ (chain10 w g s).cell? ⟨a, 1, none⟩ = some (.int .i64 v.n) ∧ (chain10 w g s).cell? ⟨a, 2, none⟩ = some (.string v.s) ∧ (chain10 w g s).cell? ⟨a, 3, none⟩ = some (.bool v.b) ∧ (chain10 w g s).cell? ⟨b, 0, none⟩ = some (.int .i64 f0.v.k) ∧ (chain10 w g s).cell? ⟨b, 1, none⟩ = some (.int .i64 f0.v.n) ∧ (chain10 w g s).cell? ⟨b, 2, none⟩ = some (.string f0.v.s) ∧ (chain10 w g s).cell? ⟨b, 3, none⟩ = some (.bool f0.v.b) ∧ (chain10 w g s).cell? ⟨b, 4, none⟩ = some (.bool f0.e) ∧ (chain10 w g s).cell? ⟨b, 5, none⟩ = some (.func (.func F) #[] #[]) :=
  have S : Same g w (chain10 w g s) := same10 w g s
  ⟨S.cell ha (hP.cell 0 rfl), S.cell ha (hP.cell 1 rfl), S.cell ha (hP.cell 2 rfl), S.cell ha (hP.cell 3 rfl), S.cell hb (hU.cell 0 rfl), S.cell hb (hU.cell 1 rfl), S.cell hb (hU.cell 2 rfl), S.cell hb (hU.cell 3 rfl), S.cell hb (hU.cell 4 rfl), S.cell hb (hU.cell 5 rfl)⟩
set_option maxHeartbeats 8000000 in
set_option maxRecDepth 100000 in
theorem stretched4_any (v : Vl) (hk : v.k = 1 ∨ v.k = 2 ∨ v.k = 3) (hr : Rv v) (hs : v.s.size ≤ 1048576) (w : World) : Calls Try.prog 61 #[.int .i64 4, vv v] w (Gives (spv ⟨firstC v.k, ahd v⟩) w) := by
  obtain ⟨F, hF, hg, hc⟩ := beh_fn v hk hr hs
  have HC := Lib.hid hc
  have HA := Lib.hid (fun W => ahead_any v W)
  have HG := Lib.hid (fun W => behind_any v.s hs W)
  have HCu := Lib.hid (fun W => cuts_any v.k hk W)
  have hcu : cuv v.k = cux (firstC v.k) (.func (.func F) #[] #[]) := by rw [← hF]
  rw [hcu] at HCu
  clear hcu hF hc hk hr hs
  obtain ⟨f0, hf0⟩ : ∃ f0, firstC v.k = f0 := ⟨_, rfl⟩
  obtain ⟨b0, hb0⟩ : ∃ b0, behC v = b0 := ⟨_, rfl⟩
  obtain ⟨a0, ha0⟩ : ∃ a0, ahd v = a0 := ⟨_, rfl⟩
  obtain ⟨g0, hg0⟩ : ∃ g0, begC v.s = g0 := ⟨_, rfl⟩
  obtain ⟨e0, he0⟩ : ∃ e0, fin = e0 := ⟨_, rfl⟩
  have HE := Lib.hid (fun W => end_any W)
  try rw [hf0] at HCu ⊢
  try rw [hf0] at HCu
  try rw [hb0] at HC ⊢
  try rw [hb0] at HC
  try rw [ha0] at HA ⊢
  try rw [ha0] at HA
  try rw [hg0] at HG ⊢
  try rw [hg0] at HG
  try rw [he0] at HE ⊢
  try rw [he0] at HE
  clear hf0 hb0 ha0 hg0 he0
  have hfld := fld_c f0 (.func (.func F) #[] #[])
  have H2 := two w 31 79 (vlc v) spz
  obtain ⟨hP, hQ, hB⟩ := H2
  have HP := Lib.hid hP
  have HQ := Lib.hid hQ
  have HB := Lib.hid hB
  clear hP hQ hB
  go_enter Try.func61, Try.ntmps61
  go_wp2_with fail
  refine (HCu.out _).mono ?_; rintro e w1 ⟨rfl, b1⟩
  have HP1 := Lib.hid (HP.out.later b1)
  have HQ1 := Lib.hid (HQ.out.later b1)
  have HB1 := Lib.hid (then_ HB.out b1)
  clear b1
  obtain ⟨W1, hW1⟩ : ∃ W1, W1 = w1.alloc (.cells #[.int .i64 f0.v.k, .int .i64 f0.v.n, .string f0.v.s, .bool f0.v.b, .bool f0.e, .func (.func F) #[] #[]] 98) := ⟨_, rfl⟩
  have HW1 := Lib.hid hW1
  have HP2 : Hid (Blk W1 w.heap.size 31 (vlc v)) := Lib.hid (by rw [hW1]; exact HP1.out.alloc _)
  have HQ2 : Hid (Blk W1 (w.heap.size + 1) 79 spz) := Lib.hid (by rw [hW1]; exact HQ1.out.alloc _)
  have HU2 : Hid (Blk W1 w1.heap.size 98 #[.int .i64 f0.v.k, .int .i64 f0.v.n, .string f0.v.s, .bool f0.v.b, .bool f0.e, .func (.func F) #[] #[]]) := Lib.hid (by rw [hW1]; exact Blk.new _ _ _)
  have HB2 : Hid (Below w.heap.size w W1) := Lib.hid (by rw [hW1]; exact HB1.out.alloc HB1.out.size _)
  clear hW1
  go_wp2_with fail
  rw [← HW1.out]
  have HP2d : Hid (Blk W1.drew w.heap.size 31 (vlc v)) := Lib.hid HP2.out
  have HU2d : Hid (Blk W1.drew w1.heap.size 98 #[.int .i64 f0.v.k, .int .i64 f0.v.n, .string f0.v.s, .bool f0.v.b, .bool f0.e, .func (.func F) #[] #[]]) := Lib.hid HU2.out
  have p0 := HP2d.out.cell 0 rfl
  have p1 := HP2d.out.cell 1 rfl
  have p2 := HP2d.out.cell 2 rfl
  have p3 := HP2d.out.cell 3 rfl
  have u0 := HU2d.out.cell 0 rfl
  have u1 := HU2d.out.cell 1 rfl
  have u2 := HU2d.out.cell 2 rfl
  have u3 := HU2d.out.cell 3 rfl
  have u4 := HU2d.out.cell 4 rfl
  have u5 := HU2d.out.cell 5 rfl
  have hz := HQ2.out.lt
  have hzu := HQ1.out.lt
  go_region_held3 (fun w9 => w9.cell? ⟨w.heap.size, 0, none⟩ = some (.int .i64 v.k) ∧ w9.cell? ⟨w.heap.size, 1, none⟩ = some (.int .i64 v.n) ∧ w9.cell? ⟨w.heap.size, 2, none⟩ = some (.string v.s) ∧ w9.cell? ⟨w.heap.size, 3, none⟩ = some (.bool v.b) ∧ w9.cell? ⟨w1.heap.size, 0, none⟩ = some (.int .i64 f0.v.k) ∧ w9.cell? ⟨w1.heap.size, 1, none⟩ = some (.int .i64 f0.v.n) ∧ w9.cell? ⟨w1.heap.size, 2, none⟩ = some (.string f0.v.s) ∧ w9.cell? ⟨w1.heap.size, 3, none⟩ = some (.bool f0.v.b) ∧ w9.cell? ⟨w1.heap.size, 4, none⟩ = some (.bool f0.e) ∧ w9.cell? ⟨w1.heap.size, 5, none⟩ = some (.func (.func F) #[] #[])) (first | (with_reducible exact cells10 HP3.out HU3.out) | (with_reducible exact keep10 ⟨f0, a0⟩ HP3.out HU3.out (by omega) (by omega)) | exact cells10 HP2d.out HU2d.out) (first | (go_at_call 78; (with_reducible refine (HA.out _).mono ?_); rintro e w3 ⟨rfl, b9⟩; have HP3 := Lib.hid (HP2.out.later (show Below W1.heap.size W1 w3 from ⟨b9.os, b9.tape, b9.output, b9.size, b9.block⟩)); have HQ3 := Lib.hid (HQ2.out.later (show Below W1.heap.size W1 w3 from ⟨b9.os, b9.tape, b9.output, b9.size, b9.block⟩)); have HU3 := Lib.hid (HU2.out.later (show Below W1.heap.size W1 w3 from ⟨b9.os, b9.tape, b9.output, b9.size, b9.block⟩)); have HB3 := Lib.hid (then_ HB2.out (show Below W1.heap.size W1 w3 from ⟨b9.os, b9.tape, b9.output, b9.size, b9.block⟩)); clear b9; have p30 := HP3.out.cell 0 rfl; have p31 := HP3.out.cell 1 rfl; have p32 := HP3.out.cell 2 rfl; have p33 := HP3.out.cell 3 rfl; have u30 := HU3.out.cell 0 rfl; have u31 := HU3.out.cell 1 rfl; have u32 := HU3.out.cell 2 rfl; have u33 := HU3.out.cell 3 rfl; have u34 := HU3.out.cell 4 rfl; have u35 := HU3.out.cell 5 rfl; have q30 := HQ3.out.cell 0 rfl; have q31 := HQ3.out.cell 1 rfl; have q32 := HQ3.out.cell 2 rfl; have q33 := HQ3.out.cell 3 rfl; have q34 := HQ3.out.cell 4 rfl; have q35 := HQ3.out.cell 5 rfl; have q36 := HQ3.out.cell 6 rfl; have q37 := HQ3.out.cell 7 rfl; have q38 := HQ3.out.cell 8 rfl; have q39 := HQ3.out.cell 9 rfl; have z0 := HQ3.out.free 0; have z1 := HQ3.out.free 1; have z2 := HQ3.out.free 2; have z3 := HQ3.out.free 3; have z4 := HQ3.out.free 4; have z5 := HQ3.out.free 5; have z6 := HQ3.out.free 6; have z7 := HQ3.out.free 7; have z8 := HQ3.out.free 8; have z9 := HQ3.out.free 9; skip))
  all_goals (try go_wp2_with fail)
  all_goals
    exact post_sp (s := ⟨f0, a0⟩) HQ3.out (fun W hW => by have c0 := hW.cell 0 rfl; have c1 := hW.cell 1 rfl; have c2 := hW.cell 2 rfl; have c3 := hW.cell 3 rfl; have c4 := hW.cell 4 rfl; have c5 := hW.cell 5 rfl; have c6 := hW.cell 6 rfl; have c7 := hW.cell 7 rfl; have c8 := hW.cell 8 rfl; have c9 := hW.cell 9 rfl; clear HP2 HQ2 HU2 HB2 HP3 HQ3 HU3 HB3 HP HQ HB HP1 HQ1 HB1 HW1 HC HA HG HE HCu q30 q31 q32 q33 q34 q35 q36 q37 q38 q39 z0 z1 z2 z3 z4 z5 z6 z7 z8 z9; simp [results, Try.results61, go_sem, c0, c1, c2, c3, c4, c5, c6, c7, c8, c9]) rfl ⟨rfl, (same10 _ _ _).below HB3.out HB3.out.size (by omega)⟩
set_option maxHeartbeats 8000000 in
set_option maxRecDepth 100000 in
theorem stretched5_any (v : Vl) (hk : v.k = 1 ∨ v.k = 2 ∨ v.k = 3) (hr : Rv v) (hs : v.s.size ≤ 1048576) (w : World) : Calls Try.prog 61 #[.int .i64 5, vv v] w (Gives (spv ⟨firstC v.k, behC v⟩) w) := by
  obtain ⟨F, hF, hg, hc⟩ := beh_fn v hk hr hs
  have HC := Lib.hid hc
  have HA := Lib.hid (fun W => ahead_any v W)
  have HG := Lib.hid (fun W => behind_any v.s hs W)
  have HCu := Lib.hid (fun W => cuts_any v.k hk W)
  have hcu : cuv v.k = cux (firstC v.k) (.func (.func F) #[] #[]) := by rw [← hF]
  rw [hcu] at HCu
  clear hcu hF hc hk hr hs
  obtain ⟨f0, hf0⟩ : ∃ f0, firstC v.k = f0 := ⟨_, rfl⟩
  obtain ⟨b0, hb0⟩ : ∃ b0, behC v = b0 := ⟨_, rfl⟩
  obtain ⟨a0, ha0⟩ : ∃ a0, ahd v = a0 := ⟨_, rfl⟩
  obtain ⟨g0, hg0⟩ : ∃ g0, begC v.s = g0 := ⟨_, rfl⟩
  obtain ⟨e0, he0⟩ : ∃ e0, fin = e0 := ⟨_, rfl⟩
  have HE := Lib.hid (fun W => end_any W)
  try rw [hf0] at HCu ⊢
  try rw [hf0] at HCu
  try rw [hb0] at HC ⊢
  try rw [hb0] at HC
  try rw [ha0] at HA ⊢
  try rw [ha0] at HA
  try rw [hg0] at HG ⊢
  try rw [hg0] at HG
  try rw [he0] at HE ⊢
  try rw [he0] at HE
  clear hf0 hb0 ha0 hg0 he0
  have hfld := fld_c f0 (.func (.func F) #[] #[])
  have H2 := two w 31 79 (vlc v) spz
  obtain ⟨hP, hQ, hB⟩ := H2
  have HP := Lib.hid hP
  have HQ := Lib.hid hQ
  have HB := Lib.hid hB
  clear hP hQ hB
  go_enter Try.func61, Try.ntmps61
  go_wp2_with fail
  refine (HCu.out _).mono ?_; rintro e w1 ⟨rfl, b1⟩
  have HP1 := Lib.hid (HP.out.later b1)
  have HQ1 := Lib.hid (HQ.out.later b1)
  have HB1 := Lib.hid (then_ HB.out b1)
  clear b1
  obtain ⟨W1, hW1⟩ : ∃ W1, W1 = w1.alloc (.cells #[.int .i64 f0.v.k, .int .i64 f0.v.n, .string f0.v.s, .bool f0.v.b, .bool f0.e, .func (.func F) #[] #[]] 98) := ⟨_, rfl⟩
  have HW1 := Lib.hid hW1
  have HP2 : Hid (Blk W1 w.heap.size 31 (vlc v)) := Lib.hid (by rw [hW1]; exact HP1.out.alloc _)
  have HQ2 : Hid (Blk W1 (w.heap.size + 1) 79 spz) := Lib.hid (by rw [hW1]; exact HQ1.out.alloc _)
  have HU2 : Hid (Blk W1 w1.heap.size 98 #[.int .i64 f0.v.k, .int .i64 f0.v.n, .string f0.v.s, .bool f0.v.b, .bool f0.e, .func (.func F) #[] #[]]) := Lib.hid (by rw [hW1]; exact Blk.new _ _ _)
  have HB2 : Hid (Below w.heap.size w W1) := Lib.hid (by rw [hW1]; exact HB1.out.alloc HB1.out.size _)
  clear hW1
  go_wp2_with fail
  rw [← HW1.out]
  have HP2d : Hid (Blk W1.drew w.heap.size 31 (vlc v)) := Lib.hid HP2.out
  have HU2d : Hid (Blk W1.drew w1.heap.size 98 #[.int .i64 f0.v.k, .int .i64 f0.v.n, .string f0.v.s, .bool f0.v.b, .bool f0.e, .func (.func F) #[] #[]]) := Lib.hid HU2.out
  have p0 := HP2d.out.cell 0 rfl
  have p1 := HP2d.out.cell 1 rfl
  have p2 := HP2d.out.cell 2 rfl
  have p3 := HP2d.out.cell 3 rfl
  have u0 := HU2d.out.cell 0 rfl
  have u1 := HU2d.out.cell 1 rfl
  have u2 := HU2d.out.cell 2 rfl
  have u3 := HU2d.out.cell 3 rfl
  have u4 := HU2d.out.cell 4 rfl
  have u5 := HU2d.out.cell 5 rfl
  have hz := HQ2.out.lt
  have hzu := HQ1.out.lt
  go_region_held3 (fun w9 => w9.cell? ⟨w.heap.size, 0, none⟩ = some (.int .i64 v.k) ∧ w9.cell? ⟨w.heap.size, 1, none⟩ = some (.int .i64 v.n) ∧ w9.cell? ⟨w.heap.size, 2, none⟩ = some (.string v.s) ∧ w9.cell? ⟨w.heap.size, 3, none⟩ = some (.bool v.b) ∧ w9.cell? ⟨w1.heap.size, 0, none⟩ = some (.int .i64 f0.v.k) ∧ w9.cell? ⟨w1.heap.size, 1, none⟩ = some (.int .i64 f0.v.n) ∧ w9.cell? ⟨w1.heap.size, 2, none⟩ = some (.string f0.v.s) ∧ w9.cell? ⟨w1.heap.size, 3, none⟩ = some (.bool f0.v.b) ∧ w9.cell? ⟨w1.heap.size, 4, none⟩ = some (.bool f0.e) ∧ w9.cell? ⟨w1.heap.size, 5, none⟩ = some (.func (.func F) #[] #[])) (first | (with_reducible exact cells10 HP3.out HU3.out) | (with_reducible exact keep10 ⟨f0, b0⟩ HP3.out HU3.out (by omega) (by omega)) | exact cells10 HP2d.out HU2d.out) (first | ((with_reducible refine (HC.out _).mono ?_); rintro e w3 ⟨rfl, b9⟩; have HP3 := Lib.hid (HP2.out.later (show Below W1.heap.size W1 w3 from ⟨b9.os, b9.tape, b9.output, b9.size, b9.block⟩)); have HQ3 := Lib.hid (HQ2.out.later (show Below W1.heap.size W1 w3 from ⟨b9.os, b9.tape, b9.output, b9.size, b9.block⟩)); have HU3 := Lib.hid (HU2.out.later (show Below W1.heap.size W1 w3 from ⟨b9.os, b9.tape, b9.output, b9.size, b9.block⟩)); have HB3 := Lib.hid (then_ HB2.out (show Below W1.heap.size W1 w3 from ⟨b9.os, b9.tape, b9.output, b9.size, b9.block⟩)); clear b9; have p30 := HP3.out.cell 0 rfl; have p31 := HP3.out.cell 1 rfl; have p32 := HP3.out.cell 2 rfl; have p33 := HP3.out.cell 3 rfl; have u30 := HU3.out.cell 0 rfl; have u31 := HU3.out.cell 1 rfl; have u32 := HU3.out.cell 2 rfl; have u33 := HU3.out.cell 3 rfl; have u34 := HU3.out.cell 4 rfl; have u35 := HU3.out.cell 5 rfl; have q30 := HQ3.out.cell 0 rfl; have q31 := HQ3.out.cell 1 rfl; have q32 := HQ3.out.cell 2 rfl; have q33 := HQ3.out.cell 3 rfl; have q34 := HQ3.out.cell 4 rfl; have q35 := HQ3.out.cell 5 rfl; have q36 := HQ3.out.cell 6 rfl; have q37 := HQ3.out.cell 7 rfl; have q38 := HQ3.out.cell 8 rfl; have q39 := HQ3.out.cell 9 rfl; have z0 := HQ3.out.free 0; have z1 := HQ3.out.free 1; have z2 := HQ3.out.free 2; have z3 := HQ3.out.free 3; have z4 := HQ3.out.free 4; have z5 := HQ3.out.free 5; have z6 := HQ3.out.free 6; have z7 := HQ3.out.free 7; have z8 := HQ3.out.free 8; have z9 := HQ3.out.free 9; skip))
  all_goals (try go_wp2_with fail)
  all_goals
    exact post_sp (s := ⟨f0, b0⟩) HQ3.out (fun W hW => by have c0 := hW.cell 0 rfl; have c1 := hW.cell 1 rfl; have c2 := hW.cell 2 rfl; have c3 := hW.cell 3 rfl; have c4 := hW.cell 4 rfl; have c5 := hW.cell 5 rfl; have c6 := hW.cell 6 rfl; have c7 := hW.cell 7 rfl; have c8 := hW.cell 8 rfl; have c9 := hW.cell 9 rfl; clear HP2 HQ2 HU2 HB2 HP3 HQ3 HU3 HB3 HP HQ HB HP1 HQ1 HB1 HW1 HC HA HG HE HCu q30 q31 q32 q33 q34 q35 q36 q37 q38 q39 z0 z1 z2 z3 z4 z5 z6 z7 z8 z9; simp [results, Try.results61, go_sem, c0, c1, c2, c3, c4, c5, c6, c7, c8, c9]) rfl ⟨rfl, (same10 _ _ _).below HB3.out HB3.out.size (by omega)⟩
set_option maxHeartbeats 8000000 in
set_option maxRecDepth 100000 in
theorem stretched6_any (v : Vl) (hk : v.k = 1 ∨ v.k = 2 ∨ v.k = 3) (hr : Rv v) (hs : v.s.size ≤ 1048576) (w : World) : Calls Try.prog 61 #[.int .i64 6, vv v] w (Gives (spv ⟨behC v, fin⟩) w) := by
  obtain ⟨F, hF, hg, hc⟩ := beh_fn v hk hr hs
  have HC := Lib.hid hc
  have HA := Lib.hid (fun W => ahead_any v W)
  have HG := Lib.hid (fun W => behind_any v.s hs W)
  have HCu := Lib.hid (fun W => cuts_any v.k hk W)
  have hcu : cuv v.k = cux (firstC v.k) (.func (.func F) #[] #[]) := by rw [← hF]
  rw [hcu] at HCu
  clear hcu hF hc hk hr hs
  obtain ⟨f0, hf0⟩ : ∃ f0, firstC v.k = f0 := ⟨_, rfl⟩
  obtain ⟨b0, hb0⟩ : ∃ b0, behC v = b0 := ⟨_, rfl⟩
  obtain ⟨a0, ha0⟩ : ∃ a0, ahd v = a0 := ⟨_, rfl⟩
  obtain ⟨g0, hg0⟩ : ∃ g0, begC v.s = g0 := ⟨_, rfl⟩
  obtain ⟨e0, he0⟩ : ∃ e0, fin = e0 := ⟨_, rfl⟩
  have HE := Lib.hid (fun W => end_any W)
  try rw [hf0] at HCu ⊢
  try rw [hf0] at HCu
  try rw [hb0] at HC ⊢
  try rw [hb0] at HC
  try rw [ha0] at HA ⊢
  try rw [ha0] at HA
  try rw [hg0] at HG ⊢
  try rw [hg0] at HG
  try rw [he0] at HE ⊢
  try rw [he0] at HE
  clear hf0 hb0 ha0 hg0 he0
  have hfld := fld_c f0 (.func (.func F) #[] #[])
  have H2 := two w 31 79 (vlc v) spz
  obtain ⟨hP, hQ, hB⟩ := H2
  have HP := Lib.hid hP
  have HQ := Lib.hid hQ
  have HB := Lib.hid hB
  clear hP hQ hB
  go_enter Try.func61, Try.ntmps61
  go_wp2_with fail
  refine (HCu.out _).mono ?_; rintro e w1 ⟨rfl, b1⟩
  have HP1 := Lib.hid (HP.out.later b1)
  have HQ1 := Lib.hid (HQ.out.later b1)
  have HB1 := Lib.hid (then_ HB.out b1)
  clear b1
  obtain ⟨W1, hW1⟩ : ∃ W1, W1 = w1.alloc (.cells #[.int .i64 f0.v.k, .int .i64 f0.v.n, .string f0.v.s, .bool f0.v.b, .bool f0.e, .func (.func F) #[] #[]] 98) := ⟨_, rfl⟩
  have HW1 := Lib.hid hW1
  have HP2 : Hid (Blk W1 w.heap.size 31 (vlc v)) := Lib.hid (by rw [hW1]; exact HP1.out.alloc _)
  have HQ2 : Hid (Blk W1 (w.heap.size + 1) 79 spz) := Lib.hid (by rw [hW1]; exact HQ1.out.alloc _)
  have HU2 : Hid (Blk W1 w1.heap.size 98 #[.int .i64 f0.v.k, .int .i64 f0.v.n, .string f0.v.s, .bool f0.v.b, .bool f0.e, .func (.func F) #[] #[]]) := Lib.hid (by rw [hW1]; exact Blk.new _ _ _)
  have HB2 : Hid (Below w.heap.size w W1) := Lib.hid (by rw [hW1]; exact HB1.out.alloc HB1.out.size _)
  clear hW1
  have p0 := HP2.out.cell 0 rfl
  have p1 := HP2.out.cell 1 rfl
  have p2 := HP2.out.cell 2 rfl
  have p3 := HP2.out.cell 3 rfl
  have u0 := HU2.out.cell 0 rfl
  have u1 := HU2.out.cell 1 rfl
  have u2 := HU2.out.cell 2 rfl
  have u3 := HU2.out.cell 3 rfl
  have u4 := HU2.out.cell 4 rfl
  have u5 := HU2.out.cell 5 rfl
  rw [HW1.out] at p0 p1 p2 p3 u0 u1 u2 u3 u4 u5
  go_wp2_with fail
  rw [← HW1.out]
  refine (HC.out _).mono ?_; rintro e w3 ⟨rfl, b9⟩
  have HP3 := Lib.hid (HP2.out.later b9)
  have HQ3 := Lib.hid (HQ2.out.later b9)
  have HU3 := Lib.hid (HU2.out.later b9)
  have HB3 := Lib.hid (then_ HB2.out b9)
  clear b9
  have p30 := HP3.out.cell 0 rfl
  have p31 := HP3.out.cell 1 rfl
  have p32 := HP3.out.cell 2 rfl
  have p33 := HP3.out.cell 3 rfl
  have u30 := HU3.out.cell 0 rfl
  have u31 := HU3.out.cell 1 rfl
  have u32 := HU3.out.cell 2 rfl
  have u33 := HU3.out.cell 3 rfl
  have u34 := HU3.out.cell 4 rfl
  have u35 := HU3.out.cell 5 rfl
  go_wp2_with fail
  refine (HE.out _).mono ?_; rintro e w4 ⟨rfl, b9⟩
  have HP4 := Lib.hid (HP3.out.later b9)
  have HQ4 := Lib.hid (HQ3.out.later b9)
  have HU4 := Lib.hid (HU3.out.later b9)
  have HB4 := Lib.hid (then_ HB3.out b9)
  clear b9
  have q40 := HQ4.out.cell 0 rfl
  have q41 := HQ4.out.cell 1 rfl
  have q42 := HQ4.out.cell 2 rfl
  have q43 := HQ4.out.cell 3 rfl
  have q44 := HQ4.out.cell 4 rfl
  have q45 := HQ4.out.cell 5 rfl
  have q46 := HQ4.out.cell 6 rfl
  have q47 := HQ4.out.cell 7 rfl
  have q48 := HQ4.out.cell 8 rfl
  have q49 := HQ4.out.cell 9 rfl
  have z0 := HQ4.out.free 0
  have z1 := HQ4.out.free 1
  have z2 := HQ4.out.free 2
  have z3 := HQ4.out.free 3
  have z4 := HQ4.out.free 4
  have z5 := HQ4.out.free 5
  have z6 := HQ4.out.free 6
  have z7 := HQ4.out.free 7
  have z8 := HQ4.out.free 8
  have z9 := HQ4.out.free 9
  go_wp2_with fail
  all_goals
    exact post_sp (s := ⟨b0, e0⟩) HQ4.out (fun W hW => by have c0 := hW.cell 0 rfl; have c1 := hW.cell 1 rfl; have c2 := hW.cell 2 rfl; have c3 := hW.cell 3 rfl; have c4 := hW.cell 4 rfl; have c5 := hW.cell 5 rfl; have c6 := hW.cell 6 rfl; have c7 := hW.cell 7 rfl; have c8 := hW.cell 8 rfl; have c9 := hW.cell 9 rfl; clear HP2 HQ2 HU2 HB2 HP3 HQ3 HU3 HB3 HP4 HQ4 HU4 HB4 HP HQ HB HP1 HQ1 HB1 HW1 HC HA HG HE HCu q40 q41 q42 q43 q44 q45 q46 q47 q48 q49 z0 z1 z2 z3 z4 z5 z6 z7 z8 z9; simp [results, Try.results61, go_sem, c0, c1, c2, c3, c4, c5, c6, c7, c8, c9]) rfl ⟨rfl, (same10 _ _ _).below HB4.out HB4.out.size (by omega)⟩
set_option maxHeartbeats 8000000 in
set_option maxRecDepth 100000 in
theorem stretched7_any (v : Vl) (hk : v.k = 1 ∨ v.k = 2 ∨ v.k = 3) (hr : Rv v) (hs : v.s.size ≤ 1048576) (w : World) : Calls Try.prog 61 #[.int .i64 7, vv v] w (Gives (spv ⟨ahd v, fin⟩) w) := by
  obtain ⟨F, hF, hg, hc⟩ := beh_fn v hk hr hs
  have HC := Lib.hid hc
  have HA := Lib.hid (fun W => ahead_any v W)
  have HG := Lib.hid (fun W => behind_any v.s hs W)
  have HCu := Lib.hid (fun W => cuts_any v.k hk W)
  have hcu : cuv v.k = cux (firstC v.k) (.func (.func F) #[] #[]) := by rw [← hF]
  rw [hcu] at HCu
  clear hcu hF hc hk hr hs
  obtain ⟨f0, hf0⟩ : ∃ f0, firstC v.k = f0 := ⟨_, rfl⟩
  obtain ⟨b0, hb0⟩ : ∃ b0, behC v = b0 := ⟨_, rfl⟩
  obtain ⟨a0, ha0⟩ : ∃ a0, ahd v = a0 := ⟨_, rfl⟩
  obtain ⟨g0, hg0⟩ : ∃ g0, begC v.s = g0 := ⟨_, rfl⟩
  obtain ⟨e0, he0⟩ : ∃ e0, fin = e0 := ⟨_, rfl⟩
  have HE := Lib.hid (fun W => end_any W)
  try rw [hf0] at HCu ⊢
  try rw [hf0] at HCu
  try rw [hb0] at HC ⊢
  try rw [hb0] at HC
  try rw [ha0] at HA ⊢
  try rw [ha0] at HA
  try rw [hg0] at HG ⊢
  try rw [hg0] at HG
  try rw [he0] at HE ⊢
  try rw [he0] at HE
  clear hf0 hb0 ha0 hg0 he0
  have hfld := fld_c f0 (.func (.func F) #[] #[])
  have H2 := two w 31 79 (vlc v) spz
  obtain ⟨hP, hQ, hB⟩ := H2
  have HP := Lib.hid hP
  have HQ := Lib.hid hQ
  have HB := Lib.hid hB
  clear hP hQ hB
  go_enter Try.func61, Try.ntmps61
  go_wp2_with fail
  refine (HCu.out _).mono ?_; rintro e w1 ⟨rfl, b1⟩
  have HP1 := Lib.hid (HP.out.later b1)
  have HQ1 := Lib.hid (HQ.out.later b1)
  have HB1 := Lib.hid (then_ HB.out b1)
  clear b1
  obtain ⟨W1, hW1⟩ : ∃ W1, W1 = w1.alloc (.cells #[.int .i64 f0.v.k, .int .i64 f0.v.n, .string f0.v.s, .bool f0.v.b, .bool f0.e, .func (.func F) #[] #[]] 98) := ⟨_, rfl⟩
  have HW1 := Lib.hid hW1
  have HP2 : Hid (Blk W1 w.heap.size 31 (vlc v)) := Lib.hid (by rw [hW1]; exact HP1.out.alloc _)
  have HQ2 : Hid (Blk W1 (w.heap.size + 1) 79 spz) := Lib.hid (by rw [hW1]; exact HQ1.out.alloc _)
  have HU2 : Hid (Blk W1 w1.heap.size 98 #[.int .i64 f0.v.k, .int .i64 f0.v.n, .string f0.v.s, .bool f0.v.b, .bool f0.e, .func (.func F) #[] #[]]) := Lib.hid (by rw [hW1]; exact Blk.new _ _ _)
  have HB2 : Hid (Below w.heap.size w W1) := Lib.hid (by rw [hW1]; exact HB1.out.alloc HB1.out.size _)
  clear hW1
  have p0 := HP2.out.cell 0 rfl
  have p1 := HP2.out.cell 1 rfl
  have p2 := HP2.out.cell 2 rfl
  have p3 := HP2.out.cell 3 rfl
  have u0 := HU2.out.cell 0 rfl
  have u1 := HU2.out.cell 1 rfl
  have u2 := HU2.out.cell 2 rfl
  have u3 := HU2.out.cell 3 rfl
  have u4 := HU2.out.cell 4 rfl
  have u5 := HU2.out.cell 5 rfl
  rw [HW1.out] at p0 p1 p2 p3 u0 u1 u2 u3 u4 u5
  go_wp2_with fail
  rw [← HW1.out]
  refine (HA.out _).mono ?_; rintro e w3 ⟨rfl, b9⟩
  have HP3 := Lib.hid (HP2.out.later b9)
  have HQ3 := Lib.hid (HQ2.out.later b9)
  have HU3 := Lib.hid (HU2.out.later b9)
  have HB3 := Lib.hid (then_ HB2.out b9)
  clear b9
  have p30 := HP3.out.cell 0 rfl
  have p31 := HP3.out.cell 1 rfl
  have p32 := HP3.out.cell 2 rfl
  have p33 := HP3.out.cell 3 rfl
  have u30 := HU3.out.cell 0 rfl
  have u31 := HU3.out.cell 1 rfl
  have u32 := HU3.out.cell 2 rfl
  have u33 := HU3.out.cell 3 rfl
  have u34 := HU3.out.cell 4 rfl
  have u35 := HU3.out.cell 5 rfl
  go_wp2_with fail
  refine (HE.out _).mono ?_; rintro e w4 ⟨rfl, b9⟩
  have HP4 := Lib.hid (HP3.out.later b9)
  have HQ4 := Lib.hid (HQ3.out.later b9)
  have HU4 := Lib.hid (HU3.out.later b9)
  have HB4 := Lib.hid (then_ HB3.out b9)
  clear b9
  have q40 := HQ4.out.cell 0 rfl
  have q41 := HQ4.out.cell 1 rfl
  have q42 := HQ4.out.cell 2 rfl
  have q43 := HQ4.out.cell 3 rfl
  have q44 := HQ4.out.cell 4 rfl
  have q45 := HQ4.out.cell 5 rfl
  have q46 := HQ4.out.cell 6 rfl
  have q47 := HQ4.out.cell 7 rfl
  have q48 := HQ4.out.cell 8 rfl
  have q49 := HQ4.out.cell 9 rfl
  have z0 := HQ4.out.free 0
  have z1 := HQ4.out.free 1
  have z2 := HQ4.out.free 2
  have z3 := HQ4.out.free 3
  have z4 := HQ4.out.free 4
  have z5 := HQ4.out.free 5
  have z6 := HQ4.out.free 6
  have z7 := HQ4.out.free 7
  have z8 := HQ4.out.free 8
  have z9 := HQ4.out.free 9
  go_wp2_with fail
  all_goals
    exact post_sp (s := ⟨a0, e0⟩) HQ4.out (fun W hW => by have c0 := hW.cell 0 rfl; have c1 := hW.cell 1 rfl; have c2 := hW.cell 2 rfl; have c3 := hW.cell 3 rfl; have c4 := hW.cell 4 rfl; have c5 := hW.cell 5 rfl; have c6 := hW.cell 6 rfl; have c7 := hW.cell 7 rfl; have c8 := hW.cell 8 rfl; have c9 := hW.cell 9 rfl; clear HP2 HQ2 HU2 HB2 HP3 HQ3 HU3 HB3 HP4 HQ4 HU4 HB4 HP HQ HB HP1 HQ1 HB1 HW1 HC HA HG HE HCu q40 q41 q42 q43 q44 q45 q46 q47 q48 q49 z0 z1 z2 z3 z4 z5 z6 z7 z8 z9; simp [results, Try.results61, go_sem, c0, c1, c2, c3, c4, c5, c6, c7, c8, c9]) rfl ⟨rfl, (same10 _ _ _).below HB4.out HB4.out.size (by omega)⟩
set_option maxHeartbeats 8000000 in
set_option maxRecDepth 100000 in
theorem stretched8_any (v : Vl) (hk : v.k = 1 ∨ v.k = 2 ∨ v.k = 3) (hr : Rv v) (hs : v.s.size ≤ 1048576) (w : World) : Calls Try.prog 61 #[.int .i64 8, vv v] w (Gives (spv ⟨ahd v, begC v.s⟩) w) := by
  obtain ⟨F, hF, hg, hc⟩ := beh_fn v hk hr hs
  have HC := Lib.hid hc
  have HA := Lib.hid (fun W => ahead_any v W)
  have HG := Lib.hid (fun W => behind_any v.s hs W)
  have HCu := Lib.hid (fun W => cuts_any v.k hk W)
  have hcu : cuv v.k = cux (firstC v.k) (.func (.func F) #[] #[]) := by rw [← hF]
  rw [hcu] at HCu
  clear hcu hF hc hk hr hs
  obtain ⟨f0, hf0⟩ : ∃ f0, firstC v.k = f0 := ⟨_, rfl⟩
  obtain ⟨b0, hb0⟩ : ∃ b0, behC v = b0 := ⟨_, rfl⟩
  obtain ⟨a0, ha0⟩ : ∃ a0, ahd v = a0 := ⟨_, rfl⟩
  obtain ⟨g0, hg0⟩ : ∃ g0, begC v.s = g0 := ⟨_, rfl⟩
  obtain ⟨e0, he0⟩ : ∃ e0, fin = e0 := ⟨_, rfl⟩
  have HE := Lib.hid (fun W => end_any W)
  try rw [hf0] at HCu ⊢
  try rw [hf0] at HCu
  try rw [hb0] at HC ⊢
  try rw [hb0] at HC
  try rw [ha0] at HA ⊢
  try rw [ha0] at HA
  try rw [hg0] at HG ⊢
  try rw [hg0] at HG
  try rw [he0] at HE ⊢
  try rw [he0] at HE
  clear hf0 hb0 ha0 hg0 he0
  have hfld := fld_c f0 (.func (.func F) #[] #[])
  have H2 := two w 31 79 (vlc v) spz
  obtain ⟨hP, hQ, hB⟩ := H2
  have HP := Lib.hid hP
  have HQ := Lib.hid hQ
  have HB := Lib.hid hB
  clear hP hQ hB
  go_enter Try.func61, Try.ntmps61
  go_wp2_with fail
  refine (HCu.out _).mono ?_; rintro e w1 ⟨rfl, b1⟩
  have HP1 := Lib.hid (HP.out.later b1)
  have HQ1 := Lib.hid (HQ.out.later b1)
  have HB1 := Lib.hid (then_ HB.out b1)
  clear b1
  obtain ⟨W1, hW1⟩ : ∃ W1, W1 = w1.alloc (.cells #[.int .i64 f0.v.k, .int .i64 f0.v.n, .string f0.v.s, .bool f0.v.b, .bool f0.e, .func (.func F) #[] #[]] 98) := ⟨_, rfl⟩
  have HW1 := Lib.hid hW1
  have HP2 : Hid (Blk W1 w.heap.size 31 (vlc v)) := Lib.hid (by rw [hW1]; exact HP1.out.alloc _)
  have HQ2 : Hid (Blk W1 (w.heap.size + 1) 79 spz) := Lib.hid (by rw [hW1]; exact HQ1.out.alloc _)
  have HU2 : Hid (Blk W1 w1.heap.size 98 #[.int .i64 f0.v.k, .int .i64 f0.v.n, .string f0.v.s, .bool f0.v.b, .bool f0.e, .func (.func F) #[] #[]]) := Lib.hid (by rw [hW1]; exact Blk.new _ _ _)
  have HB2 : Hid (Below w.heap.size w W1) := Lib.hid (by rw [hW1]; exact HB1.out.alloc HB1.out.size _)
  clear hW1
  go_wp2_with fail
  rw [← HW1.out]
  have HP2d : Hid (Blk W1.drew w.heap.size 31 (vlc v)) := Lib.hid HP2.out
  have HU2d : Hid (Blk W1.drew w1.heap.size 98 #[.int .i64 f0.v.k, .int .i64 f0.v.n, .string f0.v.s, .bool f0.v.b, .bool f0.e, .func (.func F) #[] #[]]) := Lib.hid HU2.out
  have p0 := HP2d.out.cell 0 rfl
  have p1 := HP2d.out.cell 1 rfl
  have p2 := HP2d.out.cell 2 rfl
  have p3 := HP2d.out.cell 3 rfl
  have u0 := HU2d.out.cell 0 rfl
  have u1 := HU2d.out.cell 1 rfl
  have u2 := HU2d.out.cell 2 rfl
  have u3 := HU2d.out.cell 3 rfl
  have u4 := HU2d.out.cell 4 rfl
  have u5 := HU2d.out.cell 5 rfl
  have hz := HQ2.out.lt
  have hzu := HQ1.out.lt
  go_region_held3 (fun w9 => w9.cell? ⟨w.heap.size, 0, none⟩ = some (.int .i64 v.k) ∧ w9.cell? ⟨w.heap.size, 1, none⟩ = some (.int .i64 v.n) ∧ w9.cell? ⟨w.heap.size, 2, none⟩ = some (.string v.s) ∧ w9.cell? ⟨w.heap.size, 3, none⟩ = some (.bool v.b) ∧ w9.cell? ⟨w1.heap.size, 0, none⟩ = some (.int .i64 f0.v.k) ∧ w9.cell? ⟨w1.heap.size, 1, none⟩ = some (.int .i64 f0.v.n) ∧ w9.cell? ⟨w1.heap.size, 2, none⟩ = some (.string f0.v.s) ∧ w9.cell? ⟨w1.heap.size, 3, none⟩ = some (.bool f0.v.b) ∧ w9.cell? ⟨w1.heap.size, 4, none⟩ = some (.bool f0.e) ∧ w9.cell? ⟨w1.heap.size, 5, none⟩ = some (.func (.func F) #[] #[])) (first | (with_reducible exact cells10 HP3.out HU3.out) | (with_reducible exact cells10 HP4.out HU4.out) | (with_reducible exact keep10 ⟨a0, g0⟩ HP4.out HU4.out (by omega) (by omega)) | exact cells10 HP2d.out HU2d.out) (first | (go_at_call 78; (with_reducible refine (HA.out _).mono ?_); rintro e w3 ⟨rfl, b9⟩; have HP3 := Lib.hid (HP2.out.later (show Below W1.heap.size W1 w3 from ⟨b9.os, b9.tape, b9.output, b9.size, b9.block⟩)); have HQ3 := Lib.hid (HQ2.out.later (show Below W1.heap.size W1 w3 from ⟨b9.os, b9.tape, b9.output, b9.size, b9.block⟩)); have HU3 := Lib.hid (HU2.out.later (show Below W1.heap.size W1 w3 from ⟨b9.os, b9.tape, b9.output, b9.size, b9.block⟩)); have HB3 := Lib.hid (then_ HB2.out (show Below W1.heap.size W1 w3 from ⟨b9.os, b9.tape, b9.output, b9.size, b9.block⟩)); clear b9; have p30 := HP3.out.cell 0 rfl; have p31 := HP3.out.cell 1 rfl; have p32 := HP3.out.cell 2 rfl; have p33 := HP3.out.cell 3 rfl; have u30 := HU3.out.cell 0 rfl; have u31 := HU3.out.cell 1 rfl; have u32 := HU3.out.cell 2 rfl; have u33 := HU3.out.cell 3 rfl; have u34 := HU3.out.cell 4 rfl; have u35 := HU3.out.cell 5 rfl; skip) | (go_at_call 82; (with_reducible refine (HG.out _).mono ?_); rintro e w4 ⟨rfl, b9⟩; have HP4 := Lib.hid (HP3.out.later b9); have HQ4 := Lib.hid (HQ3.out.later b9); have HU4 := Lib.hid (HU3.out.later b9); have HB4 := Lib.hid (then_ HB3.out b9); clear b9; have p40 := HP4.out.cell 0 rfl; have p41 := HP4.out.cell 1 rfl; have p42 := HP4.out.cell 2 rfl; have p43 := HP4.out.cell 3 rfl; have u40 := HU4.out.cell 0 rfl; have u41 := HU4.out.cell 1 rfl; have u42 := HU4.out.cell 2 rfl; have u43 := HU4.out.cell 3 rfl; have u44 := HU4.out.cell 4 rfl; have u45 := HU4.out.cell 5 rfl; have q40 := HQ4.out.cell 0 rfl; have q41 := HQ4.out.cell 1 rfl; have q42 := HQ4.out.cell 2 rfl; have q43 := HQ4.out.cell 3 rfl; have q44 := HQ4.out.cell 4 rfl; have q45 := HQ4.out.cell 5 rfl; have q46 := HQ4.out.cell 6 rfl; have q47 := HQ4.out.cell 7 rfl; have q48 := HQ4.out.cell 8 rfl; have q49 := HQ4.out.cell 9 rfl; have z0 := HQ4.out.free 0; have z1 := HQ4.out.free 1; have z2 := HQ4.out.free 2; have z3 := HQ4.out.free 3; have z4 := HQ4.out.free 4; have z5 := HQ4.out.free 5; have z6 := HQ4.out.free 6; have z7 := HQ4.out.free 7; have z8 := HQ4.out.free 8; have z9 := HQ4.out.free 9; skip))
  all_goals (try go_wp2_with fail)
  all_goals
    exact post_sp (s := ⟨a0, g0⟩) HQ4.out (fun W hW => by have c0 := hW.cell 0 rfl; have c1 := hW.cell 1 rfl; have c2 := hW.cell 2 rfl; have c3 := hW.cell 3 rfl; have c4 := hW.cell 4 rfl; have c5 := hW.cell 5 rfl; have c6 := hW.cell 6 rfl; have c7 := hW.cell 7 rfl; have c8 := hW.cell 8 rfl; have c9 := hW.cell 9 rfl; clear HP2 HQ2 HU2 HB2 HP3 HQ3 HU3 HB3 HP4 HQ4 HU4 HB4 HP HQ HB HP1 HQ1 HB1 HW1 HC HA HG HE HCu q40 q41 q42 q43 q44 q45 q46 q47 q48 q49 z0 z1 z2 z3 z4 z5 z6 z7 z8 z9; simp [results, Try.results61, go_sem, c0, c1, c2, c3, c4, c5, c6, c7, c8, c9]) rfl ⟨rfl, (same10 _ _ _).below HB4.out HB4.out.size (by omega)⟩
set_option maxHeartbeats 8000000 in
set_option maxRecDepth 100000 in
theorem stretched2_any (op : Int) (h : op ≠ 4 ∧ op ≠ 5 ∧ op ≠ 6 ∧ op ≠ 7 ∧ op ≠ 8) (v : Vl) (hk : v.k = 1 ∨ v.k = 2 ∨ v.k = 3) (hr : Rv v) (hs : v.s.size ≤ 1048576) (w : World) : Calls Try.prog 61 #[.int .i64 op, vv v] w (Gives (spv ⟨ahd v, behC v⟩) w) := by
  obtain ⟨F, hF, hg, hc⟩ := beh_fn v hk hr hs
  have HC := Lib.hid hc
  have HA := Lib.hid (fun W => ahead_any v W)
  have HG := Lib.hid (fun W => behind_any v.s hs W)
  have HCu := Lib.hid (fun W => cuts_any v.k hk W)
  have hcu : cuv v.k = cux (firstC v.k) (.func (.func F) #[] #[]) := by rw [← hF]
  rw [hcu] at HCu
  clear hcu hF hc hk hr hs
  obtain ⟨f0, hf0⟩ : ∃ f0, firstC v.k = f0 := ⟨_, rfl⟩
  obtain ⟨b0, hb0⟩ : ∃ b0, behC v = b0 := ⟨_, rfl⟩
  obtain ⟨a0, ha0⟩ : ∃ a0, ahd v = a0 := ⟨_, rfl⟩
  obtain ⟨g0, hg0⟩ : ∃ g0, begC v.s = g0 := ⟨_, rfl⟩
  obtain ⟨e0, he0⟩ : ∃ e0, fin = e0 := ⟨_, rfl⟩
  have HE := Lib.hid (fun W => end_any W)
  try rw [hf0] at HCu ⊢
  try rw [hf0] at HCu
  try rw [hb0] at HC ⊢
  try rw [hb0] at HC
  try rw [ha0] at HA ⊢
  try rw [ha0] at HA
  try rw [hg0] at HG ⊢
  try rw [hg0] at HG
  try rw [he0] at HE ⊢
  try rw [he0] at HE
  clear hf0 hb0 ha0 hg0 he0
  have hfld := fld_c f0 (.func (.func F) #[] #[])
  have H2 := two w 31 79 (vlc v) spz
  obtain ⟨hP, hQ, hB⟩ := H2
  have HP := Lib.hid hP
  have HQ := Lib.hid hQ
  have HB := Lib.hid hB
  clear hP hQ hB
  obtain ⟨h4, h5, h6, h7, h8⟩ := h
  have i4 : (op == 4) = false := by simp [h4]
  have i5 : (op == 5) = false := by simp [h5]
  have i6 : (op == 6) = false := by simp [h6]
  have i7 : (op == 7) = false := by simp [h7]
  have i8 : (op == 8) = false := by simp [h8]
  clear h4 h5 h6 h7 h8
  go_enter Try.func61, Try.ntmps61
  go_wp2_with fail
  refine (HCu.out _).mono ?_; rintro e w1 ⟨rfl, b1⟩
  have HP1 := Lib.hid (HP.out.later b1)
  have HQ1 := Lib.hid (HQ.out.later b1)
  have HB1 := Lib.hid (then_ HB.out b1)
  clear b1
  obtain ⟨W1, hW1⟩ : ∃ W1, W1 = w1.alloc (.cells #[.int .i64 f0.v.k, .int .i64 f0.v.n, .string f0.v.s, .bool f0.v.b, .bool f0.e, .func (.func F) #[] #[]] 98) := ⟨_, rfl⟩
  have HW1 := Lib.hid hW1
  have HP2 : Hid (Blk W1 w.heap.size 31 (vlc v)) := Lib.hid (by rw [hW1]; exact HP1.out.alloc _)
  have HQ2 : Hid (Blk W1 (w.heap.size + 1) 79 spz) := Lib.hid (by rw [hW1]; exact HQ1.out.alloc _)
  have HU2 : Hid (Blk W1 w1.heap.size 98 #[.int .i64 f0.v.k, .int .i64 f0.v.n, .string f0.v.s, .bool f0.v.b, .bool f0.e, .func (.func F) #[] #[]]) := Lib.hid (by rw [hW1]; exact Blk.new _ _ _)
  have HB2 : Hid (Below w.heap.size w W1) := Lib.hid (by rw [hW1]; exact HB1.out.alloc HB1.out.size _)
  clear hW1
  go_wp2_with fail
  rw [← HW1.out]
  have HP2d : Hid (Blk W1.drew w.heap.size 31 (vlc v)) := Lib.hid HP2.out
  have HU2d : Hid (Blk W1.drew w1.heap.size 98 #[.int .i64 f0.v.k, .int .i64 f0.v.n, .string f0.v.s, .bool f0.v.b, .bool f0.e, .func (.func F) #[] #[]]) := Lib.hid HU2.out
  have p0 := HP2d.out.cell 0 rfl
  have p1 := HP2d.out.cell 1 rfl
  have p2 := HP2d.out.cell 2 rfl
  have p3 := HP2d.out.cell 3 rfl
  have u0 := HU2d.out.cell 0 rfl
  have u1 := HU2d.out.cell 1 rfl
  have u2 := HU2d.out.cell 2 rfl
  have u3 := HU2d.out.cell 3 rfl
  have u4 := HU2d.out.cell 4 rfl
  have u5 := HU2d.out.cell 5 rfl
  have hz := HQ2.out.lt
  have hzu := HQ1.out.lt
  go_region_held3 (fun w9 => w9.cell? ⟨w.heap.size, 0, none⟩ = some (.int .i64 v.k) ∧ w9.cell? ⟨w.heap.size, 1, none⟩ = some (.int .i64 v.n) ∧ w9.cell? ⟨w.heap.size, 2, none⟩ = some (.string v.s) ∧ w9.cell? ⟨w.heap.size, 3, none⟩ = some (.bool v.b) ∧ w9.cell? ⟨w1.heap.size, 0, none⟩ = some (.int .i64 f0.v.k) ∧ w9.cell? ⟨w1.heap.size, 1, none⟩ = some (.int .i64 f0.v.n) ∧ w9.cell? ⟨w1.heap.size, 2, none⟩ = some (.string f0.v.s) ∧ w9.cell? ⟨w1.heap.size, 3, none⟩ = some (.bool f0.v.b) ∧ w9.cell? ⟨w1.heap.size, 4, none⟩ = some (.bool f0.e) ∧ w9.cell? ⟨w1.heap.size, 5, none⟩ = some (.func (.func F) #[] #[])) (first | (with_reducible exact cells10 HP3.out HU3.out) | (with_reducible exact cells10 HP4.out HU4.out) | (with_reducible exact keep10 ⟨a0, b0⟩ HP4.out HU4.out (by omega) (by omega)) | exact cells10 HP2d.out HU2d.out) (first | (go_at_call 78; (with_reducible refine (HA.out _).mono ?_); rintro e w3 ⟨rfl, b9⟩; have HP3 := Lib.hid (HP2.out.later (show Below W1.heap.size W1 w3 from ⟨b9.os, b9.tape, b9.output, b9.size, b9.block⟩)); have HQ3 := Lib.hid (HQ2.out.later (show Below W1.heap.size W1 w3 from ⟨b9.os, b9.tape, b9.output, b9.size, b9.block⟩)); have HU3 := Lib.hid (HU2.out.later (show Below W1.heap.size W1 w3 from ⟨b9.os, b9.tape, b9.output, b9.size, b9.block⟩)); have HB3 := Lib.hid (then_ HB2.out (show Below W1.heap.size W1 w3 from ⟨b9.os, b9.tape, b9.output, b9.size, b9.block⟩)); clear b9; have p30 := HP3.out.cell 0 rfl; have p31 := HP3.out.cell 1 rfl; have p32 := HP3.out.cell 2 rfl; have p33 := HP3.out.cell 3 rfl; have u30 := HU3.out.cell 0 rfl; have u31 := HU3.out.cell 1 rfl; have u32 := HU3.out.cell 2 rfl; have u33 := HU3.out.cell 3 rfl; have u34 := HU3.out.cell 4 rfl; have u35 := HU3.out.cell 5 rfl; skip) | ((with_reducible refine (HC.out _).mono ?_); rintro e w4 ⟨rfl, b9⟩; have HP4 := Lib.hid (HP3.out.later b9); have HQ4 := Lib.hid (HQ3.out.later b9); have HU4 := Lib.hid (HU3.out.later b9); have HB4 := Lib.hid (then_ HB3.out b9); clear b9; have p40 := HP4.out.cell 0 rfl; have p41 := HP4.out.cell 1 rfl; have p42 := HP4.out.cell 2 rfl; have p43 := HP4.out.cell 3 rfl; have u40 := HU4.out.cell 0 rfl; have u41 := HU4.out.cell 1 rfl; have u42 := HU4.out.cell 2 rfl; have u43 := HU4.out.cell 3 rfl; have u44 := HU4.out.cell 4 rfl; have u45 := HU4.out.cell 5 rfl; have q40 := HQ4.out.cell 0 rfl; have q41 := HQ4.out.cell 1 rfl; have q42 := HQ4.out.cell 2 rfl; have q43 := HQ4.out.cell 3 rfl; have q44 := HQ4.out.cell 4 rfl; have q45 := HQ4.out.cell 5 rfl; have q46 := HQ4.out.cell 6 rfl; have q47 := HQ4.out.cell 7 rfl; have q48 := HQ4.out.cell 8 rfl; have q49 := HQ4.out.cell 9 rfl; have z0 := HQ4.out.free 0; have z1 := HQ4.out.free 1; have z2 := HQ4.out.free 2; have z3 := HQ4.out.free 3; have z4 := HQ4.out.free 4; have z5 := HQ4.out.free 5; have z6 := HQ4.out.free 6; have z7 := HQ4.out.free 7; have z8 := HQ4.out.free 8; have z9 := HQ4.out.free 9; skip))
  all_goals (try go_wp2_with fail)
  all_goals
    exact post_sp (s := ⟨a0, b0⟩) HQ4.out (fun W hW => by have c0 := hW.cell 0 rfl; have c1 := hW.cell 1 rfl; have c2 := hW.cell 2 rfl; have c3 := hW.cell 3 rfl; have c4 := hW.cell 4 rfl; have c5 := hW.cell 5 rfl; have c6 := hW.cell 6 rfl; have c7 := hW.cell 7 rfl; have c8 := hW.cell 8 rfl; have c9 := hW.cell 9 rfl; clear HP2 HQ2 HU2 HB2 HP3 HQ3 HU3 HB3 HP4 HQ4 HU4 HB4 HP HQ HB HP1 HQ1 HB1 HW1 HC HA HG HE HCu q40 q41 q42 q43 q44 q45 q46 q47 q48 q49 z0 z1 z2 z3 z4 z5 z6 z7 z8 z9; simp [results, Try.results61, go_sem, c0, c1, c2, c3, c4, c5, c6, c7, c8, c9]) rfl ⟨rfl, (same10 _ _ _).below HB4.out HB4.out.size (by omega)⟩
theorem stretched_any (op : Int) (v : Vl) (hk : v.k = 1 ∨ v.k = 2 ∨ v.k = 3) (hr : Rv v) (hs : v.s.size ≤ 1048576) (w : World) : Calls Try.prog 61 #[.int .i64 op, vv v] w (Gives (spv (strS op v)) w) := by
  unfold strS
  by_cases h4 : op = 4
  · subst h4; exact stretched4_any v hk hr hs w
  rw [if_neg h4]
  by_cases h5 : op = 5
  · subst h5; exact stretched5_any v hk hr hs w
  rw [if_neg h5]
  by_cases h6 : op = 6
  · subst h6; exact stretched6_any v hk hr hs w
  rw [if_neg h6]
  by_cases h7 : op = 7
  · subst h7; exact stretched7_any v hk hr hs w
  rw [if_neg h7]
  by_cases h8 : op = 8
  · subst h8; exact stretched8_any v hk hr hs w
  rw [if_neg h8]
  exact stretched2_any op ⟨h4, h5, h6, h7, h8⟩ v hk hr hs w
end Go.Proofs.Ytggcboejdihdiaa.Gm
