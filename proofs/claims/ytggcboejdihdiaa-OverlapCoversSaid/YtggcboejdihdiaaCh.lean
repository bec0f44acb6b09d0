/- The contracts of package cover's All, Minus, or. -/
import Derived.Test.YtggcboejdihdiaaCg
set_option linter.unusedSimpArgs false
set_option linter.unusedVariables false
namespace Go.Proofs.Ytggcboejdihdiaa.Gm
open Go Go.RowKit
attribute [local go_sem ↓] Go.wp_at_zero Go.wp_at_succ

abbrev zRg : Array Value := #[.slice none 0 0, .slice none 0 0, .slice none 0 0, .bool false]
theorem rest_r (m : Rm) (r : Rg) (n : Nat) (w : World) (hR : RgIn w m r) (hr : LeR r n) (hn : n ≤ 1000000) : Calls Try.prog 53 #[rgv m r] w fun e w' => ∃ q, e = .returned (rgv q (restR r)) ∧ OwnR w' q (restR r) ∧ Below w.heap.size w w' := rest_any m r n w hR hr hn
theorem and_r (m m' : Rm) (r s : Rg) (n n' : Nat) (w : World) (hR : RgIn w m r) (hS : RgIn w m' s) (hr : LeR r n) (hs : LeR s n') (hn : n + n' ≤ 1000000) : Calls Try.prog 14 #[rgv m r, rgv m' s] w fun e w' => ∃ q, e = .returned (rgv q (andR r s)) ∧ OwnR w' q (andR r s) ∧ Below w.heap.size w w' := and_any m m' r s n n' w hR hS hr hs hn
set_option maxHeartbeats 16000000 in
set_option maxRecDepth 100000 in
theorem minus_any (m m' : Rm) (r s : Rg) (n n' : Nat) (w : World) (hR : RgIn w m r) (hS : RgIn w m' s) (hr : LeR r n) (hs : LeR s n') (hn : n + (n' + 1) ≤ 1000000) : Calls Try.prog 49 #[rgv m r, rgv m' s] w (RetR (minusR r s) w) := by
  have HC0 := Lib.hid (fun W (h : Below w.heap.size w W) => rest_r m' s n' W (hS.later h) hs (by omega))
  have HC1 := Lib.hid (fun W q (h : Below w.heap.size w W) (ho : OwnR W q (restR s)) => and_r m q r (restR s) n (n' + 1) W (hR.later h) (ho.rg hs.rest (by omega)) hr hs.rest hn)
  clear hR hS hr hs hn
  have HE : Hid (minusR r s = andR r (restR s)) := Lib.hid rfl
  rw [HE.out]
  clear HE
  generalize restR s = u at HC0 HC1 ⊢
  generalize andR r u = v at HC1 ⊢
  have H3 := Lib.hid (three w 39 (rgc m r) (rgc m' s) zRg)
  go_enter Try.func49, Try.ntmps49
  go_wp2
  obtain ⟨W3, hW3⟩ : ∃ W3, W3 = ((w.alloc (.cells (rgc m r) 39)).alloc (.cells (rgc m' s) 39)).alloc (.cells zRg 39) := ⟨_, rfl⟩
  rw [← hW3] at H3 ⊢
  clear hW3
  have HB0 := Lib.hid H3.out.2.2.2
  have HP := Lib.hid H3.out.1
  have HQ := Lib.hid H3.out.2.1
  have HZ : Hid (Blk W3 (w.heap.size + 1 + 1) 39 zRg) := Lib.hid H3.out.2.2.1
  clear H3
  have p0 := HP.out.cell 0 rfl
  have p1 := HP.out.cell 1 rfl
  have p2 := HP.out.cell 2 rfl
  have p3 := HP.out.cell 3 rfl
  have q0 := HQ.out.cell 0 rfl
  have q1 := HQ.out.cell 1 rfl
  have q2 := HQ.out.cell 2 rfl
  have q3 := HQ.out.cell 3 rfl
  have hz := HZ.out.lt
  have HD0 : Hid (Below w.heap.size w W3.drew) := Lib.hid HB0.out.drew
  go_region_law (first | (go_simp; go_at_call 53; (with_reducible refine (HC0.out _ HD0.out).mono ?_); rintro e w1 ⟨k1, rfl, ho1, b1⟩; have HO1 := Lib.hid ho1; have HB1 := Lib.hid (Below.trans HB0.out (Below.mono (show Below W3.heap.size W3 w1 from ⟨b1.os, b1.tape, b1.output, b1.size, b1.block⟩) HB0.out.size)); have HP1 := Lib.hid ((show Blk W3.drew _ _ _ from HP.out).later b1); have HZ1 := Lib.hid ((show Blk W3.drew _ _ _ from HZ.out).later b1); clear b1 ho1; have p0 := HP1.out.cell 0 rfl; have p1 := HP1.out.cell 1 rfl; have p2 := HP1.out.cell 2 rfl; have p3 := HP1.out.cell 3 rfl; try go_wp2_with fail) | (go_simp; go_at_call 14; refine (HC1.out _ _ HB1.out HO1.out).mono ?_; rintro e w2 ⟨k2, rfl, ho2, b2⟩; have HO2 := Lib.hid ho2; have HB2 := Lib.hid (HB1.out.trans (b2.mono HB1.out.size)); have HZ2 := Lib.hid (HZ1.out.later b2); clear b2 ho2; have z0 := HZ2.out.cell 0 rfl; have z1 := HZ2.out.cell 1 rfl; have z2 := HZ2.out.cell 2 rfl; have z3 := HZ2.out.cell 3 rfl; have f0 := HZ2.out.free 0; have f1 := HZ2.out.free 1; have f2 := HZ2.out.free 2; have f3 := HZ2.out.free 3; try go_wp2_with fail))
  all_goals (try go_wp2_with fail)
  all_goals
    exact post_rg (m := k2) (r := v) HZ2.out (fun W hW => by have e0 := hW.cell 0 rfl; have e1 := hW.cell 1 rfl; have e2 := hW.cell 2 rfl; have e3 := hW.cell 3 rfl; clear HD0 HZ HZ1 HZ2 HB0 HB1 HB2 HO1 HO2 HC0 HC1 HP HQ HP1; simp [results, Try.results49, go_sem, e0, e1, e2, e3]) rfl ⟨k2, rfl, OwnR.put4 HO2.out HZ2.out, (same4 _ _ _ _).below HB2.out HB2.out.size (by omega)⟩
theorem minus_r (m m' : Rm) (r s : Rg) (n n' : Nat) (w : World) (hR : RgIn w m r) (hS : RgIn w m' s) (hr : LeR r n) (hs : LeR s n') (hn : n + (n' + 1) ≤ 1000000) : Calls Try.prog 49 #[rgv m r, rgv m' s] w fun e w' => ∃ q, e = .returned (rgv q (minusR r s)) ∧ OwnR w' q (minusR r s) ∧ Below w.heap.size w w' := minus_any m m' r s n n' w hR hS hr hs hn
set_option maxHeartbeats 16000000 in
set_option maxRecDepth 100000 in
theorem or_any (m m' : Rm) (r s : Rg) (n n' : Nat) (w : World) (hR : RgIn w m r) (hS : RgIn w m' s) (hr : LeR r n) (hs : LeR s n') (hn : n + n' + 10 ≤ 1000000) : Calls Try.prog 55 #[rgv m r, rgv m' s] w (RetR (orR r s) w) := by
  have HC0 := Lib.hid (fun W (h : Below w.heap.size w W) => rest_r m r n W (hR.later h) hr (by omega))
  have HC1 := Lib.hid (fun W q (h : Below w.heap.size w W) (ho : OwnR W q (restR r)) => minus_r q m' (restR r) s (n + 1) n' W (ho.rg hr.rest (by omega)) (hS.later h) hr.rest hs (by omega))
  have HC2 := Lib.hid (fun W q (ho : OwnR W q (minusR (restR r) s)) => rest_r q (minusR (restR r) s) (n + 1 + (n' + 1)) W (ho.rg (hr.rest.minus hs) (by omega)) (hr.rest.minus hs) (by omega))
  clear hR hS hr hs hn
  have HE : Hid (orR r s = restR (minusR (restR r) s)) := Lib.hid rfl
  rw [HE.out]
  clear HE
  generalize restR r = u at HC0 HC1 HC2 ⊢
  generalize minusR u s = v at HC1 HC2 ⊢
  generalize restR v = x at HC2 ⊢
  have H3 := Lib.hid (three w 39 (rgc m r) (rgc m' s) zRg)
  go_enter Try.func55, Try.ntmps55
  go_wp2
  obtain ⟨W3, hW3⟩ : ∃ W3, W3 = ((w.alloc (.cells (rgc m r) 39)).alloc (.cells (rgc m' s) 39)).alloc (.cells zRg 39) := ⟨_, rfl⟩
  rw [← hW3] at H3 ⊢
  clear hW3
  have HB0 := Lib.hid H3.out.2.2.2
  have HP := Lib.hid H3.out.1
  have HQ := Lib.hid H3.out.2.1
  have HZ : Hid (Blk W3 (w.heap.size + 1 + 1) 39 zRg) := Lib.hid H3.out.2.2.1
  clear H3
  have p0 := HP.out.cell 0 rfl
  have p1 := HP.out.cell 1 rfl
  have p2 := HP.out.cell 2 rfl
  have p3 := HP.out.cell 3 rfl
  have q0 := HQ.out.cell 0 rfl
  have q1 := HQ.out.cell 1 rfl
  have q2 := HQ.out.cell 2 rfl
  have q3 := HQ.out.cell 3 rfl
  have hz := HZ.out.lt
  have HD0 : Hid (Below w.heap.size w W3.drew) := Lib.hid HB0.out.drew
  go_region_law (first | (go_simp; go_at_call 53; (with_reducible refine (HC0.out _ HD0.out).mono ?_); rintro e w1 ⟨k1, rfl, ho1, b1⟩; have HO1 := Lib.hid ho1; have HB1 := Lib.hid (Below.trans HB0.out (Below.mono (show Below W3.heap.size W3 w1 from ⟨b1.os, b1.tape, b1.output, b1.size, b1.block⟩) HB0.out.size)); have HQ1 := Lib.hid ((show Blk W3.drew _ _ _ from HQ.out).later b1); have HZ1 := Lib.hid ((show Blk W3.drew _ _ _ from HZ.out).later b1); clear b1 ho1; have q0 := HQ1.out.cell 0 rfl; have q1 := HQ1.out.cell 1 rfl; have q2 := HQ1.out.cell 2 rfl; have q3 := HQ1.out.cell 3 rfl; try go_wp2_with fail) | (go_simp; go_at_call 49; refine (HC1.out _ _ HB1.out HO1.out).mono ?_; rintro e w2 ⟨k2, rfl, ho2, b2⟩; have HO2 := Lib.hid ho2; have HB2 := Lib.hid (HB1.out.trans (b2.mono HB1.out.size)); have HZ2 := Lib.hid (HZ1.out.later b2); clear b2 ho2; try go_wp2_with fail) | (go_simp; go_at_call 53; (with_reducible refine (HC2.out _ _ HO2.out).mono ?_); rintro e w3 ⟨k3, rfl, ho3, b3⟩; have HO3 := Lib.hid ho3; have HB3 := Lib.hid (HB2.out.trans (b3.mono HB2.out.size)); have HZ3 := Lib.hid (HZ2.out.later b3); clear b3 ho3; have z0 := HZ3.out.cell 0 rfl; have z1 := HZ3.out.cell 1 rfl; have z2 := HZ3.out.cell 2 rfl; have z3 := HZ3.out.cell 3 rfl; have f0 := HZ3.out.free 0; have f1 := HZ3.out.free 1; have f2 := HZ3.out.free 2; have f3 := HZ3.out.free 3; try go_wp2_with fail))
  all_goals (try go_wp2_with fail)
  all_goals
    exact post_rg (m := k3) (r := x) HZ3.out (fun W hW => by have e0 := hW.cell 0 rfl; have e1 := hW.cell 1 rfl; have e2 := hW.cell 2 rfl; have e3 := hW.cell 3 rfl; clear HD0 HZ HZ1 HZ2 HZ3 HB0 HB1 HB2 HB3 HO1 HO2 HO3 HC0 HC1 HC2 HP HQ HQ1; simp [results, Try.results55, go_sem, e0, e1, e2, e3]) rfl ⟨k3, rfl, OwnR.put4 HO3.out HZ3.out, (same4 _ _ _ _).below HB3.out HB3.out.size (by omega)⟩
set_option maxHeartbeats 16000000 in
set_option maxRecDepth 100000 in
theorem rg_zero (w : World) : RgIn w ⟨none, 0, none, 0, none, 0⟩ zeroR := ⟨ss_nil w, ss_nil w, ss_nil w⟩
theorem all_any (w : World) : Calls Try.prog 41 #[] w (RetR allR w) := by
  have HC0 := Lib.hid (fun W => rest_r ⟨none, 0, none, 0, none, 0⟩ zeroR 0 W (rg_zero W) (.zero 0) (by omega))
  have HE : Hid (allR = restR zeroR) := Lib.hid rfl
  rw [HE.out]
  clear HE
  generalize restR zeroR = x at HC0 ⊢
  have HB0 := Lib.hid (below_one w (.cells zRg 39))
  have HZ := Lib.hid (Blk.new w 39 zRg)
  go_enter Try.func41, Try.ntmps41
  go_wp2_with fail
  refine (HC0.out _).mono ?_
  rintro e w1 ⟨k1, rfl, ho1, b1⟩
  have HO1 := Lib.hid ho1
  have HB1 := Lib.hid (then_ HB0.out b1)
  have HZ1 := Lib.hid (HZ.out.later b1)
  clear b1 ho1
  have z0 := HZ1.out.cell 0 rfl
  have z1 := HZ1.out.cell 1 rfl
  have z2 := HZ1.out.cell 2 rfl
  have z3 := HZ1.out.cell 3 rfl
  have f0 := HZ1.out.free 0
  have f1 := HZ1.out.free 1
  have f2 := HZ1.out.free 2
  have f3 := HZ1.out.free 3
  go_wp2_with fail
  exact post_rg (m := k1) (r := x) HZ1.out (fun W hW => by have e0 := hW.cell 0 rfl; have e1 := hW.cell 1 rfl; have e2 := hW.cell 2 rfl; have e3 := hW.cell 3 rfl; clear HZ HZ1 HB0 HB1 HO1 HC0; simp [results, Try.results41, go_sem, e0, e1, e2, e3]) rfl ⟨k1, rfl, OwnR.put4 HO1.out HZ1.out, (same4 _ _ _ _).below HB1.out HB1.out.size (by omega)⟩
end Go.Proofs.Ytggcboejdihdiaa.Gm
