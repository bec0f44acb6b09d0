/- The contracts of package cover's rest, All, Minus, or, Within. -/
import Derived.Test.YtggcboejdihdiaaCf
import Derived.Test.YtggcboejdihdiaaCv
set_option linter.unusedSimpArgs false
set_option linter.unusedVariables false
namespace Go.Proofs.Ytggcboejdihdiaa.Gm
open Go Go.RowKit
attribute [local go_sem ↓] Go.wp_at_zero Go.wp_at_succ

theorem three (w : World) (t : TypeId) (a b c : Array Value) : Blk (((w.alloc (.cells a t)).alloc (.cells b t)).alloc (.cells c t)) w.heap.size t a ∧ Blk (((w.alloc (.cells a t)).alloc (.cells b t)).alloc (.cells c t)) (w.heap.size + 1) t b ∧ Blk (((w.alloc (.cells a t)).alloc (.cells b t)).alloc (.cells c t)) (w.heap.size + 2) t c ∧ Below w.heap.size w (((w.alloc (.cells a t)).alloc (.cells b t)).alloc (.cells c t)) := by
  have h1 := Blk.new w t a
  have h2 := Blk.new (w.alloc (.cells a t)) t b
  have h3 := Blk.new ((w.alloc (.cells a t)).alloc (.cells b t)) t c
  refine ⟨(h1.alloc _).alloc _, ?_, ?_, (below_two w _ _).alloc (by simp; omega) _⟩
  · have := h2.alloc (.cells c t); simpa using this
  · simpa using h3
theorem idx_a0 (x y z : Option Addr) (a b c a' b' c' : Nat) (W : World) : (Instr.index 37 (.agg #[.slice x a a', .slice y b b', .slice z c c']) (.int .i64 0)).run Try.prog W = .ok (.slice x a a') W := by
  simp [Instr.index, go_sem]
theorem idx_a1 (x y z : Option Addr) (a b c a' b' c' : Nat) (W : World) : (Instr.index 37 (.agg #[.slice x a a', .slice y b b', .slice z c c']) (.int .i64 1)).run Try.prog W = .ok (.slice y b b') W := by
  simp [Instr.index, go_sem]
theorem idx_a2 (x y z : Option Addr) (a b c a' b' c' : Nat) (W : World) : (Instr.index 37 (.agg #[.slice x a a', .slice y b b', .slice z c c']) (.int .i64 2)).run Try.prog W = .ok (.slice z c c') W := by
  simp [Instr.index, go_sem]
theorem fld_c (c : Ct) (F : Value) (W : World) : (Instr.field 98 (cux c F) 0).run Try.prog W = .ok (ctv c) W := by kernel_rfl
theorem others_own (v : Value) (l : List Sp) (f0 : Ct) (w : World) (hA : Ss w v l) (hl : l.length ≤ 1000000) : Calls Try.prog 59 #[v, ctv f0] w fun e w' => ∃ p c, e = .returned (.slice p (oth l f0).length c) ∧ OwnS w' 0 (.slice p (oth l f0).length c) (oth l f0) ∧ Below w.heap.size w w' :=
  (others_any v l f0 w hA hl).mono fun e w' ⟨p, c, h1, h2, h3⟩ => ⟨p, c, h1, own_base h2 (Nat.zero_le _), h3⟩
set_option maxHeartbeats 16000000 in
set_option maxRecDepth 100000 in
theorem rest_any (m : Rm) (r : Rg) (n : Nat) (w : World) (hR : RgIn w m r) (hr : LeR r n) (hn : n ≤ 1000000) : Calls Try.prog 53 #[rgv m r] w (RetR (restR r) w) := by
  obtain ⟨p0, c0, p1, c1, p2, c2⟩ := m
  have HC0 := Lib.hid (fun W (h : Below w.heap.size w W) => others_own _ r.a (firstC 1) W (hR.1.later h) (by have := hr.1; omega))
  have HC1 := Lib.hid (fun W (h : Below w.heap.size w W) => others_own _ r.b (firstC 2) W (hR.2.1.later h) (by have := hr.2.1; omega))
  have HC2 := Lib.hid (fun W (h : Below w.heap.size w W) => others_own _ r.c (firstC 3) W (hR.2.2.later h) (by have := hr.2.2; omega))
  have HL : Hid (LeR (restR r) (n + 1)) := Lib.hid hr.rest
  have HN : Hid (n ≤ 1000000) := Lib.hid hn
  clear hR hr hn
  obtain ⟨a, b, c, o⟩ := r
  have HE : Hid (restR ⟨a, b, c, o⟩ = ⟨oth a (firstC 1), oth b (firstC 2), oth c (firstC 3), !o⟩) := Lib.hid rfl
  rw [HE.out] at HL
  rw [HE.out]
  clear HE
  simp only at HC0 HC1 HC2
  generalize oth a (firstC 1) = A at HC0 HL ⊢
  generalize oth b (firstC 2) = B at HC1 HL ⊢
  generalize oth c (firstC 3) = C at HC2 HL ⊢
  have H3 := Lib.hid (three w 39 #[.slice p0 a.length c0, .slice p1 b.length c1, .slice p2 c.length c2, .bool o] #[.slice none 0 0, .slice none 0 0, .slice none 0 0, .bool false] #[.slice none 0 0, .slice none 0 0, .slice none 0 0, .bool !o])
  go_enter Try.func53, Try.ntmps53
  go_wp2
  go_loopw [12] (fun i wr => ∃ (k : Nat) (q : Rm), k ≤ 3 ∧ i = .int .i64 k ∧ Hid (Blk wr (w.heap.size + 1) 39 #[.slice none 0 0, .slice none 0 0, .slice none 0 0, .bool false]) ∧ Hid (Blk wr (w.heap.size + 2) 39 (rgc q (andAt k A B C !o))) ∧ Hid (OwnR wr q (andAt k A B C !o)) ∧ Hid (Below w.heap.size w wr)) (fun i _ => 3 - (intOf i).toNat)
  case atStart => exact ⟨0, ⟨none, 0, none, 0, none, 0⟩, by omega, rfl, Lib.hid H3.out.2.1, Lib.hid H3.out.2.2.1, Lib.hid ⟨OwnS.nil _ _, OwnS.nil _ _, OwnS.nil _ _⟩, Lib.hid H3.out.2.2.2⟩
  case round =>
    obtain ⟨k, q, hk, rfl, HZ, HK, HR, HBel⟩ := hrel
    obtain rfl | rfl | rfl | rfl : k = 0 ∨ k = 1 ∨ k = 2 ∨ k = 3 := by omega
    · have k0 := HK.out.cell 0 rfl
      have k1 := HK.out.free 0
      have hix := idx_a0 p0 p1 p2 a.length b.length c.length c0 c1 c2
      have hz := HBel.out.size
      have hz1 := HZ.out.lt
      go_wp2_with fail
      refine (cuts_any 1 (by omega) _).mono ?_; rintro e w0 ⟨rfl, b0⟩
      have HB0 := Lib.hid b0
      have hz0 := b0.size
      clear b0
      have HK0 := Lib.hid (HK.out.later HB0.out)
      obtain ⟨f0, hf0⟩ : ∃ f0, firstC 1 = f0 := ⟨_, rfl⟩
      have HCk := HC0
      have hcu : cuv 1 = cux f0 (behF 1) := by rw [← hf0]
      rw [hf0] at HCk
      rw [hcu]
      clear hf0 hcu
      generalize behF 1 = F0
      have hfld := fld_c f0 F0
      go_wp2_with fail
      refine (HCk.out _ (HBel.out.trans (HB0.out.mono hz))).mono ?_
      rintro e w1 ⟨p9, c9, rfl, hs9, b1⟩
      have HS9 := Lib.hid hs9
      have HB1 := Lib.hid (HB0.out.trans (b1.mono hz0))
      have HK1 := Lib.hid (HK0.out.later b1)
      have m0 := HK1.out.cell 0 rfl
      have m1 := HK1.out.free 0
      clear hs9 b1
      go_wp2_with fail
      go_roundw
      case rel =>
        have S : Same (w.heap.size + 2) w1 (w1.setCell ⟨w.heap.size + 2, 0, none⟩ (.slice p9 A.length c9)) := (Same.refl _ _).set _ _
        exact ⟨1, ⟨p9, c9, q.p1, q.c1, q.p2, q.c2⟩, by omega, by simp, Lib.hid (S.blk (HZ.out.later HB1.out) (by omega)), Lib.hid (blk4 HK1.out (.slice p9 A.length c9)).1, Lib.hid ⟨Same.own S HS9.out (HK1.out.apart HS9.out (by decide)), Same.own S (own_later HR.out.2.1 HB1.out) (HK1.out.apart (own_later HR.out.2.1 HB1.out) (by decide)), Same.own S (own_later HR.out.2.2 HB1.out) (HK1.out.apart (own_later HR.out.2.2 HB1.out) (by decide))⟩, Lib.hid (S.below (HBel.out.trans (HB1.out.mono hz)) (by have := HB1.out.size; omega) (by omega))⟩
      case measure => simp [intOf]
    · have k0 := HK.out.cell 1 rfl
      have k1 := HK.out.free 1
      have hix := idx_a1 p0 p1 p2 a.length b.length c.length c0 c1 c2
      have hz := HBel.out.size
      have hz1 := HZ.out.lt
      go_wp2_with fail
      refine (cuts_any 2 (by omega) _).mono ?_; rintro e w0 ⟨rfl, b0⟩
      have HB0 := Lib.hid b0
      have hz0 := b0.size
      clear b0
      have HK0 := Lib.hid (HK.out.later HB0.out)
      obtain ⟨f0, hf0⟩ : ∃ f0, firstC 2 = f0 := ⟨_, rfl⟩
      have HCk := HC1
      have hcu : cuv 2 = cux f0 (behF 2) := by rw [← hf0]
      rw [hf0] at HCk
      rw [hcu]
      clear hf0 hcu
      generalize behF 2 = F0
      have hfld := fld_c f0 F0
      go_wp2_with fail
      refine (HCk.out _ (HBel.out.trans (HB0.out.mono hz))).mono ?_
      rintro e w1 ⟨p9, c9, rfl, hs9, b1⟩
      have HS9 := Lib.hid hs9
      have HB1 := Lib.hid (HB0.out.trans (b1.mono hz0))
      have HK1 := Lib.hid (HK0.out.later b1)
      have m0 := HK1.out.cell 1 rfl
      have m1 := HK1.out.free 1
      clear hs9 b1
      go_wp2_with fail
      go_roundw
      case rel =>
        have S : Same (w.heap.size + 2) w1 (w1.setCell ⟨w.heap.size + 2, 1, none⟩ (.slice p9 B.length c9)) := (Same.refl _ _).set _ _
        exact ⟨2, ⟨q.p0, q.c0, p9, c9, q.p2, q.c2⟩, by omega, by simp, Lib.hid (S.blk (HZ.out.later HB1.out) (by omega)), Lib.hid (blk4 HK1.out (.slice p9 B.length c9)).2.1, Lib.hid ⟨Same.own S (own_later HR.out.1 HB1.out) (HK1.out.apart (own_later HR.out.1 HB1.out) (by decide)), Same.own S HS9.out (HK1.out.apart HS9.out (by decide)), Same.own S (own_later HR.out.2.2 HB1.out) (HK1.out.apart (own_later HR.out.2.2 HB1.out) (by decide))⟩, Lib.hid (S.below (HBel.out.trans (HB1.out.mono hz)) (by have := HB1.out.size; omega) (by omega))⟩
      case measure => simp [intOf]
    · have k0 := HK.out.cell 2 rfl
      have k1 := HK.out.free 2
      have hix := idx_a2 p0 p1 p2 a.length b.length c.length c0 c1 c2
      have hz := HBel.out.size
      have hz1 := HZ.out.lt
      go_wp2_with fail
      refine (cuts_any 3 (by omega) _).mono ?_; rintro e w0 ⟨rfl, b0⟩
      have HB0 := Lib.hid b0
      have hz0 := b0.size
      clear b0
      have HK0 := Lib.hid (HK.out.later HB0.out)
      obtain ⟨f0, hf0⟩ : ∃ f0, firstC 3 = f0 := ⟨_, rfl⟩
      have HCk := HC2
      have hcu : cuv 3 = cux f0 (behF 3) := by rw [← hf0]
      rw [hf0] at HCk
      rw [hcu]
      clear hf0 hcu
      generalize behF 3 = F0
      have hfld := fld_c f0 F0
      go_wp2_with fail
      refine (HCk.out _ (HBel.out.trans (HB0.out.mono hz))).mono ?_
      rintro e w1 ⟨p9, c9, rfl, hs9, b1⟩
      have HS9 := Lib.hid hs9
      have HB1 := Lib.hid (HB0.out.trans (b1.mono hz0))
      have HK1 := Lib.hid (HK0.out.later b1)
      have m0 := HK1.out.cell 2 rfl
      have m1 := HK1.out.free 2
      clear hs9 b1
      go_wp2_with fail
      go_roundw
      case rel =>
        have S : Same (w.heap.size + 2) w1 (w1.setCell ⟨w.heap.size + 2, 2, none⟩ (.slice p9 C.length c9)) := (Same.refl _ _).set _ _
        exact ⟨3, ⟨q.p0, q.c0, q.p1, q.c1, p9, c9⟩, by omega, by simp, Lib.hid (S.blk (HZ.out.later HB1.out) (by omega)), Lib.hid (blk4 HK1.out (.slice p9 C.length c9)).2.2.1, Lib.hid ⟨Same.own S (own_later HR.out.1 HB1.out) (HK1.out.apart (own_later HR.out.1 HB1.out) (by decide)), Same.own S (own_later HR.out.2.1 HB1.out) (HK1.out.apart (own_later HR.out.2.1 HB1.out) (by decide)), Same.own S HS9.out (HK1.out.apart HS9.out (by decide))⟩, Lib.hid (S.below (HBel.out.trans (HB1.out.mono hz)) (by have := HB1.out.size; omega) (by omega))⟩
      case measure => simp [intOf]
    · have k0 := HK.out.cell 0 rfl
      have k1 := HK.out.cell 1 rfl
      have k2 := HK.out.cell 2 rfl
      have k3 := HK.out.cell 3 rfl
      have z0 := HZ.out.cell 0 rfl
      have z1 := HZ.out.cell 1 rfl
      have z2 := HZ.out.cell 2 rfl
      have z3 := HZ.out.cell 3 rfl
      have f0 := HZ.out.free 0
      have f1 := HZ.out.free 1
      have f2 := HZ.out.free 2
      have f3 := HZ.out.free 3
      go_wp2_with fail
      exact post_rg (m := q) (r := andAt 3 A B C !o) HZ.out (fun W hW => by have e0 := hW.cell 0 rfl; have e1 := hW.cell 1 rfl; have e2 := hW.cell 2 rfl; have e3 := hW.cell 3 rfl; clear HK HZ HR HBel HC0 HC1 HC2 HL HN k0 k1 k2 k3 z0 z1 z2 z3 f0 f1 f2 f3; simp [results, Try.results53, go_sem, e0, e1, e2, e3]) rfl ⟨q, rfl, OwnR.put4 HR.out HZ.out, (same4 _ _ _ _).below HBel.out HBel.out.size (by omega)⟩
end Go.Proofs.Ytggcboejdihdiaa.Gm
