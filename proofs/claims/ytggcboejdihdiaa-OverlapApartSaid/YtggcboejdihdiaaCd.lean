/- The contract of package cover's others. -/
import Derived.Test.YtggcboejdihdiaaCc
set_option linter.unusedSimpArgs false
set_option linter.unusedVariables false
namespace Go.Proofs.Ytggcboejdihdiaa.Gm
open Go Go.RowKit
attribute [local go_sem ↓] Go.wp_at_zero Go.wp_at_succ

/-- What a call leaves that returns spans: a row of its own. -/
def RowS (l : List Sp) (w : World) (e : Ending) (w' : World) : Prop := ∃ p c, e = .returned (.slice p l.length c) ∧ OwnS w' w.heap.size (.slice p l.length c) l ∧ Below w.heap.size w w'
theorem oth_step {l : List Sp} {k : Nat} (h : k < l.length) (f : Ct) (acc : List Sp) : othF (l.drop k) f acc = othF (l.drop (k + 1)) (l.getD k default).t (withL acc ⟨f, (l.getD k default).f⟩) := by
  rw [List.drop_eq_getElem_cons h, List.getD_eq_getElem?_getD, List.getElem?_eq_getElem h]
  rfl
theorem oth_stop (l : List Sp) (f : Ct) (acc : List Sp) : othF (l.drop l.length) f acc = withL acc ⟨f, fin⟩ := by rw [List.drop_length]; rfl
set_option maxHeartbeats 8000000 in
set_option maxRecDepth 100000 in
theorem others_any (v : Value) (l : List Sp) (f0 : Ct) (w : World) (hA : Ss w v l) (hl : l.length ≤ 1000000) : Calls Try.prog 59 #[v, ctv f0] w (RowS (oth l f0) w) := by
  obtain ⟨p, cap, rfl⟩ := hA.1.form
  have HA := Lib.hid hA
  clear hA
  go_enter Try.func59, Try.ntmps59
  go_wp2
  go_loopw [5, 10] (fun vl i wr => ∃ (k : Nat) (f : Ct) (L : List Sp), k ≤ l.length ∧ i = .int .i64 k ∧ Hid (OwnS wr w.heap.size vl L) ∧ Hid (L.length ≤ k) ∧ Hid (othF (l.drop k) f L = oth l f0) ∧ Hid (Blk wr w.heap.size 77 (ctc f)) ∧ Hid (Below w.heap.size w wr)) (fun _ i _ => l.length - (intOf i).toNat)
  case atStart => exact ⟨0, f0, [], Nat.zero_le _, rfl, Lib.hid (OwnS.nil _ _), Lib.hid (Nat.le_refl _), Lib.hid rfl, Lib.hid (Blk.new _ _ _), Lib.hid (below_one _ _)⟩
  case round =>
    obtain ⟨k, f, L, hk, rfl, HO, HLen, HF, HK, HBel⟩ := hrel
    obtain ⟨pI, capI, rfl⟩ := own_shape HO.out
    by_cases hkl : k < l.length
    · obtain ⟨p1, cap1, b, o, hv, hp, hb, h4⟩ := ten_at (HA.out.later HBel.out).1 hkl
      simp only [Value.slice.injEq] at hv
      obtain ⟨rfl, _, rfl⟩ := hv
      have hidx := idx_s p b o l.length cap k hp hkl
      have HS := Lib.hid (oth_step hkl f L)
      obtain ⟨x, hx⟩ : ∃ x, l.getD k default = x := ⟨_, rfl⟩
      rw [hx] at h4 HS
      obtain ⟨c0, c1, c2, c3, c4, c5, c6, c7, c8, c9⟩ := h4
      have HG := Lib.hid (HK.out.alloc (.cells (spc x) 79))
      have g0 := HK.out.cell 0 rfl
      have g1 := HK.out.cell 1 rfl
      have g2 := HK.out.cell 2 rfl
      have g3 := HK.out.cell 3 rfl
      have g4 := HK.out.cell 4 rfl
      have hz := HBel.out.size
      have hz2 := HK.out.lt
      clear hx hp hb
      have HOa := Lib.hid (HO.out.later (below_one wr (.cells (spc x) 79)))
      have HBa := Lib.hid (HBel.out.alloc HBel.out.size (.cells (spc x) 79))
      have HKa := Lib.hid (HK.out.alloc (.cells (spc x) 79))
      have HGa := Lib.hid (Blk.new wr 79 (spc x))
      have hzb : w.heap.size ≤ (wr.alloc (.cells (spc x) 79)).heap.size := HBa.out.size
      go_wp2_with fail
      refine (with_any w.heap.size (.slice pI L.length capI) L ⟨f, x.f⟩ _ HOa.out hzb (by have := HLen.out; omega)).mono ?_
      rintro e w2 ⟨p2, c2', rfl, h1, h2⟩
      have H1 := Lib.hid h1
      have HB2 := Lib.hid (HBa.out.grown h2 hzb (fun j hj => (World.ownsRow.lt HOa.out j hj).1))
      have HK2 := Lib.hid (HKa.out.grown h2 (HKa.out.apart HOa.out (by decide)))
      have HG2 := Lib.hid (HGa.out.grown h2 (fun hj => by have := (World.ownsRow.lt HO.out _ hj).2; omega))
      have g5 := HG2.out.cell 5 rfl
      have g6 := HG2.out.cell 6 rfl
      have g7 := HG2.out.cell 7 rfl
      have g8 := HG2.out.cell 8 rfl
      have g9 := HG2.out.cell 9 rfl
      have k0 := HK2.out.cell 0 rfl
      have k1 := HK2.out.cell 1 rfl
      have k2 := HK2.out.cell 2 rfl
      have k3 := HK2.out.cell 3 rfl
      have k4 := HK2.out.cell 4 rfl
      have f0 := HK2.out.free 0
      have f1 := HK2.out.free 1
      have f2 := HK2.out.free 2
      have f3 := HK2.out.free 3
      have f4 := HK2.out.free 4
      clear h1 h2 hzb
      go_wp2_with fail
      go_roundw
      case rel =>
        have S := same5 w2 w.heap.size 0 x.t
        refine ⟨k + 1, x.t, withL L ⟨f, x.f⟩, by omega, by simp, Lib.hid (S.own H1.out (HK2.out.apart H1.out (by decide))), Lib.hid (by have := HLen.out; have := with_length L ⟨f, x.f⟩; omega), Lib.hid (by rw [← HS.out]; exact HF.out), Lib.hid (blk5 HK2.out x.t), Lib.hid (S.below HB2.out HB2.out.size (Nat.le_refl _))⟩
      case measure => simp [intOf]; omega
    · have hke : k = l.length := by omega
      subst hke
      have HE : Hid (withL L ⟨f, fin⟩ = oth l f0) := Lib.hid (by rw [← oth_stop l f L]; exact HF.out)
      obtain ⟨g0, g1, g2, g3, g4⟩ : wr.cell? ⟨w.heap.size, 0, none⟩ = some (.int .i64 f.v.k) ∧ wr.cell? ⟨w.heap.size, 1, none⟩ = some (.int .i64 f.v.n) ∧ wr.cell? ⟨w.heap.size, 2, none⟩ = some (.string f.v.s) ∧ wr.cell? ⟨w.heap.size, 3, none⟩ = some (.bool f.v.b) ∧ wr.cell? ⟨w.heap.size, 4, none⟩ = some (.bool f.e) := ⟨HK.out.cell 0 rfl, HK.out.cell 1 rfl, HK.out.cell 2 rfl, HK.out.cell 3 rfl, HK.out.cell 4 rfl⟩
      have hz := HBel.out.size
      have hz2 := HK.out.lt
      clear hkl
      go_wp2_with fail
      go_region_law (first | (go_simp; go_at_call 77; refine (end_any _).mono ?_; rintro e w1 ⟨rfl, b1⟩; have HB1 := Lib.hid (HBel.out.trans (Below.mono (show Below wr.heap.size wr w1 from ⟨b1.os, b1.tape, b1.output, b1.size, b1.block⟩) hz)); have HO1 := Lib.hid (HO.out.later (show Below wr.heap.size wr w1 from ⟨b1.os, b1.tape, b1.output, b1.size, b1.block⟩)); have HK1 := Lib.hid ((show Blk wr.drew _ _ _ from HK.out).later b1); have m0 := HK1.out.cell 0 rfl; have m1 := HK1.out.cell 1 rfl; have m2 := HK1.out.cell 2 rfl; have m3 := HK1.out.cell 3 rfl; have m4 := HK1.out.cell 4 rfl; clear b1; try go_wp2_with fail) | (go_simp; go_at_call 44; refine (with_any w.heap.size (.slice pI L.length capI) L ⟨f, fin⟩ _ HO1.out HB1.out.size (by have := HLen.out; omega)).mono ?_; rintro e w2 ⟨p2, c2', rfl, h1, h2⟩; have H1 := Lib.hid h1; have HB2 := Lib.hid (HB1.out.grown h2 HB1.out.size (fun j hj => (World.ownsRow.lt HO1.out j hj).1)); clear h1 h2; try go_wp2_with fail))
      all_goals
        go_wp2_with fail
        go_ret
        exact ⟨p2, c2', by rw [← HE.out]; rfl, by rw [← HE.out]; exact H1.out, HB2.out⟩
end Go.Proofs.Ytggcboejdihdiaa.Gm
