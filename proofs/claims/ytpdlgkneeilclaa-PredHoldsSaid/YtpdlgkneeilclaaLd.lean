/- The walk of the statement PredHolds. -/
import Derived.Test.YtpdlgkneeilclaaKz
import Derived.Test.YtpdlgkneeilclaaRHd
set_option linter.unusedSimpArgs false
set_option linter.unusedVariables false
namespace Go.Proofs.Ytpdlgkneeilclaa.Gm
open Go Go.RowKit
attribute [local go_sem ↓] Go.wp_at_zero Go.wp_at_succ

set_option maxHeartbeats 8000000 in
set_option maxRecDepth 100000 in
theorem law_pholds (v : Value) (l : List Cn) (key : ByteArray) (sl : Value) (attrs : List At) (x : Vl) (w : World) (hA : Cs w v l) (hE : Es w sl attrs) :
    Calls Try.prog 4 #[v, .agg #[.string key, sl], vv x] w (Gives (.bool true) w) := by
  obtain ⟨p, cap, rfl⟩ := hA.1.form
  obtain ⟨pe, cape, rfl⟩ := hE.1.form
  have hla := hA.2.1
  obtain ⟨W0, hW0⟩ : ∃ W0, W0 = (w.alloc (.cells #[.string key, .slice pe attrs.length cape] 43)).alloc (.cells #[.int .i64 x.k, .int .i64 x.n, .string x.s, .bool x.b] 34) := ⟨_, rfl⟩
  have hB0 : Below w.heap.size w W0 := by rw [hW0]; exact ((Below.refl _ w).alloc (Nat.le_refl _) _).alloc (by simp) _
  have HK : Hid (Blk W0 w.heap.size 43 #[.string key, .slice pe attrs.length cape]) := Lib.hid (by rw [hW0]; exact (Blk.new _ _ _).alloc _)
  have HX : Hid (Blk W0 (w.heap.size + 1) 34 #[.int .i64 x.k, .int .i64 x.n, .string x.s, .bool x.b]) := Lib.hid (by rw [hW0]; simpa using Blk.new (w.alloc (.cells #[.string key, .slice pe attrs.length cape] 43)) 34 #[.int .i64 x.k, .int .i64 x.n, .string x.s, .bool x.b])
  have HA := Lib.hid (hA.later hB0)
  have HE := Lib.hid (hE.later hB0)
  have HB0 := Lib.hid hB0
  have HW0 := Lib.hid hW0
  clear hA hE hB0 hW0
  go_enter Try.func4, Try.ntmps4
  go_wp2
  rw [← HW0.out]
  go_loopw [11] (fun i wr => ∃ k : Nat, k ≤ l.length ∧ i = .int .i64 k ∧ Hid (Below W0.heap.size W0 wr)) (fun i _ => l.length - (intOf i).toNat)
  case atStart => exact ⟨0, Nat.zero_le _, rfl, Lib.hid (Below.refl _ _)⟩
  case round =>
    obtain ⟨k, hk, rfl, HB⟩ := hrel
    by_cases hkl : k < l.length
    · obtain ⟨p1, cap1, b, o, hv, hp, hb, h4⟩ := seven_at (HA.out.later HB.out).1 hkl
      simp only [Value.slice.injEq] at hv
      obtain ⟨rfl, _, rfl⟩ := hv
      have hidx := idx_c3 p b o l.length cap k hp hkl
      have HSt := Lib.hid ((HA.out.at hkl).later HB.out)
      obtain ⟨c, hx⟩ : ∃ c, l.getD k default = c := ⟨_, rfl⟩
      rw [hx] at h4 HSt
      obtain ⟨c0, c1, c2, c3, c4, c5, c6⟩ := h4
      obtain ⟨W1, hW1⟩ : ∃ W1, W1 = wr.alloc (.cells #[.string c.nm, .int .i64 c.op, .int .i64 c.v.k, .int .i64 c.v.n, .string c.v.s, .bool c.v.b, .slice c.sp c.set.length c.sc] 37) := ⟨_, rfl⟩
      have hB1 : Below wr.heap.size wr W1 := by rw [hW1]; exact below_one _ _
      have hK1 : Blk W1 wr.heap.size 37 #[.string c.nm, .int .i64 c.op, .int .i64 c.v.k, .int .i64 c.v.n, .string c.v.s, .bool c.v.b, .slice c.sp c.set.length c.sc] := by rw [hW1]; exact Blk.new _ _ _
      have HK1 := Lib.hid hK1
      have HB1 := Lib.hid (then_ HB.out hB1)
      have HH := Lib.hid (fun W (h : Below W1.heap.size W1 W) => holds_any c x W ((HSt.out.later hB1).later h))
      have HR := Lib.hid (fun W (h : Below W1.heap.size W1 W) => rholds_any c x W ((HSt.out.later hB1).later h))
      generalize holdsB c x = r at HH HR
      have HW1 := Lib.hid hW1
      clear hx hp hb hK1 hB1 hW1
      go_wp2_with fail
      rw [← HW1.out]
      clear c0 c1 c2 c3 c4 c5 c6
      by_cases h100 : k < 100
      · have hd : (k : Int) < 100 := by omega
        have hx1 := HX.out.later HB1.out
        have e0 := fun (z : Later W1) => Later.cell (HK1.out.cell 0 rfl) z
        have e1 := fun (z : Later W1) => Later.cell (HK1.out.cell 1 rfl) z
        have e2 := fun (z : Later W1) => Later.cell (HK1.out.cell 2 rfl) z
        have e3 := fun (z : Later W1) => Later.cell (HK1.out.cell 3 rfl) z
        have e4 := fun (z : Later W1) => Later.cell (HK1.out.cell 4 rfl) z
        have e5 := fun (z : Later W1) => Later.cell (HK1.out.cell 5 rfl) z
        have e6 := fun (z : Later W1) => Later.cell (HK1.out.cell 6 rfl) z
        have a0 := fun (z : Later W1) => Later.cell (hx1.cell 0 rfl) z
        have a1 := fun (z : Later W1) => Later.cell (hx1.cell 1 rfl) z
        have a2 := fun (z : Later W1) => Later.cell (hx1.cell 2 rfl) z
        have a3 := fun (z : Later W1) => Later.cell (hx1.cell 3 rfl) z
        clear hx1
        go_wp2_with fail
        refine wp_region_later (by kernel_rfl) (by kernel_rfl) ?_
        repeat (quiet_step ((first | (go_at_call 22; exact later_call _ (HH.out _ (Later.bel _))) | (go_at_call 23; exact later_call _ (HR.out _ (Later.bel _))))))
        refine wpQuiet_nil ?_
        intro wz hw'
        obtain ⟨⟨_, hbz⟩, rfl⟩ := hw'
        have HBz := Lib.hid (then_ HB1.out hbz)
        clear hbz e0 e1 e2 e3 e4 e5 e6 a0 a1 a2 a3
        go_wp2_with fail
        go_roundw
        case rel => exact ⟨k + 1, by omega, by simp, HBz⟩
        case measure => simp [intOf]; omega
      · have hd : decide ((k : Int) < 100) = false := by simp; omega
        go_wp2_with fail
        go_quiet (fail)
        have HBz := Lib.hid (bel_drewN HB1.out nq)
        go_wp2_with fail
        go_roundw
        case rel => exact ⟨k + 1, by omega, by simp, HBz⟩
        case measure => simp [intOf]; omega
    · have hke : k = l.length := by omega
      subst hke
      have HM := Lib.hid (fun W (h : Below wr.heap.size wr W) => matches_any _ l key _ attrs W (HA.out.later (then_ HB.out h)) (HE.out.later (then_ HB.out h)))
      have HR := Lib.hid (fun W (h : Below wr.heap.size wr W) => rmatches_any _ l key _ attrs W (HA.out.later (then_ HB.out h)) (HE.out.later (then_ HB.out h)))
      generalize matchesB l attrs = r at HM HR
      have hk1 := HK.out.later HB.out
      have g0 := fun (z : Later wr) => Later.cell (hk1.cell 0 rfl) z
      have g1 := fun (z : Later wr) => Later.cell (hk1.cell 1 rfl) z
      clear hk1
      go_wp2_with fail
      refine wp_region_later (by kernel_rfl) (by kernel_rfl) ?_
      repeat (quiet_step ((first | (go_at_call 21; exact later_call _ (awake_any _)) | (go_at_call 24; exact later_call _ (HM.out _ (Later.bel _))) | (go_at_call 25; exact later_call _ (HR.out _ (Later.bel _))))))
      refine wpQuiet_nil ?_
      intro wz hw'
      obtain ⟨⟨_, hbz⟩, rfl⟩ := hw'
      have HBz := Lib.hid (then_ HB0.out (then_ HB.out hbz))
      clear hbz g0 g1
      go_wp2_with fail
      go_ret
      exact ⟨ret_bool (by simp), HBz.out⟩
end Go.Proofs.Ytpdlgkneeilclaa.Gm
