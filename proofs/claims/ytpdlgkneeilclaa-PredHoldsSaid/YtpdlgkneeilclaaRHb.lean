/- The contract of the document's Holds: In and Prefix; all of them together. -/
import Derived.Test.YtpdlgkneeilclaaRHa
set_option linter.unusedSimpArgs false
set_option linter.unusedVariables false
namespace Go.Proofs.Ytpdlgkneeilclaa.Gm
open Go Go.RowKit
attribute [local go_sem ↓] Go.wp_at_zero Go.wp_at_succ

set_option maxHeartbeats 4000000 in
set_option maxRecDepth 100000 in
theorem rholds_9 (nm : ByteArray) (v : Vl) (sp : Option Addr) (sc : Nat) (w : World) (x : Vl) (l : List Vl) (hS : Vs w (.slice sp l.length sc) l) : Calls Try.prog 23 #[.agg #[.string nm, .int .i64 9, .int .i64 v.k, .int .i64 v.n, .string v.s, .bool v.b, .slice sp l.length sc], vv x] w (Gives (.bool (l.any fun y => cv x y == 0)) w) := by
  have hla := hS.2
  obtain ⟨f, hf⟩ : ∃ f : Vl → Bool, (fun y => cv x y == 0) = f := ⟨_, rfl⟩
  have HFe : Hid (∀ y, (cv x y == 0) = f y) := Lib.hid (fun y => by rw [← hf])
  rw [hf]
  obtain ⟨W0, hW0⟩ : ∃ W0, W0 = (w.alloc (.cells #[.string nm, .int .i64 9, .int .i64 v.k, .int .i64 v.n, .string v.s, .bool v.b, .slice sp l.length sc] 37)).alloc (.cells #[.int .i64 x.k, .int .i64 x.n, .string x.s, .bool x.b] 34) := ⟨_, rfl⟩
  obtain ⟨k1, k2, hB0⟩ := two_boxes nm v sp l.length sc w x (op := 9) (w1 := W0) (by rw [hW0]; exact Below.refl _ _)
  have HK1 := Lib.hid k1
  have HK2 := Lib.hid k2
  have HS := Lib.hid (hS.later hB0)
  have HB0 := Lib.hid hB0
  have HW0 := Lib.hid hW0
  clear hS hf hW0 k1 k2 hB0
  go_enter Try.func23, Try.ntmps23
  go_wp2
  rw [← HW0.out]
  go_loopw [5] (fun i wr => ∃ k : Nat, k ≤ l.length ∧ i = .int .i64 k ∧ (l.drop k).any f = l.any f ∧ Hid (Below W0.heap.size W0 wr)) (fun i _ => l.length - (intOf i).toNat)
  case atStart => exact ⟨0, Nat.zero_le _, rfl, rfl, Lib.hid (Below.refl _ _)⟩
  case round =>
    obtain ⟨k, hk, rfl, hall, HB⟩ := hrel
    have HAl := Lib.hid hall
    clear hall
    have y6 := (HK1.out.later HB.out).cell 6 rfl
    by_cases hkl : k < l.length
    · obtain ⟨p1, cap1, b, o, hv, hp, hb, h4⟩ := four_at (HS.out.later HB.out).1 hkl
      simp only [Value.slice.injEq] at hv
      obtain ⟨rfl, _, rfl⟩ := hv
      have hidx := idx_v1 sp b o l.length sc k hp hkl
      have HS1 := Lib.hid (any_step (f := f) hkl)
      obtain ⟨y, hy⟩ : ∃ y, l.getD k default = y := ⟨_, rfl⟩
      rw [hy] at h4 HS1
      have HC := Lib.hid (fun W => refcmp_any x.k x.n x.s x.b y.k y.n y.s y.b W)
      have hcv : cmpV x.k x.n x.s x.b y.k y.n y.s y.b = cv x y := rfl
      rw [hcv] at HC
      have hfy := HFe.out y
      generalize cv x y = r at HC hfy
      have e6 := fun (z : Later wr) => Later.cell y6 z
      have a0 := fun (z : Later wr) => Later.cell ((HK2.out.later HB.out).cell 0 rfl) z
      have a1 := fun (z : Later wr) => Later.cell ((HK2.out.later HB.out).cell 1 rfl) z
      have a2 := fun (z : Later wr) => Later.cell ((HK2.out.later HB.out).cell 2 rfl) z
      have a3 := fun (z : Later wr) => Later.cell ((HK2.out.later HB.out).cell 3 rfl) z
      have b0 := fun (z : Later wr) => Later.cell h4.1 z
      have b1 := fun (z : Later wr) => Later.cell h4.2.1 z
      have b2 := fun (z : Later wr) => Later.cell h4.2.2.1 z
      have b3 := fun (z : Later wr) => Later.cell h4.2.2.2 z
      clear hy hp h4 hb hcv
      cases hfx : f y with
      | true =>
        have HF : Hid (l.any f = true) := Lib.hid (by rw [← HAl.out, HS1.out, hfx]; rfl)
        rw [hfx] at hfy
        clear hfx
        go_wp2_with fail
        refine wp_region_later (by kernel_rfl) (by kernel_rfl) ?_
        repeat (quiet_step ((first | (go_at_call 44; exact later_call _ (HC.out _)))))
        refine wpQuiet_nil ?_
        intro wz hw'
        obtain ⟨⟨_, hbz⟩, rfl⟩ := hw'
        have HBz := Lib.hid (then_ HB0.out (then_ HB.out hbz))
        clear hbz e6 a0 a1 a2 a3 b0 b1 b2 b3 y6
        go_wp2_with fail
        go_ret
        exact ⟨ret_bool HF.out.symm, HBz.out⟩
      | false =>
        have HF : Hid ((l.drop (k + 1)).any f = l.any f) := Lib.hid (by rw [← HAl.out, HS1.out, hfx]; rfl)
        rw [hfx] at hfy
        clear hfx
        go_wp2_with fail
        refine wp_region_later (by kernel_rfl) (by kernel_rfl) ?_
        repeat (quiet_step ((first | (go_at_call 44; exact later_call _ (HC.out _)))))
        refine wpQuiet_nil ?_
        intro wz hw'
        obtain ⟨⟨_, hbz⟩, rfl⟩ := hw'
        have HBz := Lib.hid (then_ HB.out hbz)
        clear hbz e6 a0 a1 a2 a3 b0 b1 b2 b3 y6
        go_wp2_with fail
        go_roundw
        case rel => exact ⟨k + 1, by omega, by simp, HF.out, HBz⟩
        case measure => simp [intOf]; omega
    · have hke : k = l.length := by omega
      subst hke
      have HF : Hid (l.any f = false) := Lib.hid (by rw [← HAl.out, List.drop_length]; rfl)
      have HBz := Lib.hid (then_ HB0.out HB.out)
      go_wp2_with fail
      go_ret
      exact ⟨ret_bool HF.out.symm, HBz.out⟩
end Go.Proofs.Ytpdlgkneeilclaa.Gm
