/- The walk of the statement PredAsks, in one case. -/
import Derived.Test.YtpdlgkneeilclaaLaa
set_option linter.unusedSimpArgs false
set_option linter.unusedVariables false
namespace Go.Proofs.Ytpdlgkneeilclaa.Gm
open Go Go.RowKit
attribute [local go_sem ↓] Go.wp_at_zero Go.wp_at_succ

set_option maxHeartbeats 8000000 in
set_option maxRecDepth 100000 in
theorem pasks_apart (v x y : Vl) (w : World) (hk : ¬ v.k = x.k) : Calls Try.prog 7 #[vv v, vv x, vv y] w (Gives (.bool true) w) := by
  obtain ⟨W0, hW0⟩ : ∃ W0, W0 = ((w.alloc (.cells #[.int .i64 v.k, .int .i64 v.n, .string v.s, .bool v.b] 34)).alloc (.cells #[.int .i64 x.k, .int .i64 x.n, .string x.s, .bool x.b] 34)).alloc (.cells #[.int .i64 y.k, .int .i64 y.n, .string y.s, .bool y.b] 34) := ⟨_, rfl⟩
  have hB0 : Below w.heap.size w W0 := by rw [hW0]; exact (((Below.refl _ w).alloc (Nat.le_refl _) _).alloc (by simp) _).alloc (by simp; omega) _
  have k0 : Blk W0 w.heap.size 34 #[.int .i64 v.k, .int .i64 v.n, .string v.s, .bool v.b] := by rw [hW0]; exact ((Blk.new _ _ _).alloc _).alloc _
  have k1 : Blk W0 (w.heap.size + 1) 34 #[.int .i64 x.k, .int .i64 x.n, .string x.s, .bool x.b] := by
    rw [hW0]; refine Blk.alloc ?_ _; simpa using Blk.new (w.alloc (.cells #[.int .i64 v.k, .int .i64 v.n, .string v.s, .bool v.b] 34)) 34 #[.int .i64 x.k, .int .i64 x.n, .string x.s, .bool x.b]
  have k2 : Blk W0 (w.heap.size + 2) 34 #[.int .i64 y.k, .int .i64 y.n, .string y.s, .bool y.b] := by
    rw [hW0]; simpa using Blk.new ((w.alloc (.cells #[.int .i64 v.k, .int .i64 v.n, .string v.s, .bool v.b] 34)).alloc (.cells #[.int .i64 x.k, .int .i64 x.n, .string x.s, .bool x.b] 34)) 34 #[.int .i64 y.k, .int .i64 y.n, .string y.s, .bool y.b]
  have fv : Four W0 w.heap.size 0 v := ⟨k0.cell 0 rfl, k0.cell 1 rfl, k0.cell 2 rfl, k0.cell 3 rfl⟩
  have fx : Four W0 (w.heap.size + 1) 0 x := ⟨k1.cell 0 rfl, k1.cell 1 rfl, k1.cell 2 rfl, k1.cell 3 rfl⟩
  have fy : Four W0 (w.heap.size + 2) 0 y := ⟨k2.cell 0 rfl, k2.cell 1 rfl, k2.cell 2 rfl, k2.cell 3 rfl⟩
  have hask := fun (op : Int) W (hb : Below W0.heap.size W0 W) => asks1 op x v (w.heap.size + 1) w.heap.size W (fx.later hb) (fv.later hb)
  have hgo := goes_of x v
  have hin := fun W h => holds_any ⟨sA, 9, default, some ⟨W, 0, none⟩, 2, [y, x]⟩ v h
  obtain ⟨h, hh⟩ : ∃ h : Int → Bool, (fun op => holdsB ⟨sA, op, x, none, 0, []⟩ v) = h := ⟨_, rfl⟩
  have hask' : ∀ (op : Int) W, Below W0.heap.size W0 W → Calls Try.prog 26 #[.int .i64 op, .pointer (some ⟨w.heap.size + 1, 0, none⟩), .pointer (some ⟨w.heap.size, 0, none⟩)] W (Gives (.bool (h op)) W) := by
    intro op W hb; rw [← hh]; exact hask op W hb
  rw [hh] at hgo
  have HAsk := Lib.hid hask'
  have HGo := Lib.hid hgo
  have HFv := Lib.hid fv
  have HFx := Lib.hid fx
  have HFy := Lib.hid fy
  have HB0 := Lib.hid hB0
  have HW0 := Lib.hid hW0
  have HCm := Lib.hid (fun W => compare_any v.k v.n v.s v.b y.k y.n y.s y.b W)
  have hcy : cmpV v.k v.n v.s v.b y.k y.n y.s y.b = cv v y := rfl
  rw [hcy] at HCm
  have h1 : h 1 = true := hgo.has
  clear hask hask' hgo hin hh fv fx fy k0 k1 k2 hB0 hW0 hcy
  have hsm : (v.k == x.k) = false := by simpa using hk
  have e2 : h 2 = false := by rw [HGo.out.eq, hsm]; rfl
  have e3 : h 3 = false := by rw [HGo.out.ne, hsm]; rfl
  have e4 : h 4 = false := by rw [HGo.out.lt, hsm]; rfl
  have e5 : h 5 = false := by rw [HGo.out.le, hsm]; rfl
  have e6 : h 6 = false := by rw [HGo.out.gt, hsm]; rfl
  have e7 : h 7 = false := by rw [HGo.out.ge, hsm]; rfl
  have e8 : h 8 = false := by
    cases h8 : h 8
    · rfl
    · have := (HGo.out.pre h8).1; rw [hsm] at this; cases this
  have hne : (v.k != x.k) = true := by simpa using hk
  have HA := fun op W hb => HAsk.out op W hb
  have A1 := Lib.hid (HA 1); have A2 := Lib.hid (HA 2); have A3 := Lib.hid (HA 3); have A4 := Lib.hid (HA 4); have A5 := Lib.hid (HA 5); have A6 := Lib.hid (HA 6); have A7 := Lib.hid (HA 7); have A8 := Lib.hid (HA 8)
  rw [h1] at A1; rw [e2] at A2; rw [e3] at A3; rw [e4] at A4; rw [e5] at A5; rw [e6] at A6; rw [e7] at A7; rw [e8] at A8
  clear hsm hk e2 e3 e4 e5 e6 e7 e8 h1 HA HGo
  go_enter Try.func7, Try.ntmps7
  go_wp2_with fail
  rw [← HW0.out]
  refine (A2.out W0 (Below.refl _ _)).mono ?_; rintro e w1 ⟨rfl, b1⟩
  go_wp2_with fail
  refine (A3.out w1 b1).mono ?_; rintro e w2 ⟨rfl, b2⟩
  have b2 := then_ b1 b2
  go_wp2_with fail
  refine (A4.out w2 b2).mono ?_; rintro e w3 ⟨rfl, b3⟩
  have b3 := then_ b2 b3
  go_wp2_with fail
  refine (A5.out w3 b3).mono ?_; rintro e w4 ⟨rfl, b4⟩
  have b4 := then_ b3 b4
  go_wp2_with fail
  refine (A6.out w4 b4).mono ?_; rintro e w5 ⟨rfl, b5⟩
  have b5 := then_ b4 b5
  go_wp2_with fail
  refine (A7.out w5 b5).mono ?_; rintro e w6 ⟨rfl, b6⟩
  have hb6 := then_ b5 b6
  have B6 := Lib.hid hb6
  obtain ⟨v0, _, _, _⟩ := HFv.out.later hb6
  obtain ⟨x0, _, _, _⟩ := HFx.out.later hb6
  clear b1 b2 b3 b4 b5 b6 hb6
  go_wp2_with fail
  refine (awake_any _).mono ?_; rintro e w7 ⟨rfl, b7⟩
  have B7 := Lib.hid (then_ B6.out b7)
  clear b7 v0 x0
  go_wp2_with fail
  refine (A8.out w7 B7.out).mono ?_; rintro e w8 ⟨rfl, b8⟩
  have B8 := Lib.hid (then_ B7.out b8)
  clear b8
  go_wp2_with fail
  refine (A1.out w8 B8.out).mono ?_; rintro e w9 ⟨rfl, b9⟩
  have B9 := Lib.hid (then_ HB0.out (then_ B8.out b9))
  clear b9
  go_wp2_with fail
  go_ret
  exact ⟨rfl, B9.out⟩
end Go.Proofs.Ytpdlgkneeilclaa.Gm
