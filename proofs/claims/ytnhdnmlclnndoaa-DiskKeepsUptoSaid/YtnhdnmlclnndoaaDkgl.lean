/- Layer 10: ask, for one closure. -/
import Derived.Test.YtnhdnmlclnndoaaDkg
set_option linter.unusedSimpArgs false
set_option linter.unusedVariables false
namespace Go.Proofs.Ytnhdnmlclnndoaa.Gm
open Go Go.RowKit Go.Maps
attribute [local go_sem ↓] Go.wp_at_zero Go.wp_at_succ

set_option maxHeartbeats 4000000 in
set_option maxRecDepth 100000 in
theorem ask_lacks (g bm : Nat) (q fu : Int) (c0 c1 : Value) (ans : Int → Bool) (w : World) (h : Blk w g 65 #[.map (some bm), .int .i64 q, .int .i64 fu, .bool false])
    (hans : ∀ W, Below w.heap.size w W → ∀ err, err10 err → Calls Try.prog 77 #[.int .i64 err, c0, c1] W (Gives (.bool (ans err)) W)) :
    Calls Try.prog 48 #[.pointer (some ⟨g, 0, none⟩), .func (.func 77) #[] #[c0, c1]] w (Gives (.int .i64 (firstE ans)) w) := by
  have HM := Lib.hid (dmade_yes g bm q fu false w h)
  have HH := Lib.hid h
  have HA := Lib.hid hans
  clear h hans
  go_enter Try.func48, Try.ntmps48
  go_wp2_with fail
  refine HM.out.mono ?_; rintro e w1 ⟨rfl, b1⟩
  have h3 := (HH.out.later b1).cell 3 rfl
  have hl := (HH.out.later b1).lt
  have HB := Lib.hid b1
  clear b1
  go_wp2_with fail
  clear h3 hl
  go_loopw [15, 6] (fun i _ wr => ∃ k : Nat, k ≤ 4 ∧ i = .int .i64 k ∧ Hid (preE ans k) ∧ Hid (Below w.heap.size w wr)) (fun i _ _ => 4 - (intOf i).toNat)
  case atStart => exact ⟨0, by omega, rfl, Lib.hid ⟨fun h => by omega, fun h => by omega, fun h => by omega, fun h => by omega⟩, HB⟩
  case round =>
    obtain ⟨k, hk, rfl, HP, HBr⟩ := hrel
    rcases (show k = 0 ∨ k = 1 ∨ k = 2 ∨ k = 3 ∨ k = 4 by omega) with rfl | rfl | rfl | rfl | rfl
    · cases hv : ans 1 with
      | true =>
        have HC := Lib.hid (HA.out _ HBr.out 1 (by unfold err10; omega))
        rw [hv] at HC
        have HV : Hid (firstE ans = 1) := Lib.hid (by simp [firstE, hv])
        clear hv
        have hix := (idx_err wr).1 ()
        go_wp2_with fail
        refine HC.out.mono ?_; rintro e w2 ⟨rfl, b2⟩
        have HB2 := Lib.hid (then_ HBr.out b2)
        clear b2 hix
        go_wp2_with fail
        go_ret
        exact ⟨ret_int (by rw [HV.out]), HB2.out⟩
      | false =>
        have HC := Lib.hid (HA.out _ HBr.out 1 (by unfold err10; omega))
        rw [hv] at HC
        have HV : Hid (preE ans 1) := Lib.hid ⟨fun _ => hv, fun h => by omega, fun h => by omega, fun h => by omega⟩
        clear hv
        have hix := (idx_err wr).1 ()
        go_wp2_with fail
        refine HC.out.mono ?_; rintro e w2 ⟨rfl, b2⟩
        have HB2 := Lib.hid (then_ HBr.out b2)
        clear b2 hix
        go_wp2_with fail
        go_roundw
        case rel => exact ⟨1, by omega, by simp, HV, HB2⟩
        case measure => simp [intOf]
    · cases hv : ans 6 with
      | true =>
        have HC := Lib.hid (HA.out _ HBr.out 6 (by unfold err10; omega))
        rw [hv] at HC
        have HV : Hid (firstE ans = 6) := Lib.hid (by simp [firstE, hv, HP.out.1 (by omega)])
        clear hv
        have hix := (idx_err wr).2.1
        go_wp2_with fail
        refine HC.out.mono ?_; rintro e w2 ⟨rfl, b2⟩
        have HB2 := Lib.hid (then_ HBr.out b2)
        clear b2 hix
        go_wp2_with fail
        go_ret
        exact ⟨ret_int (by rw [HV.out]), HB2.out⟩
      | false =>
        have HC := Lib.hid (HA.out _ HBr.out 6 (by unfold err10; omega))
        rw [hv] at HC
        have HV : Hid (preE ans 2) := Lib.hid ⟨fun _ => HP.out.1 (by omega), fun _ => hv, fun h => by omega, fun h => by omega⟩
        clear hv
        have hix := (idx_err wr).2.1
        go_wp2_with fail
        refine HC.out.mono ?_; rintro e w2 ⟨rfl, b2⟩
        have HB2 := Lib.hid (then_ HBr.out b2)
        clear b2 hix
        go_wp2_with fail
        go_roundw
        case rel => exact ⟨2, by omega, by simp, HV, HB2⟩
        case measure => simp [intOf]
    · cases hv : ans 9 with
      | true =>
        have HC := Lib.hid (HA.out _ HBr.out 9 (by unfold err10; omega))
        rw [hv] at HC
        have HV : Hid (firstE ans = 9) := Lib.hid (by simp [firstE, hv, HP.out.1 (by omega), HP.out.2.1 (by omega)])
        clear hv
        have hix := (idx_err wr).2.2.1
        go_wp2_with fail
        refine HC.out.mono ?_; rintro e w2 ⟨rfl, b2⟩
        have HB2 := Lib.hid (then_ HBr.out b2)
        clear b2 hix
        go_wp2_with fail
        go_ret
        exact ⟨ret_int (by rw [HV.out]), HB2.out⟩
      | false =>
        have HC := Lib.hid (HA.out _ HBr.out 9 (by unfold err10; omega))
        rw [hv] at HC
        have HV : Hid (preE ans 3) := Lib.hid ⟨fun _ => HP.out.1 (by omega), fun _ => HP.out.2.1 (by omega), fun _ => hv, fun h => by omega⟩
        clear hv
        have hix := (idx_err wr).2.2.1
        go_wp2_with fail
        refine HC.out.mono ?_; rintro e w2 ⟨rfl, b2⟩
        have HB2 := Lib.hid (then_ HBr.out b2)
        clear b2 hix
        go_wp2_with fail
        go_roundw
        case rel => exact ⟨3, by omega, by simp, HV, HB2⟩
        case measure => simp [intOf]
    · cases hv : ans 7 with
      | true =>
        have HC := Lib.hid (HA.out _ HBr.out 7 (by unfold err10; omega))
        rw [hv] at HC
        have HV : Hid (firstE ans = 7) := Lib.hid (by simp [firstE, hv, HP.out.1 (by omega), HP.out.2.1 (by omega), HP.out.2.2.1 (by omega)])
        clear hv
        have hix := (idx_err wr).2.2.2
        go_wp2_with fail
        refine HC.out.mono ?_; rintro e w2 ⟨rfl, b2⟩
        have HB2 := Lib.hid (then_ HBr.out b2)
        clear b2 hix
        go_wp2_with fail
        go_ret
        exact ⟨ret_int (by rw [HV.out]), HB2.out⟩
      | false =>
        have HC := Lib.hid (HA.out _ HBr.out 7 (by unfold err10; omega))
        rw [hv] at HC
        have HV : Hid (preE ans 4) := Lib.hid ⟨fun _ => HP.out.1 (by omega), fun _ => HP.out.2.1 (by omega), fun _ => HP.out.2.2.1 (by omega), fun _ => hv⟩
        clear hv
        have hix := (idx_err wr).2.2.2
        go_wp2_with fail
        refine HC.out.mono ?_; rintro e w2 ⟨rfl, b2⟩
        have HB2 := Lib.hid (then_ HBr.out b2)
        clear b2 hix
        go_wp2_with fail
        go_roundw
        case rel => exact ⟨4, by omega, by simp, HV, HB2⟩
        case measure => simp [intOf]
    · have HV : Hid (firstE ans = 0) := Lib.hid (by simp [firstE, HP.out.1 (by omega), HP.out.2.1 (by omega), HP.out.2.2.1 (by omega), HP.out.2.2.2 (by omega)])
      go_wp2_with fail
      go_ret
      exact ⟨ret_int (by rw [HV.out]), HBr.out⟩
end Go.Proofs.Ytnhdnmlclnndoaa.Gm
