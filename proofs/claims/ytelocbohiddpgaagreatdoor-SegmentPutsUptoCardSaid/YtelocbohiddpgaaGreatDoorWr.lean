/- The contracts of the document's laying: Own, Form, Num, Int, Bytes. -/
import Derived.Test.YtelocbohiddpgaaGreatDoorGb
import Derived.Test.YtelocbohiddpgaaGreatDoorWro
import Derived.Test.YtelocbohiddpgaaGreatDoorWf
set_option linter.unusedSimpArgs false
set_option linter.unusedVariables false
namespace Go.Proofs.YtelocbohiddpgaaGreatDoor
open Go.RowKit Gm
attribute [local go_sem ↓] Go.wp_at_zero Go.wp_at_succ

set_option maxHeartbeats 1000000 in
theorem rform_any (n : Nat) (hn : n < 18446744073709551616) (w : World) : Calls Tryz.prog 66 #[.int .u64 n] w (MadeB (formN n) w) := by
  obtain ⟨i0, ii, iz0, iz1, iz2⟩ := info_parts infoB
  have HL := Lib.hid (formN_length hn)
  go_enter Tryz.func66, Tryz.ntmps66
  go_wp2_with fail
  go_loopw [0, 3] (fun mv v wr => ∃ (m : Nat) (pre : List UInt8), mv = .int .u64 m ∧ m ≤ n ∧ OwnB wr w.heap.size v pre ∧ pre ++ formN m = formN n ∧ Below w.heap.size w wr) (fun mv _ _ => (intOf mv).toNat)
  case atStart => exact ⟨n, [], rfl, Nat.le_refl _, OwnB.nil _ _, rfl, Below.refl _ _⟩
  case round =>
    obtain ⟨m, pre, rfl, hm, hO, hpre, hbel⟩ := hrel
    obtain ⟨pv, capv, rfl⟩ := hO.form
    have HO := Lib.hid hO
    have HPre := Lib.hid hpre
    have HB := Lib.hid hbel
    have hsz := hbel.size
    have hlp : pre.length ≤ 10 := by have h := congrArg List.length hpre; rw [List.length_append] at h; have := HL.out.2; omega
    have hlp2 : pre.length + 1 ≤ 11 := by omega
    clear hO hpre hbel
    by_cases hm8 : 128 ≤ m
    · have d1 : decide ((128 : Int) ≤ (m : Int)) = true := by simp; omega
      have hc : (128 : Int) + (m : Int) % 128 = (((UInt8.ofNat (128 + m % 128)).toNat : Nat) : Int) := by rw [UInt8.toNat_ofNat']; omega
      have HC := Lib.hid hc
      have HF := Lib.hid (formN_ge hm8)
      clear hc
      go_wp2_with (at_builtin; refine wpList_append_src rfl _ _ 23 rfl w.heap.size 5 i0 (.int .u8 0) 1 1 Tryz.underlying23 ii iz0 iz1 iz2 rfl (by decide) _ _ _ rfl (World.ownsRow.alloc HO.out _) _ 1 (cellsB [UInt8.ofNat (128 + m % 128)]) rfl (src_b rfl _ _ HC.out) (pre.length + 1) rfl (by unfold maxLen; omega) (by omega) (by simp; omega) ?_; intro pB capB w2 hown2 hgrow2; have HO2 := Lib.hid hown2; have HB2 := Lib.hid ((HB.out.alloc hsz (.cells #[.int .u8 (128 + (m : Int) % 128)] 5)).grown hgrow2 (by simp; omega) (fun j hj => (World.ownsRow.lt HO.out j hj).1)); clear hown2 hgrow2)
      go_roundw
      case rel => exact ⟨m / 128, pre ++ [UInt8.ofNat (128 + m % 128)], by simp, by omega, by simpa using ownB_app HO2.out (by simp), by rw [← HPre.out, HF.out]; simp, HB2.out⟩
      case measure => simp [intOf]; omega
    · have d1 : decide ((128 : Int) ≤ (m : Int)) = false := by simp; omega
      have hc : (m : Int) = (((UInt8.ofNat m).toNat : Nat) : Int) := by rw [UInt8.toNat_ofNat']; omega
      have HC := Lib.hid hc
      have HF : Hid (pre ++ [UInt8.ofNat m] = formN n) := Lib.hid (by rw [← HPre.out, formN_lt (by omega)])
      clear hc
      go_wp2_with (at_builtin; refine wpList_append_src rfl _ _ 23 rfl w.heap.size 5 i0 (.int .u8 0) 1 1 Tryz.underlying23 ii iz0 iz1 iz2 rfl (by decide) _ _ _ rfl (World.ownsRow.alloc HO.out _) _ 1 (cellsB [UInt8.ofNat m]) rfl (src_b rfl _ _ HC.out) (pre.length + 1) rfl (by unfold maxLen; omega) (by omega) (by simp; omega) ?_; intro pB capB w2 hown2 hgrow2; have HO2 := Lib.hid hown2; have HB2 := Lib.hid ((HB.out.alloc hsz (.cells #[.int .u8 (m : Int)] 5)).grown hgrow2 (by simp; omega) (fun j hj => (World.ownsRow.lt HO.out j hj).1)); clear hown2 hgrow2)
      go_ret
      refine ⟨_, rfl, ?_, HB2.out⟩
      rw [← HF.out]
      exact ownB_app HO2.out (by simp)

theorem rnum_any (v : Value) (L : List UInt8) (n : Nat) (hn : n < 18446744073709551616) (w : World) (hB : Bs w v L) (hL : L.length + 10 ≤ 140737488355328) : Calls Tryz.prog 29 #[v, .int .u64 n] w (MadeB (L ++ formN n) w) := by
  obtain ⟨i0, ii, iz0, iz1, iz2⟩ := info_parts infoB
  have HL := Lib.hid (formN_length hn)
  have HO := Lib.hid (rown_any v L w hB (by omega))
  have HF := Lib.hid (fun W => rform_any n hn W)
  obtain ⟨p, cap, rfl⟩ := hB.form
  clear hB
  go_enter Tryz.func29, Tryz.ntmps29
  go_wp2_with fail
  refine HO.out.mono ?_; rintro e w1 ⟨v1, rfl, hO1, b1⟩
  obtain ⟨p1, cap1, rfl⟩ := hO1.form
  have HO1 := Lib.hid hO1
  have HB1 := Lib.hid b1
  clear hO1 b1
  go_wp2_with fail
  refine (HF.out _).mono ?_; rintro e w2 ⟨v2, rfl, hO2, b2⟩
  obtain ⟨p2, cap2, rfl⟩ := hO2.form
  have HO2 := Lib.hid hO2
  have HO12 := Lib.hid (HO1.out.below b2)
  have HB2 := Lib.hid (then_ HB1.out b2)
  have hl2 : (formN n).length ≤ 10 := HL.out.2
  clear hO2 b2
  go_wp2_with (at_builtin; refine wpList_append_src rfl _ _ 23 rfl w.heap.size 5 i0 (.int .u8 0) 1 1 Tryz.underlying23 ii iz0 iz1 iz2 rfl (by decide) _ _ _ rfl HO12.out _ (formN n).length (cellsB (formN n)) rfl HO2.out.bs.src (L.length + (formN n).length) rfl (by unfold maxLen; omega) (by omega) HB2.out.size ?_; intro pB capB w3 hown3 hgrow3; have HO3 := Lib.hid hown3; have HB3 := Lib.hid (HB2.out.grown hgrow3 HB2.out.size (fun j hj => (World.ownsRow.lt HO12.out j hj).1)); clear hown3 hgrow3)
  go_ret
  exact ⟨_, rfl, ownB_app HO3.out rfl, HB3.out⟩

end Go.Proofs.YtelocbohiddpgaaGreatDoor
