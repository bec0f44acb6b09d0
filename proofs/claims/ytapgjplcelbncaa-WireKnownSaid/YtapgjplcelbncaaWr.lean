/- The contracts of the document's laying: Own, Form, Num, Int, Bytes. -/
import Derived.Test.YtapgjplcelbncaaGb
import Derived.Test.YtapgjplcelbncaaWf
set_option linter.unusedSimpArgs false
set_option linter.unusedVariables false
namespace Go.Proofs.Ytapgjplcelbncaa
open Go.RowKit Gm
attribute [local go_sem ↓] Go.wp_at_zero Go.wp_at_succ

theorem rown_any (v : Value) (L : List UInt8) (w : World) (hB : Bs w v L) (hL : L.length ≤ 140737488355328) : Calls Try.prog 8 #[v] w (MadeB L w) := by
  obtain ⟨i0, ii, iz0, iz1, iz2⟩ := info_parts infoB
  have HSrc := Lib.hid hB.src
  obtain ⟨p, cap, rfl⟩ := hB.form
  clear hB
  go_enter Try.func8, Try.ntmps8
  go_wp2_with (at_builtin; refine wpList_append_src rfl _ _ 22 rfl w.heap.size 5 i0 (.int .u8 0) 1 1 Try.underlying22 ii iz0 iz1 iz2 rfl (by decide) (.slice none 0 0) 0 [] rfl (World.ownsRow_nil _ _ _ _) _ L.length (cellsB L) rfl HSrc.out L.length (by omega) (by unfold maxLen; omega) (by omega) (Nat.le_refl _) ?_; intro pA capA w1 hown hgrow)
  go_ret
  exact ⟨_, rfl, hown, (Below.refl _ _).grown hgrow (Nat.le_refl _) (fun j hj => by simp [Value.ownBlock] at hj)⟩

set_option maxHeartbeats 1000000 in
theorem rform_any (n : Nat) (hn : n < 18446744073709551616) (w : World) : Calls Try.prog 32 #[.int .u64 n] w (MadeB (formN n) w) := by
  obtain ⟨i0, ii, iz0, iz1, iz2⟩ := info_parts infoB
  have HL := Lib.hid (formN_length hn)
  go_enter Try.func32, Try.ntmps32
  go_wp2_with fail
  go_loopw [0, 3] (fun mv v wr => ∃ (m : Nat) (pre : List UInt8), mv = .int .u64 m ∧ m ≤ n ∧ OwnB wr w.heap.size v pre ∧ pre ++ formN m = formN n ∧ Below w.heap.size w wr) (fun mv _ _ => (intOf mv).toNat)
  case atStart => exact ⟨n, [], rfl, Nat.le_refl _, OwnB.nil _ _, rfl, Below.refl _ _⟩
  case round =>
    obtain ⟨m, pre, rfl, hm, hO, hpre, hbel⟩ := hrel
    obtain ⟨pv, capv, rfl⟩ := hO.form
    have HO := Lib.hid hO
    have HPre := Lib.hid hpre
    have HB := Lib.hid hbel
    have hsz := hbel.size
    have hlp : pre.length ≤ 10 := by have h := congrArg List.length hpre; rw [List.length_append] at h; have := HL.out.2; omega
    have hlp2 : pre.length + 1 ≤ 11 := by omega
    clear hO hpre hbel
    by_cases hm8 : 128 ≤ m
    · have d1 : decide ((128 : Int) ≤ (m : Int)) = true := by simp; omega
      have hc : (128 : Int) + (m : Int) % 128 = (((UInt8.ofNat (128 + m % 128)).toNat : Nat) : Int) := by rw [UInt8.toNat_ofNat']; omega
      have HC := Lib.hid hc
      have HF := Lib.hid (formN_ge hm8)
      clear hc
      go_wp2_with (at_builtin; refine wpList_append_src rfl _ _ 22 rfl w.heap.size 5 i0 (.int .u8 0) 1 1 Try.underlying22 ii iz0 iz1 iz2 rfl (by decide) _ _ _ rfl (World.ownsRow.alloc HO.out _) _ 1 (cellsB [UInt8.ofNat (128 + m % 128)]) rfl (src_b rfl _ _ HC.out) (pre.length + 1) rfl (by unfold maxLen; omega) (by omega) (by simp; omega) ?_; intro pB capB w2 hown2 hgrow2; have HO2 := Lib.hid hown2; have HB2 := Lib.hid ((HB.out.alloc hsz (.cells #[.int .u8 (128 + (m : Int) % 128)] 5)).grown hgrow2 (by simp; omega) (fun j hj => (World.ownsRow.lt HO.out j hj).1)); clear hown2 hgrow2)
      go_roundw
      case rel => exact ⟨m / 128, pre ++ [UInt8.ofNat (128 + m % 128)], by simp, by omega, by simpa using ownB_app HO2.out (by simp), by rw [← HPre.out, HF.out]; simp, HB2.out⟩
      case measure => simp [intOf]; omega
    · have d1 : decide ((128 : Int) ≤ (m : Int)) = false := by simp; omega
      have hc : (m : Int) = (((UInt8.ofNat m).toNat : Nat) : Int) := by rw [UInt8.toNat_ofNat']; omega
      have HC := Lib.hid hc
      have HF : Hid (pre ++ [UInt8.ofNat m] = formN n) := Lib.hid (by rw [← HPre.out, formN_lt (by omega)])
      clear hc
      go_wp2_with (at_builtin; refine wpList_append_src rfl _ _ 22 rfl w.heap.size 5 i0 (.int .u8 0) 1 1 Try.underlying22 ii iz0 iz1 iz2 rfl (by decide) _ _ _ rfl (World.ownsRow.alloc HO.out _) _ 1 (cellsB [UInt8.ofNat m]) rfl (src_b rfl _ _ HC.out) (pre.length + 1) rfl (by unfold maxLen; omega) (by omega) (by simp; omega) ?_; intro pB capB w2 hown2 hgrow2; have HO2 := Lib.hid hown2; have HB2 := Lib.hid ((HB.out.alloc hsz (.cells #[.int .u8 (m : Int)] 5)).grown hgrow2 (by simp; omega) (fun j hj => (World.ownsRow.lt HO.out j hj).1)); clear hown2 hgrow2)
      go_ret
      refine ⟨_, rfl, ?_, HB2.out⟩
      rw [← HF.out]
      exact ownB_app HO2.out (by simp)

theorem rnum_any (v : Value) (L : List UInt8) (n : Nat) (hn : n < 18446744073709551616) (w : World) (hB : Bs w v L) (hL : L.length + 10 ≤ 140737488355328) : Calls Try.prog 13 #[v, .int .u64 n] w (MadeB (L ++ formN n) w) := by
  obtain ⟨i0, ii, iz0, iz1, iz2⟩ := info_parts infoB
  have HL := Lib.hid (formN_length hn)
  have HO := Lib.hid (rown_any v L w hB (by omega))
  have HF := Lib.hid (fun W => rform_any n hn W)
  obtain ⟨p, cap, rfl⟩ := hB.form
  clear hB
  go_enter Try.func13, Try.ntmps13
  go_wp2_with fail
  refine HO.out.mono ?_; rintro e w1 ⟨v1, rfl, hO1, b1⟩
  obtain ⟨p1, cap1, rfl⟩ := hO1.form
  have HO1 := Lib.hid hO1
  have HB1 := Lib.hid b1
  clear hO1 b1
  go_wp2_with fail
  refine (HF.out _).mono ?_; rintro e w2 ⟨v2, rfl, hO2, b2⟩
  obtain ⟨p2, cap2, rfl⟩ := hO2.form
  have HO2 := Lib.hid hO2
  have HO12 := Lib.hid (HO1.out.below b2)
  have HB2 := Lib.hid (then_ HB1.out b2)
  have hl2 : (formN n).length ≤ 10 := HL.out.2
  clear hO2 b2
  go_wp2_with (at_builtin; refine wpList_append_src rfl _ _ 22 rfl w.heap.size 5 i0 (.int .u8 0) 1 1 Try.underlying22 ii iz0 iz1 iz2 rfl (by decide) _ _ _ rfl HO12.out _ (formN n).length (cellsB (formN n)) rfl HO2.out.bs.src (L.length + (formN n).length) rfl (by unfold maxLen; omega) (by omega) HB2.out.size ?_; intro pB capB w3 hown3 hgrow3; have HO3 := Lib.hid hown3; have HB3 := Lib.hid (HB2.out.grown hgrow3 HB2.out.size (fun j hj => (World.ownsRow.lt HO12.out j hj).1)); clear hown3 hgrow3)
  go_ret
  exact ⟨_, rfl, ownB_app HO3.out rfl, HB3.out⟩

theorem rfolded_any (x : Int) (h1 : -9223372036854775808 ≤ x) (h2 : x ≤ 9223372036854775807) (w : World) : Calls Try.prog 33 #[.int .i64 x] w (Quits (.int .u64 (foldI x : Nat)) w) := by
  by_cases hx : 0 ≤ x
  · have d : decide ((0 : Int) ≤ x) = true := by simpa using hx
    go_enter Try.func33, Try.ntmps33
    go_wp2_with fail
    go_ret
    exact ⟨ret_int (by unfold foldI; rw [if_pos hx]; omega), rfl⟩
  · have d : decide ((0 : Int) ≤ x) = false := by simpa using hx
    go_enter Try.func33, Try.ntmps33
    go_wp2_with fail
    go_ret
    exact ⟨ret_int (by unfold foldI; rw [if_neg (by omega)]; omega), rfl⟩
theorem runfolded_any (n : Nat) (hn : n < 18446744073709551616) (w : World) : Calls Try.prog 39 #[.int .u64 n] w (Quits (.int .i64 (unfoldI n)) w) := by
  by_cases hx : n % 2 = 0
  · have d : (((n : Int) % 2) == 0) = true := by rw [beq_iff_eq]; omega
    go_enter Try.func39, Try.ntmps39
    go_wp2_with fail
    go_ret
    exact ⟨ret_int (by unfold unfoldI; rw [if_pos hx]; omega), rfl⟩
  · have d : (((n : Int) % 2) == 0) = false := by rw [beq_eq_false_iff_ne]; omega
    go_enter Try.func39, Try.ntmps39
    go_wp2_with fail
    go_ret
    exact ⟨ret_int (by unfold unfoldI; rw [if_neg hx]; omega), rfl⟩
theorem rint_any (v : Value) (L : List UInt8) (x : Int) (h1 : -9223372036854775808 ≤ x) (h2 : x ≤ 9223372036854775807) (w : World) (hB : Bs w v L) (hL : L.length + 10 ≤ 140737488355328) : Calls Try.prog 14 #[v, .int .i64 x] w (MadeB (L ++ formN (foldI x)) w) := by
  have HF := Lib.hid (rfolded_any x h1 h2 w)
  have hN := rnum_any v L (foldI x) (fold_lt h1 h2) w hB hL
  obtain ⟨M, hM⟩ : ∃ M, L ++ formN (foldI x) = M := ⟨_, rfl⟩
  rw [hM] at hN ⊢
  have HN := Lib.hid hN
  clear hN hM
  obtain ⟨p, cap, rfl⟩ := hB.form
  clear hB
  go_enter Try.func14, Try.ntmps14
  go_wp2_with fail
  refine HF.out.mono ?_; rintro e w1 ⟨rfl, rfl⟩
  go_wp2_with fail
  refine HN.out.mono ?_; rintro e w2 ⟨v2, rfl, hO2, b2⟩
  obtain ⟨p2, cap2, rfl⟩ := hO2.form
  go_wp2_with fail
  go_ret
  exact ⟨_, rfl, hO2, b2⟩
theorem rbytes_any (v : Value) (L : List UInt8) (u : Value) (S : List UInt8) (w : World) (hB : Bs w v L) (hS : Bs w u S) (hL : L.length + 10 + S.length ≤ 140737488355328) : Calls Try.prog 15 #[v, u] w (MadeB (L ++ formN S.length ++ S) w) := by
  obtain ⟨i0, ii, iz0, iz1, iz2⟩ := info_parts infoB
  have HL := Lib.hid (formN_length (v := S.length) (by omega))
  have hN := rnum_any v L S.length (by omega) w hB (by omega)
  have hlen : (L ++ formN S.length).length + S.length ≤ 140737488355328 := by rw [List.length_append]; have := HL.out.2; omega
  obtain ⟨M, hM⟩ : ∃ M, L ++ formN S.length = M := ⟨_, rfl⟩
  rw [hM] at hN hlen ⊢
  have HN := Lib.hid hN
  clear hN hM
  have HS := Lib.hid hS
  obtain ⟨p, cap, rfl⟩ := hB.form
  obtain ⟨q, capq, rfl⟩ := hS.form
  clear hB hS
  go_enter Try.func15, Try.ntmps15
  go_wp2_with fail
  refine HN.out.mono ?_; rintro e w2 ⟨v2, rfl, hO2, b2⟩
  obtain ⟨p2, cap2, rfl⟩ := hO2.form
  have HO2 := Lib.hid hO2
  have HB2 := Lib.hid b2
  have HS2 := Lib.hid (HS.out.below b2)
  clear hO2 b2
  go_wp2_with (at_builtin; refine wpList_append_src rfl _ _ 22 rfl w.heap.size 5 i0 (.int .u8 0) 1 1 Try.underlying22 ii iz0 iz1 iz2 rfl (by decide) _ _ _ rfl HO2.out _ S.length (cellsB S) rfl HS2.out.src (M.length + S.length) rfl (by unfold maxLen; omega) (by omega) HB2.out.size ?_; intro pB capB w3 hown3 hgrow3; have HO3 := Lib.hid hown3; have HB3 := Lib.hid (HB2.out.grown hgrow3 HB2.out.size (fun j hj => (World.ownsRow.lt HO2.out j hj).1)); clear hown3 hgrow3)
  go_ret
  exact ⟨_, rfl, ownB_app HO3.out rfl, HB3.out⟩
end Go.Proofs.Ytapgjplcelbncaa
