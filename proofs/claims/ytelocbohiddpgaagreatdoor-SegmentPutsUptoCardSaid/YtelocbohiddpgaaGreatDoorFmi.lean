/- Layer 11: the document's Put. -/
import Derived.Test.YtelocbohiddpgaaGreatDoorFmh
set_option linter.unusedSimpArgs false
set_option linter.unusedVariables false
namespace Go.Proofs.YtelocbohiddpgaaGreatDoor.Crc
open Go Go.RowKit Gm
attribute [local go_sem ↓] Go.wp_at_zero Go.wp_at_succ

theorem head4_small (n : Nat) (h : n ≤ 2048) : head4 n = [UInt8.ofNat n, UInt8.ofNat (n / 256), 0, 0] := by
  unfold head4
  rw [show n / 65536 = 0 by omega, show n / 16777216 = 0 by omega]
  rfl
set_option maxHeartbeats 2000000 in
set_option maxRecDepth 100000 in
theorem rfput_any (v : Value) (L : List UInt8) (w : World) (hB : Bs w v L) : Calls Tryz.prog 28 #[v] w (PutR L w) := by
  obtain ⟨i0, ii, iz0, iz1, iz2⟩ := info_parts infoB
  unfold PutR
  obtain ⟨p, cap, rfl⟩ := hB.form
  rcases put_cases L with h | h | h
  · obtain ⟨e1, e2⟩ := put_none h
    rw [e1, e2, h]
    clear e1 e2 hB h
    go_enter Tryz.func28, Tryz.ntmps28
    go_wp2_with fail
    go_ret2
    exact ⟨_, rfl, OwnB.nil _ _, Below.refl _ _⟩
  · obtain ⟨e1, e2⟩ := put_long h
    rw [e1, e2]
    obtain ⟨n, hn⟩ : ∃ n, L.length = n := ⟨_, rfl⟩
    rw [hn] at h ⊢
    have h1 : ¬ ((n : Int) = 0) := by omega
    have h2 : (2048 : Int) < n := by omega
    have h3 : ¬ (n = 0) := by omega
    clear e1 e2 hB hn
    go_enter Tryz.func28, Tryz.ntmps28
    go_wp2_with fail
    go_ret2
    exact ⟨_, rfl, OwnB.nil _ _, Below.refl _ _⟩
  · obtain ⟨e1, e2⟩ := put_good h
    rw [e1, e2]
    have hm := (mayR_iff L).1 h
    have HF : Hid (frm L = putL (head4 L.length ++ L)) := Lib.hid rfl
    have HS := Lib.hid (fun W (h : Below w.heap.size w W) => (hB.below h).src)
    obtain ⟨n, hn⟩ : ∃ n, L.length = n := ⟨_, rfl⟩
    rw [hn] at HF hm HS ⊢
    have HN := Lib.hid hn
    have h1 : ¬ ((n : Int) = 0) := by omega
    have h2 : ¬ ((2048 : Int) < n) := by omega
    have h3 : ¬ (n = 0) := by omega
    obtain ⟨b0, hb0⟩ : ∃ b0, UInt8.ofNat n = b0 := ⟨_, rfl⟩
    obtain ⟨b1, hb1⟩ : ∃ b1, UInt8.ofNat (n / 256) = b1 := ⟨_, rfl⟩
    have c0 : (n : Int) % 256 = (b0.toNat : Int) := by rw [← hb0, UInt8.toNat_ofNat']; omega
    have c1 : (n : Int) / 256 = (b1.toNat : Int) := by rw [← hb1, UInt8.toNat_ofNat']; omega
    have q0 : IntKind.u8.wrap (b0.toNat : Int) = (b0.toNat : Int) := by rw [IntKind.wrap_u8']; have := b0.toNat_lt; omega
    have q1 : IntKind.u8.wrap (b1.toNat : Int) = (b1.toNat : Int) := by rw [IntKind.wrap_u8']; have := b1.toNat_lt; omega
    have HH : Hid (head4 n = [b0, b1, 0, 0]) := Lib.hid (by rw [head4_small n hm.2, hb0, hb1])
    have HB1 := Lib.hid (below_one w (.cells #[byteV b0, byteV b1, .int .u8 0, .int .u8 0] 5))
    have HO := Lib.hid (ownB_lit w [b0, b1, 0, 0] #[byteV b0, byteV b1, .int .u8 0, .int .u8 0] 4 rfl rfl (by simp))
    have hm2 : n ≤ 2048 := hm.2
    have hm1 : 1 ≤ n := hm.1
    clear e1 e2 hB hn h hb0 hb1 hm
    go_enter Tryz.func28, Tryz.ntmps28
    go_wp2_with (at_builtin; refine wpList_append_src rfl _ _ 23 (by rfl) w.heap.size 5 i0 (.int .u8 0) 1 1 Tryz.underlying23 ii iz0 iz1 iz2 rfl (by decide) _ _ _ (by rfl) HO.out _ n (cellsB L) (by rfl) (HS.out _ HB1.out) (4 + n) (by rfl) (by unfold maxLen; omega) (by omega) (by simp) ?_; intro pA capA w3 hown3 hgrow3; have HO3 := Lib.hid (ownB_app hown3 (by rw [HN.out]; rfl)); have HB3 := Lib.hid (HB1.out.grown hgrow3 (by simp) (fun j hj => (World.ownsRow.lt HO.out j hj).1)); clear hown3 hgrow3)
    have HP := Lib.hid (rput_any _ _ w3 HO3.out.bs (by rw [List.length_append, HN.out]; simp [maxIn]; omega))
    have e4 : ([b0, b1, 0, 0] ++ L).length = 4 + n := by rw [List.length_append, HN.out]; rfl
    obtain ⟨p3, q3, hv3⟩ := HO3.out.form
    rw [e4] at hv3
    refine HP.out.mono ?_; rintro e w4 ⟨v4, rfl, ho4, b4⟩
    obtain ⟨p4, q4, rfl⟩ := ho4.form
    have HO4 := Lib.hid (ho4.base (base' := w.heap.size) HB3.out.size)
    have HB4 := Lib.hid (then_ HB3.out b4)
    clear ho4 b4 HP hv3 e4
    generalize (putL ([b0, b1, 0, 0] ++ L)).length = n4 at *
    go_wp2_with fail
    go_ret2
    exact ⟨_, rfl, by rw [HF.out, HH.out]; exact HO4.out, HB4.out⟩
end Go.Proofs.YtelocbohiddpgaaGreatDoor.Crc
