/- Layer 11: package frame's small functions: may, Size, length. -/
import Derived.Test.YtelocbohiddpgaaGreatDoorFma
import Derived.Test.YtelocbohiddpgaaGreatDoorYh
import Derived.Lib.EndianBits
set_option linter.unusedSimpArgs false
set_option linter.unusedVariables false
namespace Go.Proofs.YtelocbohiddpgaaGreatDoor.Crc
open Go Go.RowKit Gm
attribute [local go_sem ↓] Go.wp_at_zero Go.wp_at_succ

def mayN (n : Nat) : Bool := decide (1 ≤ n) && decide (n ≤ 2048)
theorem may_any (n : Nat) (w : World) : Calls Tryz.prog 95 #[.int .u64 (n : Int)] w (Quits (.bool (mayN n)) w) := by
  unfold mayN
  by_cases h1 : 1 ≤ n
  · by_cases h2 : n ≤ 2048
    · have k1 : ¬ ((n : Int) < 1) := by omega
      have k2 : ¬ ((2048 : Int) < n) := by omega
      have k3 : (1 : Int) ≤ n := by omega
      have k4 : (n : Int) ≤ 2048 := by omega
      go_enter Tryz.func95, Tryz.ntmps95
      go_wp2_with fail
      go_ret
      exact ⟨by simp [h1, h2], rfl⟩
    · have k1 : ¬ ((n : Int) < 1) := by omega
      have k2 : (2048 : Int) < n := by omega
      have k3 : (1 : Int) ≤ n := by omega
      have k4 : ¬ ((n : Int) ≤ 2048) := by omega
      go_enter Tryz.func95, Tryz.ntmps95
      go_wp2_with fail
      go_ret
      exact ⟨by simp [h1, h2], rfl⟩
  · have k1 : (n : Int) < 1 := by omega
    have k3 : ¬ ((1 : Int) ≤ n) := by omega
    go_enter Tryz.func95, Tryz.ntmps95
    go_wp2_with fail
    go_ret
    exact ⟨by simp [h1], rfl⟩
def sizeR (r : List UInt8) : Nat := if mayR r then r.length + 8 else 0
theorem size_any (v : Value) (L : List UInt8) (hl : L.length ≤ maxTk) (w : World) (hB : Bs w v L) : Calls Tryz.prog 70 #[v] w (Quits (.int .i64 (sizeR L : Nat)) w) := by
  obtain ⟨p, cap, rfl⟩ := hB.form
  have hm : mayR L = mayN L.length := rfl
  unfold sizeR
  rw [hm]
  unfold maxTk at hl
  obtain ⟨n, hn⟩ : ∃ n, L.length = n := ⟨_, rfl⟩
  rw [hn] at hl ⊢
  have HC := Lib.hid (may_any n)
  have e1 : IntKind.u64.wrap (n : Int) = (n : Int) := by rw [IntKind.wrap_u64]; omega
  clear hB hm hn
  cases hb : mayN n with
  | false =>
    rw [hb] at HC
    go_enter Tryz.func70, Tryz.ntmps70
    go_wp2_with fail
    refine (HC.out _).mono ?_; rintro e w1 ⟨rfl, rfl⟩
    go_wp2_with fail
    go_ret
    exact ⟨rfl, rfl⟩
  | true =>
    rw [hb] at HC
    have e2 : 4 + (n : Int) + 4 = ((n + 8 : Nat) : Int) := by omega
    go_enter Tryz.func70, Tryz.ntmps70
    go_wp2_with fail
    refine (HC.out _).mono ?_; rintro e w1 ⟨rfl, rfl⟩
    go_wp2_with fail
    go_ret
    exact ⟨rfl, rfl⟩
theorem or4 (x0 x1 x2 x3 : Nat) (y0 : x0 < 256) (y1 : x1 < 256) (y2 : x2 < 256) (y3 : x3 < 256) : bits BinOp.or IntKind.u64 (bits BinOp.or IntKind.u64 (bits BinOp.or IntKind.u64 (x0 : Int) ((x1 : Int) * 256)) ((x2 : Int) * 65536)) ((x3 : Int) * 16777216) = ((x0 + 256 * x1 + 65536 * x2 + 16777216 * x3 : Nat) : Int) := by
  have e1 := u64_or8 (x0 : Int) ((x1 : Int) * 256) (by omega) (by omega) (by omega) (by omega) (by omega)
  have e2 := u64_or16 ((x0 : Int) + (x1 : Int) * 256) ((x2 : Int) * 65536) (by omega) (by omega) (by omega) (by omega) (by omega)
  have e3 := u64_or24 ((x0 : Int) + (x1 : Int) * 256 + (x2 : Int) * 65536) ((x3 : Int) * 16777216) (by omega) (by omega) (by omega) (by omega) (by omega)
  rw [e1, e2, e3]
  omega
def lengthN (b : List UInt8) : Nat := if decide (4 ≤ b.length) && mayN (lenN b) then lenN b else 0
def lengthB (b : List UInt8) : Bool := decide (4 ≤ b.length) && mayN (lenN b)
set_option maxHeartbeats 2000000 in
theorem length_any (v : Value) (L : List UInt8) (hl : L.length ≤ maxTk) (w : World) (hB : Bs w v L) : Calls Tryz.prog 142 #[v] w (Gives (.tuple #[.int .i64 (lengthN L : Nat), .bool (lengthB L)]) w) := by
  obtain ⟨p, cap, rfl⟩ := hB.form
  by_cases h4 : 4 ≤ L.length
  · obtain ⟨p0, cap0, bb, o, e0, hp, hbl, c0⟩ := bs_at hB (i := 0) (by omega)
    have hcs : ∀ i, i < 4 → w.cell? ⟨bb, o + i, none⟩ = some (byteV (L.getD i 0)) := fun i hi => by
      obtain ⟨p1, cap1, b1, o1, e1, e2, _, e3⟩ := bs_at hB (i := i) (by omega)
      rw [e0] at e1
      subst hp e2
      simp only [Value.slice.injEq, Option.some.injEq, Addr.mk.injEq, true_and] at e1
      obtain ⟨⟨rfl, rfl, -⟩, -⟩ := e1
      exact e3
    subst hp
    simp only [Value.slice.injEq] at e0
    obtain ⟨rfl, -, rfl⟩ := e0
    have q0 := hcs 0 (by omega)
    have q1 := hcs 1 (by omega)
    have q2 := hcs 2 (by omega)
    have q3 := hcs 3 (by omega)
    have hN : lengthB L = mayN (lenN L) := by unfold lengthB; simp [h4]
    have hM : lengthN L = if mayN (lenN L) then lenN L else 0 := by unfold lengthN; simp [h4]
    rw [hN, hM]
    have HN : Hid (lenN L = (L.getD 0 0).toNat + 256 * (L.getD 1 0).toNat + 65536 * (L.getD 2 0).toNat + 16777216 * (L.getD 3 0).toNat) := Lib.hid rfl
    have y0 := (L.getD 0 0).toNat_lt
    have y1 := (L.getD 1 0).toNat_lt
    have y2 := (L.getD 2 0).toNat_lt
    have y3 := (L.getD 3 0).toNat_lt
    obtain ⟨x0, hx0⟩ : ∃ x, (L.getD 0 0).toNat = x := ⟨_, rfl⟩
    obtain ⟨x1, hx1⟩ : ∃ x, (L.getD 1 0).toNat = x := ⟨_, rfl⟩
    obtain ⟨x2, hx2⟩ : ∃ x, (L.getD 2 0).toNat = x := ⟨_, rfl⟩
    obtain ⟨x3, hx3⟩ : ∃ x, (L.getD 3 0).toNat = x := ⟨_, rfl⟩
    unfold byteV at q0 q1 q2 q3
    rw [hx0] at q0 y0 HN
    rw [hx1] at q1 y1 HN
    rw [hx2] at q2 y2 HN
    rw [hx3] at q3 y3 HN
    obtain ⟨N, hNN⟩ : ∃ N, lenN L = N := ⟨_, rfl⟩
    rw [hNN] at HN ⊢
    obtain ⟨M0, hM0⟩ : ∃ M0, (if mayN N = true then N else 0) = M0 := ⟨_, rfl⟩
    have HM := Lib.hid hM0
    rw [hM0]
    have hor := or4 x0 x1 x2 x3 y0 y1 y2 y3
    rw [← HN.out] at hor
    obtain ⟨m, hm⟩ : ∃ m, L.length = m := ⟨_, rfl⟩
    rw [hm] at h4 hl ⊢
    rw [Nat.add_zero] at q0
    unfold maxTk at hl
    have hc : m ≤ cap := by
      rcases hB with ⟨h, _⟩ | ⟨a1, cap1, h1, h2, _⟩
      · cases h
      · simp only [Value.slice.injEq] at h1; rw [h1.2.2, ← hm]; exact h2
    clear hB hcs hN hM hx0 hx1 hx2 hx3 hNN hm c0 hbl hM0
    have hn : ¬ ((m : Int) < 4) := by omega
    have i0 : (0 : Int) < m := by omega
    have i1 : (1 : Int) < m := by omega
    have i2 : (2 : Int) < m := by omega
    have i3 : (3 : Int) < m := by omega
    have j0 : 0 < m := by omega
    go_enter Tryz.func142, Tryz.ntmps142
    go_wp2_with fail
    go_quiet (fail)
    obtain ⟨wq, hwq⟩ : ∃ wq, w.drewN nq = wq := ⟨_, rfl⟩
    have HB := Lib.hid (bel_drewN (Below.refl w.heap.size w) nq)
    rw [hwq] at HB
    rw [hwq]
    have hcm := may_any N wq
    go_wp2_with fail
    refine hcm.mono ?_; rintro e w1 ⟨rfl, rfl⟩
    have hNk : (N : Int) < 9223372036854775808 := by have := HN.out; omega
    have hw : IntKind.i64.wrap (N : Int) = (N : Int) := by rw [IntKind.wrap_i64]; omega
    cases hm : mayN N with
    | false =>
      have hMM : M0 = 0 := by rw [← HM.out, hm]; rfl
      subst hMM
      go_wp2_with fail
      go_ret2
      exact ⟨by rw [hm]; rfl, HB.out⟩
    | true =>
      have hMM : M0 = N := by rw [← HM.out, hm]; rfl
      subst hMM
      go_wp2_with fail
      go_ret2
      exact ⟨by rw [hm]; rfl, HB.out⟩
  · have hN : lengthB L = false := by unfold lengthB; simp [h4]
    have hM : lengthN L = 0 := by unfold lengthN; simp [h4]
    rw [hN, hM]
    obtain ⟨m, hm⟩ : ∃ m, L.length = m := ⟨_, rfl⟩
    rw [hm] at h4 ⊢
    have hn : (m : Int) < 4 := by omega
    clear hB hl hN hM hm
    go_enter Tryz.func142, Tryz.ntmps142
    go_wp2_with fail
    go_ret2
    exact ⟨rfl, Below.refl _ _⟩
end Go.Proofs.YtelocbohiddpgaaGreatDoor.Crc
