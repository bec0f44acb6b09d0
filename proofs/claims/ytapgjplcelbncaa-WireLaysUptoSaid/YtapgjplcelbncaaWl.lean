/- The walk of WireLays: for any bytes and any number, where the bytes are not too many, the statement's function returns true, and writes nothing that was there. -/
import Derived.Test.YtapgjplcelbncaaWa
set_option linter.unusedSimpArgs false
set_option linter.unusedVariables false
namespace Go.Proofs.Ytapgjplcelbncaa
open Go.RowKit Gm
attribute [local go_sem ↓] Go.wp_at_zero Go.wp_at_succ

theorem wrap64_bounds (n : Int) : -9223372036854775808 ≤ wrap64 n ∧ wrap64 n ≤ 9223372036854775807 := by unfold wrap64; omega

/-- What the loops keep: nothing older has changed; the three slices stand in block G; their bytes may be written. -/
def LayInv (w2 wr : World) (G : Nat) (cs : Array Value) (gx gy gz nx ny nz : Nat) : Prop := Below w2.heap.size w2 wr ∧ Blk wr G 22 cs ∧ Wr8 wr gx nx ∧ Wr8 wr gy ny ∧ Wr8 wr gz nz
theorem LayInv.set {w2 wr : World} {G : Nat} {cs : Array Value} {gx gy gz nx ny nz g : Nat} (h : LayInv w2 wr G cs gx gy gz nx ny nz) (hg : w2.heap.size ≤ g) (hG : G ≠ g) (k : Nat) (d : UInt8) : LayInv w2 (wr.setCell ⟨g, k, none⟩ (byteV d)) G cs gx gy gz nx ny nz :=
  ⟨h.1.setCell (p := ⟨g, k, none⟩) hg _, h.2.1.other hG _, h.2.2.1.set _ _ _, h.2.2.2.1.set _ _ _, h.2.2.2.2.set _ _ _⟩

set_option maxHeartbeats 8000000 in
set_option maxRecDepth 100000 in
theorem law_wlays (v : Value) (L : List UInt8) (n : Nat) (hn : n < 18446744073709551616) (u : Value) (S : List UInt8) (w : World) (hB : Bs w v L) (hS : Bs w u S) (hsz : L.length + S.length ≤ 100000000) : Calls Try.prog 3 #[v, .int .u64 n, u] w (Gives (.bool true) w) := by
  obtain ⟨x, hx⟩ : ∃ x, wrap64 (n : Int) = x := ⟨_, rfl⟩
  have hx1 : -9223372036854775808 ≤ x := by rw [← hx]; exact (wrap64_bounds _).1
  have hx2 : x ≤ 9223372036854775807 := by rw [← hx]; exact (wrap64_bounds _).2
  have HB := Lib.hid hB
  have HS := Lib.hid hS
  obtain ⟨p, cap, rfl⟩ := hB.form
  obtain ⟨q, capq, rfl⟩ := hS.form
  clear hB hS
  go_enter Try.func3, Try.ntmps3
  go_wp2_with fail
  refine (rown_any _ L w HB.out (by omega)).mono ?_; rintro e w1 ⟨v1, rfl, hO1, b1⟩
  obtain ⟨p1, cap1, rfl⟩ := hO1.form
  have HO1 := Lib.hid hO1.bs
  have HS1 := Lib.hid (HS.out.below b1)
  have HB1 := Lib.hid b1
  clear hO1 b1
  go_wp2_with fail
  refine (rown_any _ S w1 HS1.out (by omega)).mono ?_; rintro e w2 ⟨v2, rfl, hO2, b2⟩
  obtain ⟨p2, cap2, rfl⟩ := hO2.form
  have HO12 := Lib.hid (HO1.out.below b2)
  have HO2 := Lib.hid hO2.bs
  have HB2 := Lib.hid (then_ HB1.out b2)
  clear hO2 b2 HS1 HO1 HB1
  go_wp2_with fail
  obtain ⟨M1, hM1⟩ : ∃ M, L ++ formN n = M := ⟨_, rfl⟩
  obtain ⟨M2, hM2⟩ : ∃ M, L ++ formN (foldI x) = M := ⟨_, rfl⟩
  obtain ⟨M3, hM3⟩ : ∃ M, L ++ formN S.length ++ S = M := ⟨_, rfl⟩
  have hl1 := formN_length hn
  have hl2 := formN_length (fold_lt hx1 hx2)
  have hl3 := formN_length (v := S.length) (by omega)
  have hne1 : M1 ≠ [] := by rintro rfl; have := congrArg List.length hM1; rw [List.length_append, List.length_nil] at this; omega
  have hne2 : M2 ≠ [] := by rintro rfl; have := congrArg List.length hM2; rw [List.length_append, List.length_nil] at this; omega
  have hne3 : M3 ≠ [] := by rintro rfl; have := congrArg List.length hM3; rw [List.length_append, List.length_append, List.length_nil] at this; omega
  have c1 := fun W hW => wnum_any (.slice p1 L.length cap1) L n hn W hW (by omega)
  have c2 := fun W hW => wint_any (.slice p1 L.length cap1) L x hx1 hx2 W hW (by omega)
  have c3 := fun W hW hW2 => wbytes_any (.slice p1 L.length cap1) L (.slice p2 S.length cap2) S W hW hW2 (by omega)
  have d1 := fun W hW => rnum_any (.slice p L.length cap) L n hn W hW (by omega)
  have d2 := fun W hW => rint_any (.slice p L.length cap) L x hx1 hx2 W hW (by omega)
  have d3 := fun W hW hW2 => rbytes_any (.slice p L.length cap) L (.slice q S.length capq) S W hW hW2 (by omega)
  rw [hM1] at c1 d1
  rw [hM2] at c2 d2
  rw [hM3] at c3 d3
  have C1 := Lib.hid c1; have C2 := Lib.hid c2; have C3 := Lib.hid c3
  have D1 := Lib.hid d1; have D2 := Lib.hid d2; have D3 := Lib.hid d3
  have hm1 : M1.length ≤ 200000000 := by rw [← hM1, List.length_append]; omega
  have hm2 : M2.length ≤ 200000000 := by rw [← hM2, List.length_append]; omega
  have hm3 : M3.length ≤ 200000000 := by rw [← hM3, List.length_append, List.length_append]; omega
  clear c1 c2 c3 d1 d2 d3 hM1 hM2 hM3 hl1 hl2 hl3
  refine (C1.out _ HO12.out).mono ?_; rintro e w3 ⟨X, rfl, hX, b3⟩
  obtain ⟨gx, cx, rfl, x1, x2, hWx⟩ := hX.row hne1
  have HX := Lib.hid hX.bs
  have HWx := Lib.hid hWx
  have HB3 := Lib.hid b3
  clear hX hWx b3 C1
  go_wp2_with fail
  refine (C2.out _ (HO12.out.below HB3.out)).mono ?_; rintro e w4 ⟨Y, rfl, hY, b4⟩
  obtain ⟨gy, cy, rfl, y1, y2, hWy⟩ := hY.row hne2
  have HX4 := Lib.hid (HX.out.below b4)
  have HWx4 := Lib.hid (HWx.out.below x2 b4)
  have hz4 : w3.heap.size ≤ w4.heap.size := b4.size
  have HY := Lib.hid hY.bs
  have HWy := Lib.hid hWy
  have HB4 := Lib.hid (then_ HB3.out b4)
  clear hY hWy b4 HX HWx C2
  go_wp2_with fail
  refine (C3.out _ (HO12.out.below HB4.out) (HO2.out.below HB4.out)).mono ?_; rintro e w5 ⟨Z, rfl, hZ, b5⟩
  obtain ⟨gz, cz, rfl, z1, z2, hWz⟩ := hZ.row hne3
  have HX5 := Lib.hid (HX4.out.below b5)
  have HY5 := Lib.hid (HY.out.below b5)
  have HWx5 := Lib.hid (HWx4.out.below (by omega) b5)
  have HWy5 := Lib.hid (HWy.out.below y2 b5)
  have hz5 : w4.heap.size ≤ w5.heap.size := b5.size
  have HZ5 := Lib.hid hZ.bs
  have HWz5 := Lib.hid hWz
  have HB5 := Lib.hid (then_ HB4.out b5)
  clear hZ hWz b5 HX4 HWx4 HY HWy HB4 HB3 C3
  have hz2 : w2.heap.size ≤ w3.heap.size := by omega
  go_wp2_with fail
  have HW5 := Lib.hid (Below.refl w5.heap.size w5)
  refine (D1.out _ (HB.out.below (then_ HB2.out HB5.out))).mono ?_; rintro e w6 ⟨v6, rfl, hO, b6⟩
  obtain ⟨p6, cap6, rfl⟩ := hO.form
  have HO6 := Lib.hid hO.bs
  have HW6 := Lib.hid b6
  clear hO b6
  go_wp2_with fail
  have hq := equal_any _ _ M1 M1 w6 (HX5.out.below HW6.out) HO6.out
  rw [show (M1 == M1) = true from by simp] at hq
  refine hq.mono ?_; rintro e w6 ⟨rfl, rfl⟩
  clear hq HO6 D1
  go_wp2_with fail
  refine (D2.out _ (HB.out.below (then_ HB2.out (then_ HB5.out HW6.out)))).mono ?_; rintro e w7 ⟨v7, rfl, hO, b7⟩
  obtain ⟨p7, cap7, rfl⟩ := hO.form
  have HO7 := Lib.hid hO.bs
  have HW7 := Lib.hid (then_ HW6.out b7)
  clear hO b7
  go_wp2_with fail
  have hq := equal_any _ _ M2 M2 w7 (HY5.out.below HW7.out) HO7.out
  rw [show (M2 == M2) = true from by simp] at hq
  refine hq.mono ?_; rintro e w7 ⟨rfl, rfl⟩
  clear hq HO7 D2 HW6
  go_wp2_with fail
  refine (D3.out _ (HB.out.below (then_ HB2.out (then_ HB5.out HW7.out))) (HS.out.below (then_ HB2.out (then_ HB5.out HW7.out)))).mono ?_; rintro e w8 ⟨v8, rfl, hO, b8⟩
  obtain ⟨p8, cap8, rfl⟩ := hO.form
  have HO8 := Lib.hid hO.bs
  have HW8 := Lib.hid (then_ HW7.out b8)
  clear hO b8
  go_wp2_with fail
  have hq := equal_any _ _ M3 M3 w8 (HZ5.out.below HW8.out) HO8.out
  rw [show (M3 == M3) = true from by simp] at hq
  refine hq.mono ?_; rintro e w8 ⟨rfl, rfl⟩
  clear hq HO8 D3 HW7
  go_wp2_with fail
  have hz8 : w5.heap.size ≤ w8.heap.size := HW8.out.size
  have A9 := below_one w8 (.cells #[.slice (some ⟨gx, 0, none⟩) M1.length cx, .slice (some ⟨gy, 0, none⟩) M2.length cy, .slice (some ⟨gz, 0, none⟩) M3.length cz] 22)
  have HA := Lib.hid (then_ HB5.out (then_ HW8.out A9))
  have HG := Lib.hid (Blk.new w8 22 #[.slice (some ⟨gx, 0, none⟩) M1.length cx, .slice (some ⟨gy, 0, none⟩) M2.length cy, .slice (some ⟨gz, 0, none⟩) M3.length cz])
  have HWx := Lib.hid (HWx5.out.below (by omega) (then_ HW8.out A9))
  have HWy := Lib.hid (HWy5.out.below (by omega) (then_ HW8.out A9))
  have HWz := Lib.hid (HWz5.out.below z2 (then_ HW8.out A9))
  clear A9 HX5 HY5 HZ5 HWx5 HWy5 HWz5 HB5 HW8 HW5
  go_loopw [55] (fun iv wr => ∃ j : Nat, j ≤ 3 ∧ iv = .int .i64 j ∧ LayInv w2 wr w8.heap.size #[.slice (some ⟨gx, 0, none⟩) M1.length cx, .slice (some ⟨gy, 0, none⟩) M2.length cy, .slice (some ⟨gz, 0, none⟩) M3.length cz] gx gy gz M1.length M2.length M3.length) (fun iv _ => 3 - (intOf iv).toNat)
  case atStart => exact ⟨0, by omega, rfl, HA.out, HG.out, HWx.out, HWy.out, HWz.out⟩
  case round =>
    obtain ⟨j, hj, rfl, hI⟩ := hrel
    have HI := Lib.hid hI
    clear hI HA HG HWx HWy HWz
    by_cases hj3 : j < 3
    · have hrow : ∃ g n c, wr.cell? ⟨w8.heap.size, j, none⟩ = some (.slice (some ⟨g, 0, none⟩) n c) ∧ Wr8 wr g n ∧ w2.heap.size ≤ g ∧ g < w8.heap.size ∧ n ≤ 200000000 := by
        rcases (show j = 0 ∨ j = 1 ∨ j = 2 by omega) with rfl | rfl | rfl
        · exact ⟨gx, M1.length, cx, HI.out.2.1.cell 0 rfl, HI.out.2.2.1, by omega, by omega, hm1⟩
        · exact ⟨gy, M2.length, cy, HI.out.2.1.cell 1 rfl, HI.out.2.2.2.1, by omega, by omega, hm2⟩
        · exact ⟨gz, M3.length, cz, HI.out.2.1.cell 2 rfl, HI.out.2.2.2.2, by omega, by omega, hm3⟩
      obtain ⟨g, N, c, hcell, hW, hg1, hg2, hN⟩ := hrow
      have HWg := Lib.hid hW
      obtain ⟨wo, rfl⟩ : ∃ wo : World, wo = wr := ⟨_, rfl⟩
      clear hW
      go_wp2_with fail
      go_loopw [61] (fun kv wq => ∃ k : Nat, k ≤ N ∧ kv = .int .i64 k ∧ LayInv w2 wq w8.heap.size #[.slice (some ⟨gx, 0, none⟩) M1.length cx, .slice (some ⟨gy, 0, none⟩) M2.length cy, .slice (some ⟨gz, 0, none⟩) M3.length cz] gx gy gz M1.length M2.length M3.length ∧ Wr8 wq g N) (fun kv _ => N - (intOf kv).toNat)
      case atStart => exact ⟨0, Nat.zero_le _, rfl, HI.out, HWg.out⟩
      case round =>
        obtain ⟨k, hk, rfl, hI2, hW2⟩ := hrel
        have HI2 := Lib.hid hI2
        have HW2 := Lib.hid hW2
        clear hI2 hW2
        by_cases hkN : k < N
        · obtain ⟨cc, h1, h2⟩ := HW2.out k hkN
          obtain ⟨d, hd⟩ := xor_byte cc
          go_wp2_with fail
          go_roundw
          case rel => exact ⟨k + 1, by omega, by simp, LayInv.set HI2.out hg1 (by omega) k d, HW2.out.set _ _ _⟩
          case measure => simp [intOf]; omega
        · go_wp2_with fail
          go_roundw
          case rel => exact ⟨j + 1, by omega, by simp, HI2.out⟩
          case measure => simp [intOf]; omega
    · have HBr := Lib.hid HI.out.1
      clear HI
      go_wp2_with fail
      refine (awake_any _).mono ?_; rintro e w9 ⟨rfl, b9⟩
      have HB9 := Lib.hid (then_ HBr.out b9)
      clear b9
      go_wp2_with fail
      have hq := equal_any _ _ L L w9 (HO12.out.below HB9.out) (HB.out.below (then_ HB2.out HB9.out))
      rw [show (L == L) = true from by simp] at hq
      refine hq.mono ?_; rintro e w9 ⟨rfl, rfl⟩
      clear hq
      go_wp2_with fail
      have hq := equal_any _ _ S S w9 (HO2.out.below HB9.out) (HS.out.below (then_ HB2.out HB9.out))
      rw [show (S == S) = true from by simp] at hq
      refine hq.mono ?_; rintro e w9 ⟨rfl, rfl⟩
      clear hq
      go_wp2_with fail
      go_ret
      exact ⟨rfl, then_ HB2.out HB9.out⟩
end Go.Proofs.Ytapgjplcelbncaa
