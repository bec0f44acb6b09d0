/- The walk of CrcLinear. -/
import Derived.Test.YthoccemfdndkhaaDoorYq
import Derived.Deep.OwnRows
set_option linter.unusedSimpArgs false
set_option linter.unusedVariables false
namespace Go.Proofs.YthoccemfdndkhaaDoor.Crc
open Go Go.RowKit Gm
attribute [local go_sem ↓] Go.wp_at_zero Go.wp_at_succ

theorem made_bytes (n : Nat) : madeCells #[Value.int .u8 0] n = (cellsB (List.replicate n 0)).toArray := by
  apply Array.ext
  · simp [madeCells, cellsB]
  · intro i h1 h2
    simp [madeCells, cellsB, Nat.mod_one]
theorem set_bytes (M : List UInt8) (k : Nat) (x : UInt8) : (cellsB M).toArray.setIfInBounds k (byteV x) = (cellsB (M.set k x)).toArray := by
  simp [cellsB, List.map_set]
/-- Bytes in a block of their own. -/
def Row (w : World) (g : Nat) (M : List UInt8) : Prop := Blk w g 5 (cellsB M).toArray
theorem Row.set {w : World} {g : Nat} {M : List UInt8} (h : Row w g M) (k : Nat) (x : UInt8) : Row (w.setCell ⟨g, k, none⟩ (byteV x)) g (M.set k x) := by
  unfold Row; rw [← set_bytes]; exact blk_set h _
theorem Row.bs {w : World} {g n : Nat} {M : List UInt8} (h : Row w g M) (hn : M.length = n) : Bs w (.slice (some ⟨g, 0, none⟩) n n) M :=
  bs_blk h M n hn fun i hi => by rw [List.getElem?_toArray]; exact cellsB_at hi
theorem Row.at {w : World} {g : Nat} {M : List UInt8} (h : Row w g M) {k : Nat} (hk : k < M.length) : w.cell? ⟨g, k, none⟩ = some (byteV (M.getD k 0)) := Blk.cell h k (by rw [List.getElem?_toArray]; exact cellsB_at hk)
/-- The first k of Z, and noughts. -/
def partZ (Z : List UInt8) (k : Nat) : List UInt8 := Z.take k ++ List.replicate (Z.length - k) 0
theorem partZ_zero (Z : List UInt8) : partZ Z 0 = List.replicate Z.length 0 := by simp [partZ]
theorem partZ_full (Z : List UInt8) : partZ Z Z.length = Z := by simp [partZ]
theorem partZ_set (Z : List UInt8) {k : Nat} (hk : k < Z.length) : (partZ Z k).set k (Z.getD k 0) = partZ Z (k + 1) := by
  unfold partZ
  rw [List.set_append_right _ _ (by rw [List.length_take]; omega), List.length_take, show k - min k Z.length = 0 by omega]
  rw [show Z.length - k = (Z.length - (k + 1)) + 1 by omega, List.replicate_succ, List.set_cons_zero, List.take_add_one, List.getElem?_eq_getElem hk, List.getD_eq_getElem?_getD, List.getElem?_eq_getElem hk, List.append_assoc]
  rfl
theorem partZ_length (Z : List UInt8) {k : Nat} (hk : k ≤ Z.length) : (partZ Z k).length = Z.length := by unfold partZ; simp; omega
theorem xor_u8 (a b : UInt8) : bits .xor .u8 (a.toNat : Int) (b.toNat : Int) = ((a ^^^ b).toNat : Int) := by
  rw [u8_xor_nat _ _ a.toNat_lt b.toNat_lt, UInt8.toNat_xor]
def xor3 (a b c : List UInt8) : List UInt8 := List.zipWith (· ^^^ ·) (List.zipWith (· ^^^ ·) a b) c
theorem xor3_length {a b c : List UInt8} {n : Nat} (ha : a.length = n) (hb : b.length = n) (hc : c.length = n) : (xor3 a b c).length = n := by
  unfold xor3; simp; omega
theorem xor3_at {a b c : List UInt8} {n k : Nat} (ha : a.length = n) (hb : b.length = n) (hc : c.length = n) (hk : k < n) : (xor3 a b c).getD k 0 = a.getD k 0 ^^^ b.getD k 0 ^^^ c.getD k 0 := by
  unfold xor3
  simp only [List.getD_eq_getElem?_getD]
  rw [List.getElem?_eq_getElem (by simp; omega), List.getElem?_eq_getElem (show k < a.length by omega), List.getElem?_eq_getElem (show k < b.length by omega), List.getElem?_eq_getElem (show k < c.length by omega)]
  simp
set_option maxHeartbeats 4000000 in
set_option maxRecDepth 100000 in
theorem law_clinear (v0 v1 v2 : Value) (A B C : List UInt8) (W : World) (hE : Env W) (hA : Bs W v0 A) (lA : A.length ≤ maxIn) (hB : Bs W v1 B) (lB : B.length ≤ maxIn) (hC : Bs W v2 C) (lC : C.length ≤ maxIn) : Calls Tryd.prog 8 #[v0, v1, v2] W (Gives (.bool true) W) := by
  obtain ⟨i0, ii, iz0, iz1, iz2⟩ := info_parts infoB
  obtain ⟨p0, c0, rfl⟩ := hA.form
  obtain ⟨p1, c1, rfl⟩ := hB.form
  obtain ⟨p2, c2, rfl⟩ := hC.form
  obtain ⟨n, hn⟩ : ∃ n, min (min A.length B.length) C.length = n := ⟨_, rfl⟩
  have nA : n ≤ A.length := by omega
  have nB : n ≤ B.length := by omega
  have nC : n ≤ C.length := by omega
  obtain ⟨r0, hA'⟩ := pre_b hA nA
  obtain ⟨r1, hB'⟩ := pre_b hB nB
  obtain ⟨r2, hC'⟩ := pre_b hC nC
  have eA : (A.take n).length = n := by rw [List.length_take]; omega
  have eB : (B.take n).length = n := by rw [List.length_take]; omega
  have eC : (C.take n).length = n := by rw [List.length_take]; omega
  have hn7 : n ≤ 140737488351232 := Nat.le_trans nA lA
  have H3 := Lib.hid (sumL_three _ _ _ (eA.trans eB.symm) (eB.trans eC.symm))
  generalize A.length = la at *
  generalize B.length = lb at *
  generalize C.length = lc at *
  have HN := Lib.hid hn
  clear hn nA nB nC lA lB lC hA hB hC
  obtain ⟨A', ha⟩ : ∃ l, A.take n = l := ⟨_, rfl⟩
  obtain ⟨B', hb⟩ : ∃ l, B.take n = l := ⟨_, rfl⟩
  obtain ⟨C', hc⟩ : ∃ l, C.take n = l := ⟨_, rfl⟩
  rw [ha] at hA' eA H3
  rw [hb] at hB' eB H3
  rw [hc] at hC' eC H3
  clear ha hb hc
  have HA := Lib.hid hA'
  have HB := Lib.hid hB'
  have HC := Lib.hid hC'
  have HE := Lib.hid hE
  have LA := Lib.hid eA
  have LB := Lib.hid eB
  have LC := Lib.hid eC
  obtain ⟨Z, hZ⟩ : ∃ Z, xor3 A' B' C' = Z := ⟨_, rfl⟩
  have HZA : Hid (∀ k, k < n → Z.getD k 0 = A'.getD k 0 ^^^ B'.getD k 0 ^^^ C'.getD k 0) := Lib.hid (fun k hk => by rw [← hZ]; exact xor3_at eA eB eC hk)
  have LZ : Hid (Z.length = n) := Lib.hid (by rw [← hZ]; exact xor3_length eA eB eC)
  have H3' : Hid (sumL Z = sumL A' ^^^ sumL B' ^^^ sumL C') := Lib.hid (by rw [← hZ]; exact H3.out)
  clear hA' hB' hC' hE eA eB eC hZ H3
  go_enter Tryd.func8, Tryd.ntmps8
  go_upto_region 1 with (fail)
  go_cut [7] from 10 (fun t wq => t = .int .i64 n ∧ wq = W)
  case first =>
    go_wp2_with fail
    all_goals
      go_meet
      have hN := HN.out
      refine ⟨?_, rfl⟩
      congr 1
      omega
  case rest =>
    obtain ⟨rfl, rfl⟩ := hcut
    go_wp2_with fail
    go_quiet (fail)
    obtain ⟨W1, hW1⟩ : ∃ W1, wc.drewN nq = W1 := ⟨_, rfl⟩
    have HB0 : Hid (Below wc.heap.size wc W1) := Lib.hid (by rw [← hW1]; exact bel_drewN (Below.refl _ _) _)
    rw [hW1]
    clear hW1
    obtain ⟨g, hg⟩ : ∃ g, W1.heap.size = g := ⟨_, rfl⟩
    have HG := Lib.hid hg
    have HR0 : Hid (Row (W1.alloc (.cells (madeCells #[.int .u8 0] n) 5)) g (partZ Z 0)) := Lib.hid (by rw [partZ_zero, LZ.out, made_bytes, ← hg]; exact Blk.new W1 _ _)
    have HB1 := Lib.hid (HB0.out.trans ((below_one W1 (.cells (madeCells #[.int .u8 0] n) 5)).mono HB0.out.size))
    go_wp2_with (refine wpList_make_row _ rfl _ _ 22 rfl 5 i0 (.int .u8 0) Tryd.underlying22 ii iz0 iz1 rfl .i64 .i64 n (by rfl) (by rfl) (by rw [iz2]; omega) (by omega) ?_)
    obtain ⟨W2, hW2⟩ : ∃ W2, W1.alloc (.cells (madeCells #[.int .u8 0] n) 5) = W2 := ⟨_, rfl⟩
    have HG2 : Hid (g < W2.heap.size) := Lib.hid (by rw [← hW2, ← hg]; simp)
    have HGW : Hid (wc.heap.size ≤ g) := Lib.hid (by rw [← hg]; exact HB0.out.size)
    rw [hW2] at HR0 HB1 ⊢
    clear hW2 hg HG HB0
    go_loopw [9] (fun i wr => ∃ (k : Nat), k ≤ n ∧ i = .int .i64 k ∧ Hid (Row wr g (partZ Z k)) ∧ Hid (Below wc.heap.size wc wr)) (fun i _ => n - (intOf i).toNat)
    case atStart => exact ⟨0, by omega, rfl, HR0, HB1⟩
    case round =>
      obtain ⟨k, hk, rfl, HR, HBr⟩ := hrel
      by_cases hkn : k < n
      · obtain ⟨q0, d0, b0, o0, hv0, hp0, -, l0⟩ := bs_at (HA.out.below HBr.out) (i := k) (by rw [LA.out]; exact hkn)
        obtain ⟨q1, d1, b1, o1, hv1, hp1, -, l1⟩ := bs_at (HB.out.below HBr.out) (i := k) (by rw [LB.out]; exact hkn)
        obtain ⟨q2, d2, b2, o2, hv2, hp2, -, l2⟩ := bs_at (HC.out.below HBr.out) (i := k) (by rw [LC.out]; exact hkn)
        have l3 := HR.out.at (k := k) (by rw [partZ_length Z (by rw [LZ.out]; omega), LZ.out]; exact hkn)
        have f3 := Blk.free HR.out k
        simp only [Value.slice.injEq] at hv0 hv1 hv2
        obtain ⟨rfl, -, rfl⟩ := hv0
        obtain ⟨rfl, -, rfl⟩ := hv1
        obtain ⟨rfl, -, rfl⟩ := hv2
        have i0' := idx_b p0 b0 o0 n c0 k hp0 hkn
        have i1' := idx_b p1 b1 o1 n c1 k hp1 hkn
        have i2' := idx_b p2 b2 o2 n c2 k hp2 hkn
        have i3' := idx_b (some ⟨g, 0, none⟩) g 0 n n k rfl hkn
        rw [Nat.zero_add] at i3'
        have hz := HZA.out k hkn
        obtain ⟨x0, hx0⟩ : ∃ x, A'.getD k 0 = x := ⟨_, rfl⟩
        obtain ⟨x1, hx1⟩ : ∃ x, B'.getD k 0 = x := ⟨_, rfl⟩
        obtain ⟨x2, hx2⟩ : ∃ x, C'.getD k 0 = x := ⟨_, rfl⟩
        obtain ⟨x3, hx3⟩ : ∃ x, (partZ Z k).getD k 0 = x := ⟨_, rfl⟩
        rw [hx0] at l0 hz
        rw [hx1] at l1 hz
        rw [hx2] at l2 hz
        rw [hx3] at l3
        have z1 := xor_u8 x0 x1
        have z2 := xor_u8 (x0 ^^^ x1) x2
        obtain ⟨y, hy⟩ : ∃ y, x0 ^^^ x1 = y := ⟨_, rfl⟩
        rw [hy] at z1 z2 hz
        obtain ⟨z, hzz⟩ : ∃ z, y ^^^ x2 = z := ⟨_, rfl⟩
        rw [hzz] at z2 hz
        have HS : Hid ((partZ Z k).set k z = partZ Z (k + 1)) := Lib.hid (by rw [← hz]; exact partZ_set Z (by rw [LZ.out]; exact hkn))
        clear hp0 hp1 hp2 hx0 hx1 hx2 hx3 hy hzz hz HR0 HB1
        go_wp2_with fail
        go_region
        have hRn : Row ((wr.setCell ⟨g, k, none⟩ (byteV z)).drew) g (partZ Z (k + 1)) := by rw [← HS.out]; exact HR.out.set k z
        have hBn : Below wc.heap.size wc ((wr.setCell ⟨g, k, none⟩ (byteV z)).drew) := ((only_grown (grown_set (World.grownBy.refl wr (some g)) _)).below HBr.out (by intro j hj; rw [List.mem_singleton.1 hj]; exact HGW.out) HBr.out.size).drew
        have HRn := Lib.hid hRn
        have HBn := Lib.hid hBn
        clear hRn hBn
        go_wp2_with fail
        go_roundw
        case rel => exact ⟨k + 1, by omega, by go_num, HRn, HBn⟩
        case measure => simp [intOf]; omega
      · obtain rfl : k = n := by omega
        have hR := HR.out
        rw [show partZ Z k = Z from by rw [← LZ.out]; exact partZ_full Z] at hR
        have HZs := Lib.hid (hR.bs LZ.out)
        have LZ7 : Hid (Z.length ≤ maxB) := Lib.hid (by rw [LZ.out]; exact maxIn_B hn7)
        have LA7 : Hid (A'.length ≤ maxB) := Lib.hid (by rw [LA.out]; exact maxIn_B hn7)
        have LB7 : Hid (B'.length ≤ maxB) := Lib.hid (by rw [LB.out]; exact maxIn_B hn7)
        have LC7 : Hid (C'.length ≤ maxB) := Lib.hid (by rw [LC.out]; exact maxIn_B hn7)
        have z1 := xor_w (sumL A') (sumL B')
        have z2 := xor_w (sumL A' ^^^ sumL B') (sumL C')
        rw [← H3'.out] at z2
        obtain ⟨y, hy⟩ : ∃ y, sumL A' ^^^ sumL B' = y := ⟨_, rfl⟩
        rw [hy] at z1 z2
        clear hR hy HR0 HB1
        go_wp2_with fail
        refine (sum_any _ Z _ (HE.out.below HBr.out) HZs.out LZ7.out).mono ?_
        rintro e w3 ⟨rfl, b3⟩
        have HB3 := Lib.hid (then_ HBr.out b3)
        clear b3
        go_wp2_with fail
        refine (sum_any _ A' _ (HE.out.below HB3.out) (HA.out.below HB3.out) LA7.out).mono ?_
        rintro e w4 ⟨rfl, b4⟩
        have HB4 := Lib.hid (then_ HB3.out b4)
        clear b4
        go_wp2_with fail
        refine (sum_any _ B' _ (HE.out.below HB4.out) (HB.out.below HB4.out) LB7.out).mono ?_
        rintro e w5 ⟨rfl, b5⟩
        have HB5 := Lib.hid (then_ HB4.out b5)
        clear b5
        go_wp2_with fail
        refine (sum_any _ C' _ (HE.out.below HB5.out) (HC.out.below HB5.out) LC7.out).mono ?_
        rintro e w6 ⟨rfl, b6⟩
        have HB6 := Lib.hid (then_ HB5.out b6)
        clear b6
        go_wp2_with fail
        refine (wakes_any _ (HE.out.below HB6.out)).mono ?_
        rintro e w7 ⟨rfl, b7⟩
        have HB7 := Lib.hid (then_ HB6.out b7)
        clear b7
        go_wp2_with fail
        go_ret
        exact ⟨rfl, HB7.out⟩
end Go.Proofs.YthoccemfdndkhaaDoor.Crc
