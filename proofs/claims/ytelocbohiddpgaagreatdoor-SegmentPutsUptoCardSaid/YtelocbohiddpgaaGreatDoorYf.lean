/- slices.Grow, slices.Concat of two rows of bytes and slices.Clone, walked. -/
import Derived.Test.YtelocbohiddpgaaGreatDoorGb
import Derived.Lib.AppendZeros
import Derived.Lib.BufferMore
set_option linter.unusedSimpArgs false
set_option linter.unusedVariables false
namespace Go.Proofs.YtelocbohiddpgaaGreatDoor.Gm
open Go Go.RowKit
attribute [local go_sem ↓] Go.wp_at_zero Go.wp_at_succ

theorem zeros_sizeB (z : Value) (k : Nat) : (Builtin.zeroCells z.cells k).size = k * z.cells.size := by
  unfold Builtin.zeroCells
  simp
set_option maxHeartbeats 4000000 in
set_option maxRecDepth 100000 in
/-- slices.Grow of no slice: an own row of no byte. -/
theorem growB_any (N : Nat) (hN : N ≤ 140737488355328) (w : World) : Calls Tryz.prog 79 #[.slice none 0 0, .int .i64 (N : Int)] w fun e w' => ∃ p c, e = .returned (.slice p 0 c) ∧ w'.ownsRow w.heap.size 5 1 (.slice p 0 c) 0 [] ∧ Below w.heap.size w w' := by
  obtain ⟨i0, ii, iz0, iz1, iz2⟩ := info_parts infoB
  by_cases h0 : N = 0
  · subst h0
    go_enter Tryz.func79, Tryz.ntmps79
    go_wp2
    go_ret
    exact ⟨none, 0, rfl, World.ownsRow_nil _ _ _ _, Below.refl _ _⟩
  · have hr0 := Lib.run_append_nil_zeros (P := Tryz.prog) w 23 3 23 5 i0 (.int .u8 0) .i64 .i64 Tryz.underlying23 Tryz.underlying3 ii iz0 N (by omega) (by omega) (by omega) (by rw [iz2]; omega)
    have hc1 := grownCap_ge w N 0 5
    have hc2 := grownCap_le_maxLen w N 0 5 (by unfold maxLen; omega)
    obtain ⟨C, hC⟩ : ∃ C, grownCap w N 0 5 = C := ⟨_, rfl⟩
    rw [hC] at hr0 hc1 hc2
    obtain ⟨Z, hZ⟩ : ∃ Z, Builtin.zeroCells (Value.int .u8 0).cells N ++ Builtin.zeroCells (Value.int .u8 0).cells (C - N) = Z := ⟨_, rfl⟩
    have hZs : Z.size = C * 1 := by
      rw [← hZ, Array.size_append, zeros_sizeB, zeros_sizeB]
      show N * 1 + (C - N) * 1 = C * 1
      omega
    rw [hZ] at hr0
    have hr := Lib.hid hr0
    have HB : Hid (Below w.heap.size w (w.drew.alloc (.cells Z 5))) := Lib.hid (((Below.refl _ w).drew).alloc (Nat.le_refl _) _)
    have HK : Hid (Blk (w.drew.alloc (.cells Z 5)) w.heap.size 5 Z) := Lib.hid (Blk.new w.drew 5 Z)
    have HZ := Lib.hid hZs
    have HM := Lib.hid hc2
    have hn : 0 < N := by omega
    clear h0 hr0 hC hZ hZs hc2
    go_enter Tryz.func79, Tryz.ntmps79
    go_wp2_with (at_builtin; refine Lib.wpList_append_run _ rfl _ _ _ _ rfl _ _ rfl rfl _ _ hr.out ?_)
    go_ret
    refine ⟨_, C, rfl, ⟨rfl, .inr ⟨w.heap.size, C, Z, rfl, Nat.le_refl _, HK.out, Nat.zero_le _, HM.out, HZ.out, by simp⟩⟩, HB.out⟩
/-- How many bytes the first k of two rows have. -/
def tot2B (m n k : Nat) : Nat := if k = 0 then 0 else if k = 1 then m else m + n
def part2B (p q : List UInt8) (k : Nat) : List Value := if k = 0 then [] else if k = 1 then cellsB p else cellsB p ++ cellsB q
set_option maxHeartbeats 8000000 in
set_option maxRecDepth 100000 in
theorem concatB_any (bb : Nat) (v0 v1 : Value) (p q : List UInt8) (w : World) (hK : Blk w bb 23 #[v0, v1]) (hP : Bs w v0 p) (hQ : Bs w v1 q) (lpq : p.length + q.length ≤ 140737488355328) : Calls Tryz.prog 49 #[.slice (some ⟨bb, 0, none⟩) 2 2] w (MadeB (p ++ q) w) := by
  obtain ⟨i0, ii, iz0, iz1, iz2⟩ := info_parts infoB
  obtain ⟨p0, c0, rfl⟩ := hP.form
  obtain ⟨p1, c1, rfl⟩ := hQ.form
  obtain ⟨m, hm⟩ : ∃ m, p.length = m := ⟨_, rfl⟩
  obtain ⟨n, hn⟩ : ∃ n, q.length = n := ⟨_, rfl⟩
  have HSa := Lib.hid (fun W (h : Below w.heap.size w W) => (hP.below h).src)
  have HSb := Lib.hid (fun W (h : Below w.heap.size w W) => (hQ.below h).src)
  have HK := Lib.hid hK
  rw [hm] at HSa lpq
  rw [hn] at HSb lpq
  have HM := Lib.hid hm
  have HN := Lib.hid hn
  rw [hm] at HK
  rw [hn] at HK
  clear hm hn hP hQ hK
  have k0 := HK.out.cell 0 rfl
  have k1 := HK.out.cell 1 rfl
  have wm : IntKind.i64.wrap (m : Int) = (m : Int) := by rw [IntKind.wrap_i64]; omega
  go_enter Tryz.func49, Tryz.ntmps49
  go_wp2_with fail
  go_loop [3, 11] (fun u i => ∃ k : Nat, k ≤ 2 ∧ i = .int .i64 k ∧ u = .int .i64 (tot2B m n k : Nat)) (fun _ i => 2 - (intOf i).toNat)
  case atStart => exact ⟨0, by omega, rfl, rfl⟩
  case round =>
    obtain ⟨k, hk, rfl, rfl⟩ := hrel
    obtain rfl | rfl | rfl : k = 0 ∨ k = 1 ∨ k = 2 := by omega
    · have t0 : tot2B m n 0 = 0 := rfl
      rw [t0]
      go_wp2_with fail
      go_round
      case rel => exact ⟨1, by omega, by simp, by rw [show tot2B m n 1 = m from rfl]⟩
      case measure => simp [intOf]
    · have t1 : tot2B m n 1 = m := rfl
      rw [t1]
      have h0 : 0 ≤ (m : Int) + (n : Int) := by omega
      go_wp2_with fail
      go_round
      case rel => exact ⟨2, by omega, by simp, by rw [show tot2B m n 2 = m + n from rfl]; go_num⟩
      case measure => simp [intOf]
    · have t2 : tot2B m n 2 = m + n := rfl
      rw [t2]
      have HG := Lib.hid (growB_any (m + n) (by omega) w)
      clear t2
      obtain ⟨N, hN⟩ : ∃ N, m + n = N := ⟨_, rfl⟩
      rw [hN] at HG ⊢
      have HNm := Lib.hid hN
      have hNl : N ≤ 140737488355328 := by omega
      have hmN : m ≤ N := by omega
      clear hN
      go_wp2_with fail
      refine HG.out.mono ?_; rintro e w1 ⟨pG, cG, rfl, hO1, hB1⟩
      have HO1 := Lib.hid hO1
      have HB1 := Lib.hid hB1
      have HK1 := Lib.hid (HK.out.later hB1)
      have hz := HK.out.lt
      clear HG hO1 hB1
      go_wp2_with fail
      go_loopw [6, 27] (fun u i wr => ∃ (k : Nat) (pU : Option Addr) (cU : Nat), k ≤ 2 ∧ i = .int .i64 k ∧ u = .slice pU (tot2B m n k) cU ∧ Hid (wr.ownsRow w.heap.size 5 1 (.slice pU (tot2B m n k) cU) (tot2B m n k) (part2B p q k)) ∧ Hid (Below w.heap.size w wr)) (fun _ i _ => 2 - (intOf i).toNat)
      case atStart => exact ⟨0, pG, cG, by omega, rfl, rfl, HO1, HB1⟩
      case round =>
        obtain ⟨k, pU, cU, hk, rfl, rfl, HO, HBel⟩ := hrel
        clear HO1 HB1 HK1
        have HKr := Lib.hid (HK.out.later HBel.out)
        have r0 := HKr.out.cell 0 rfl
        have r1 := HKr.out.cell 1 rfl
        have hzr := HBel.out.size
        obtain rfl | rfl | rfl : k = 0 ∨ k = 1 ∨ k = 2 := by omega
        · rw [show tot2B m n 0 = 0 from rfl, show part2B p q 0 = [] from rfl] at HO
          rw [show tot2B m n 0 = 0 from rfl]
          go_wp2_with (at_builtin; refine wpList_append_src rfl _ _ 23 (by rfl) w.heap.size 5 i0 (.int .u8 0) 1 1 Tryz.underlying23 ii iz0 iz1 iz2 rfl (by decide) _ _ _ (by rfl) HO.out _ m (cellsB p) (by rfl) (HSa.out _ HBel.out) m (by omega) (by unfold maxLen; omega) (by omega) hzr ?_; intro pA capA w3 hown3 hgrow3; have HO3 := Lib.hid hown3; have HB3 := Lib.hid (HBel.out.grown hgrow3 hzr (fun j hj => (World.ownsRow.lt HO.out j hj).1)); clear hown3 hgrow3)
          go_roundw
          case rel => exact ⟨1, pA, capA, by omega, by simp, rfl, HO3, HB3⟩
          case measure => simp [intOf]
        · rw [show tot2B m n 1 = m from rfl, show part2B p q 1 = cellsB p from rfl] at HO
          rw [show tot2B m n 1 = m from rfl]
          go_wp2_with (at_builtin; refine wpList_append_src rfl _ _ 23 (by rfl) w.heap.size 5 i0 (.int .u8 0) 1 1 Tryz.underlying23 ii iz0 iz1 iz2 rfl (by decide) _ _ _ (by rfl) HO.out _ n (cellsB q) (by rfl) (HSb.out _ HBel.out) (m + n) rfl (by unfold maxLen; omega) (by omega) hzr ?_; intro pA capA w3 hown3 hgrow3; have HO3 := Lib.hid hown3; have HB3 := Lib.hid (HBel.out.grown hgrow3 hzr (fun j hj => (World.ownsRow.lt HO.out j hj).1)); clear hown3 hgrow3)
          go_roundw
          case rel => exact ⟨2, pA, capA, by omega, by simp, rfl, HO3, HB3⟩
          case measure => simp [intOf]
        · rw [show tot2B m n 2 = m + n from rfl, show part2B p q 2 = cellsB p ++ cellsB q from rfl] at HO
          rw [show tot2B m n 2 = m + n from rfl]
          have HF : Hid (OwnB wr w.heap.size (.slice pU (m + n) cU) (p ++ q)) := Lib.hid (ownB_app HO.out (by rw [HM.out, HN.out]))
          go_wp2_with fail
          go_ret
          exact ⟨_, rfl, HF.out, HBel.out⟩
set_option maxHeartbeats 1000000 in
set_option maxRecDepth 100000 in
/-- slices.Clone of bytes. -/
theorem cloneB_any (v : Value) (L : List UInt8) (w : World) (hB : Bs w v L) (hl : L.length ≤ 140737488355328) : Calls Tryz.prog 85 #[v] w (MadeB L w) := by
  obtain ⟨i0, ii, iz0, iz1, iz2⟩ := info_parts infoB
  have HS := Lib.hid (fun W (h : Below w.heap.size w W) => (hB.below h).src)
  rcases hB with ⟨rfl, rfl⟩ | ⟨a, cap, rfl, h2, h3⟩
  · have hq := Lib.run_eql_slice_nil_nil (P := Tryz.prog) w (t := 23) 0 0 Tryz.underlying23
    go_enter Tryz.func85, Tryz.ntmps85
    go_wp2_with fail
    go_ret
    exact ⟨_, rfl, OwnB.nil _ _, Below.refl _ _⟩
  · obtain ⟨m, hm⟩ : ∃ m, L.length = m := ⟨_, rfl⟩
    have HM := Lib.hid hm
    rw [hm] at HS hl ⊢
    have hq := Lib.run_eql_slice_some_nil (P := Tryz.prog) w (t := 23) a m cap Tryz.underlying23
    have HO := Lib.hid (ownB_lit w [] #[] 0 rfl rfl (by simp))
    have HB := Lib.hid (below_one w (.cells #[] 5))
    clear hm h2 h3
    go_enter Tryz.func85, Tryz.ntmps85
    go_wp2_with (at_builtin; refine wpList_append_src rfl _ _ 23 (by rfl) w.heap.size 5 i0 (.int .u8 0) 1 1 Tryz.underlying23 ii iz0 iz1 iz2 rfl (by decide) _ _ _ (by rfl) HO.out _ m (cellsB L) (by rfl) (HS.out _ HB.out) m (by simp) (by unfold maxLen; omega) (by omega) (by simp) ?_; intro pA capA w3 hown3 hgrow3; have HO3 := Lib.hid hown3; have HB3 := Lib.hid (HB.out.grown hgrow3 (by simp) (fun j hj => (World.ownsRow.lt HO.out j hj).1)); clear hown3 hgrow3)
    go_ret
    exact ⟨_, rfl, ownB_app HO3.out (by rw [HM.out]; simp), HB3.out⟩
end Go.Proofs.YtelocbohiddpgaaGreatDoor.Gm
