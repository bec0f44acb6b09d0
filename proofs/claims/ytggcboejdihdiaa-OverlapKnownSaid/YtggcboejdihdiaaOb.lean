/- slices.Grow and slices.Concat of two predicates, walked. -/
import Derived.Test.YtggcboejdihdiaaRMs
import Derived.Test.YtggcboejdihdiaaKp
import Derived.Lib.AppendZeros
set_option linter.unusedSimpArgs false
set_option linter.unusedVariables false
namespace Go.Proofs.Ytggcboejdihdiaa.Gm
open Go Go.RowKit
attribute [local go_sem ↓] Go.wp_at_zero Go.wp_at_succ

theorem zeros_size (z : Value) (k : Nat) : (Builtin.zeroCells z.cells k).size = k * z.cells.size := by
  unfold Builtin.zeroCells
  simp
/-- A row that the call has put together from two rows that came in. -/
theorem cs_pair {w : World} {base : Nat} {v : Value} {a b : List Cn} {N : Nat} (hN : N = a.length + b.length) (h : w.ownsRow base 34 7 v N (a.flatMap encC ++ b.flatMap encC)) (hl : a.length + b.length ≤ 1599289640401) (ha : ∀ c ∈ a, Vs w c.sv c.set) (hb : ∀ c ∈ b, Vs w c.sv c.set) : Cs w v (a ++ b) := by
  refine ⟨row_of_own (base := base) (e := 34) encC_length ?_, by rw [List.length_append]; exact hl, fun c hc => ?_⟩
  · rw [List.length_append, List.flatMap_append, ← hN]; exact h
  · rcases List.mem_append.1 hc with hc | hc
    · exact ha c hc
    · exact hb c hc
set_option maxHeartbeats 4000000 in
set_option maxRecDepth 100000 in
/-- slices.Grow of no slice: an own row of no element. -/
theorem grow_any (N : Nat) (hN : N ≤ 1000) (w : World) : Calls Try.prog 52 #[.slice none 0 0, .int .i64 (N : Int)] w fun e w' => ∃ p c, e = .returned (.slice p 0 c) ∧ w'.ownsRow w.heap.size 34 7 (.slice p 0 c) 0 [] ∧ Below w.heap.size w w' := by
  obtain ⟨i0, ii, iz0, iz1, iz2⟩ := info_parts infoC
  by_cases h0 : N = 0
  · subst h0
    go_enter Try.func52, Try.ntmps52
    go_wp2
    go_ret
    exact ⟨none, 0, rfl, World.ownsRow_nil _ _ _ _, Below.refl _ _⟩
  · have hr0 := Lib.run_append_nil_zeros (P := Try.prog) w 23 3 23 34 i0 (.agg #[.string ⟨#[]⟩, .int .i64 0, .int .i64 0, .int .i64 0, .string ⟨#[]⟩, .bool false, .slice none 0 0]) .i64 .i64 Try.underlying23 Try.underlying3 ii iz0 N (by omega) (by omega) (by omega) (by rw [iz2]; omega)
    have hc1 := grownCap_ge w N 0 34
    have hc2 := grownCap_le_maxLen w N 0 34 (by unfold maxLen; omega)
    obtain ⟨C, hC⟩ : ∃ C, grownCap w N 0 34 = C := ⟨_, rfl⟩
    rw [hC] at hr0 hc1 hc2
    obtain ⟨Z, hZ⟩ : ∃ Z, Builtin.zeroCells (Value.agg #[.string ⟨#[]⟩, .int .i64 0, .int .i64 0, .int .i64 0, .string ⟨#[]⟩, .bool false, .slice none 0 0]).cells N ++ Builtin.zeroCells (Value.agg #[.string ⟨#[]⟩, .int .i64 0, .int .i64 0, .int .i64 0, .string ⟨#[]⟩, .bool false, .slice none 0 0]).cells (C - N) = Z := ⟨_, rfl⟩
    have hZs : Z.size = C * 7 := by
      rw [← hZ, Array.size_append, zeros_size, zeros_size]
      show N * 7 + (C - N) * 7 = C * 7
      omega
    rw [hZ] at hr0
    have hr := Lib.hid hr0
    have HB : Hid (Below w.heap.size w (w.drew.alloc (.cells Z 34))) := Lib.hid (((Below.refl _ w).drew).alloc (Nat.le_refl _) _)
    have HK : Hid (Blk (w.drew.alloc (.cells Z 34)) w.heap.size 34 Z) := Lib.hid (Blk.new w.drew 34 Z)
    have HZ := Lib.hid hZs
    have HM := Lib.hid hc2
    have hn : 0 < N := by omega
    clear h0 hr0 hC hZ hZs hc2
    go_enter Try.func52, Try.ntmps52
    go_wp2_with (at_builtin; refine Lib.wpList_append_run _ rfl _ _ _ _ rfl _ _ rfl rfl _ _ hr.out ?_)
    go_ret
    refine ⟨_, C, rfl, ⟨rfl, .inr ⟨w.heap.size, C, Z, rfl, Nat.le_refl _, HK.out, Nat.zero_le _, HM.out, HZ.out, by simp⟩⟩, HB.out⟩
/-- How many elements the first k of two rows have. -/
def tot2 (m n k : Nat) : Nat := if k = 0 then 0 else if k = 1 then m else m + n
def part2 (p q : List Cn) (k : Nat) : List Value := if k = 0 then [] else if k = 1 then p.flatMap encC else p.flatMap encC ++ q.flatMap encC
set_option maxHeartbeats 8000000 in
set_option maxRecDepth 100000 in
theorem concat_any (bb : Nat) (v0 v1 : Value) (p q : List Cn) (w : World) (hK : Blk w bb 23 #[v0, v1]) (hP : Cs w v0 p) (hQ : Cs w v1 q) (lp : p.length ≤ 6) (lq : q.length ≤ 6) : Calls Try.prog 40 #[.slice (some ⟨bb, 0, none⟩) 2 2] w fun e w' => ∃ pR cR, e = .returned (.slice pR (p.length + q.length) cR) ∧ Cs w' (.slice pR (p.length + q.length) cR) (p ++ q) ∧ Below w.heap.size w w' := by
  obtain ⟨i0, ii, iz0, iz1, iz2⟩ := info_parts infoC
  obtain ⟨p0, c0, rfl⟩ := hP.1.form
  obtain ⟨p1, c1, rfl⟩ := hQ.1.form
  have HP := Lib.hid hP
  have HQ := Lib.hid hQ
  have HK := Lib.hid hK
  obtain ⟨m, hm⟩ : ∃ m, p.length = m := ⟨_, rfl⟩
  obtain ⟨n, hn⟩ : ∃ n, q.length = n := ⟨_, rfl⟩
  have HSa := Lib.hid (fun W (h : Below w.heap.size w W) => row_src (by decide) encC_length encC_one (hP.later h).1)
  have HSb := Lib.hid (fun W (h : Below w.heap.size w W) => row_src (by decide) encC_length encC_one (hQ.later h).1)
  rw [hm] at HSa lp
  rw [hn] at HSb lq
  have HM := Lib.hid hm
  have HN := Lib.hid hn
  rw [hm, hn]
  rw [hm] at HK
  rw [hn] at HK
  clear hm hn hP hQ hK
  have k0 := HK.out.cell 0 rfl
  have k1 := HK.out.cell 1 rfl
  have wm : IntKind.i64.wrap (m : Int) = (m : Int) := by rw [IntKind.wrap_i64]; omega
  go_enter Try.func40, Try.ntmps40
  go_wp2_with fail
  go_loop [3, 11] (fun u i => ∃ k : Nat, k ≤ 2 ∧ i = .int .i64 k ∧ u = .int .i64 (tot2 m n k : Nat)) (fun _ i => 2 - (intOf i).toNat)
  case atStart => exact ⟨0, by omega, rfl, rfl⟩
  case round =>
    obtain ⟨k, hk, rfl, rfl⟩ := hrel
    obtain rfl | rfl | rfl : k = 0 ∨ k = 1 ∨ k = 2 := by omega
    · have t0 : tot2 m n 0 = 0 := rfl
      rw [t0]
      go_wp2_with fail
      go_round
      case rel => exact ⟨1, by omega, by simp, by rw [show tot2 m n 1 = m from rfl]⟩
      case measure => simp [intOf]
    · have t1 : tot2 m n 1 = m := rfl
      rw [t1]
      have h0 : 0 ≤ (m : Int) + (n : Int) := by omega
      go_wp2_with fail
      go_round
      case rel => exact ⟨2, by omega, by simp, by rw [show tot2 m n 2 = m + n from rfl]; go_num⟩
      case measure => simp [intOf]
    · have t2 : tot2 m n 2 = m + n := rfl
      rw [t2]
      have HG := Lib.hid (grow_any (m + n) (by omega) w)
      clear t2
      obtain ⟨N, hN⟩ : ∃ N, m + n = N := ⟨_, rfl⟩
      rw [hN] at HG ⊢
      have HNm := Lib.hid hN
      have hNl : N ≤ 12 := by omega
      have hmN : m ≤ N := by omega
      clear hN
      go_wp2_with fail
      refine HG.out.mono ?_; rintro e w1 ⟨pG, cG, rfl, hO1, hB1⟩
      have HO1 := Lib.hid hO1
      have HB1 := Lib.hid hB1
      have HK1 := Lib.hid (HK.out.later hB1)
      have hz := HK.out.lt
      clear HG hO1 hB1
      go_wp2_with fail
      go_loopw [6, 27] (fun u i wr => ∃ (k : Nat) (pU : Option Addr) (cU : Nat), k ≤ 2 ∧ i = .int .i64 k ∧ u = .slice pU (tot2 m n k) cU ∧ Hid (wr.ownsRow w.heap.size 34 7 (.slice pU (tot2 m n k) cU) (tot2 m n k) (part2 p q k)) ∧ Hid (Below w.heap.size w wr)) (fun _ i _ => 2 - (intOf i).toNat)
      case atStart => exact ⟨0, pG, cG, by omega, rfl, rfl, HO1, HB1⟩
      case round =>
        obtain ⟨k, pU, cU, hk, rfl, rfl, HO, HBel⟩ := hrel
        clear HO1 HB1 HK1
        have HKr := Lib.hid (HK.out.later HBel.out)
        have r0 := HKr.out.cell 0 rfl
        have r1 := HKr.out.cell 1 rfl
        have hzr := HBel.out.size
        obtain rfl | rfl | rfl : k = 0 ∨ k = 1 ∨ k = 2 := by omega
        · rw [show tot2 m n 0 = 0 from rfl, show part2 p q 0 = [] from rfl] at HO
          rw [show tot2 m n 0 = 0 from rfl]
          go_wp2_with (at_builtin; refine wpList_append_src rfl _ _ 23 (by rfl) w.heap.size 34 i0 (.agg #[.string ⟨#[]⟩, .int .i64 0, .int .i64 0, .int .i64 0, .string ⟨#[]⟩, .bool false, .slice none 0 0]) 7 88 Try.underlying23 ii iz0 iz1 iz2 rfl (by decide) _ _ _ (by rfl) HO.out _ m (p.flatMap encC) (by rfl) (HSa.out _ HBel.out) m (by omega) (by unfold maxLen; omega) (by omega) hzr ?_; intro pA capA w3 hown3 hgrow3; have HO3 := Lib.hid hown3; have HB3 := Lib.hid (HBel.out.grown hgrow3 hzr (fun j hj => (World.ownsRow.lt HO.out j hj).1)); clear hown3 hgrow3)
          go_roundw
          case rel => exact ⟨1, pA, capA, by omega, by simp, rfl, HO3, HB3⟩
          case measure => simp [intOf]
        · rw [show tot2 m n 1 = m from rfl, show part2 p q 1 = p.flatMap encC from rfl] at HO
          rw [show tot2 m n 1 = m from rfl]
          go_wp2_with (at_builtin; refine wpList_append_src rfl _ _ 23 (by rfl) w.heap.size 34 i0 (.agg #[.string ⟨#[]⟩, .int .i64 0, .int .i64 0, .int .i64 0, .string ⟨#[]⟩, .bool false, .slice none 0 0]) 7 88 Try.underlying23 ii iz0 iz1 iz2 rfl (by decide) _ _ _ (by rfl) HO.out _ n (q.flatMap encC) (by rfl) (HSb.out _ HBel.out) (m + n) rfl (by unfold maxLen; omega) (by omega) hzr ?_; intro pA capA w3 hown3 hgrow3; have HO3 := Lib.hid hown3; have HB3 := Lib.hid (HBel.out.grown hgrow3 hzr (fun j hj => (World.ownsRow.lt HO.out j hj).1)); clear hown3 hgrow3)
          go_roundw
          case rel => exact ⟨2, pA, capA, by omega, by simp, rfl, HO3, HB3⟩
          case measure => simp [intOf]
        · rw [show tot2 m n 2 = m + n from rfl, show part2 p q 2 = p.flatMap encC ++ q.flatMap encC from rfl] at HO
          rw [show tot2 m n 2 = m + n from rfl]
          have HF : Hid (Cs wr (.slice pU (m + n) cU) (p ++ q)) := Lib.hid (cs_pair (by rw [HM.out, HN.out]) HO.out (by rw [HM.out, HN.out]; omega) (HP.out.later HBel.out).2.2 (HQ.out.later HBel.out).2.2)
          go_wp2_with fail
          go_ret
          exact ⟨pU, cU, rfl, HF.out, HBel.out⟩
end Go.Proofs.Ytggcboejdihdiaa.Gm
