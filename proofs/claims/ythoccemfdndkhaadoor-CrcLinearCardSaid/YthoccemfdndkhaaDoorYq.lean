/- The walk of CrcParts. -/
import Derived.Test.YthoccemfdndkhaaDoorYp
set_option linter.unusedSimpArgs false
set_option linter.unusedVariables false
namespace Go.Proofs.YthoccemfdndkhaaDoor.Crc
open Go Go.RowKit Gm
attribute [local go_sem ↓] Go.wp_at_zero Go.wp_at_succ

theorem bs_cap {w : World} {p : Option Addr} {m cap : Nat} {L : List UInt8} (h : Bs w (.slice p m cap) L) : L.length = m ∧ m ≤ cap ∧ (p = none → cap = 0) := by
  rcases h with ⟨h, rfl⟩ | ⟨a, c, h1, h2, _⟩
  · simp only [Value.slice.injEq] at h
    obtain ⟨rfl, rfl, rfl⟩ := h
    exact ⟨rfl, Nat.le_refl _, fun _ => rfl⟩
  · simp only [Value.slice.injEq] at h1
    obtain ⟨rfl, rfl, rfl⟩ := h1
    exact ⟨rfl, h2, fun h => by cases h⟩
/-- The first k bytes of a slice. -/
theorem pre_b {w : World} {p : Option Addr} {m cap : Nat} {L : List UInt8} (h : Bs w (.slice p m cap) L) {k : Nat} (hk : k ≤ m) : (∀ W : World, (Instr.slice 22 (.slice p m cap) none (some (.int .i64 (k : Int))) none).run Tryd.prog W = .ok (.slice p k cap) W) ∧ Bs w (.slice p k cap) (L.take k) := by
  obtain ⟨h1, h2, h3⟩ := bs_cap h
  refine ⟨slice_pre_b p m cap k hk h2 h3, ?_⟩
  cases p with
  | none =>
    have := h3 rfl
    subst this
    obtain rfl : m = 0 := by omega
    obtain rfl : k = 0 := by omega
    have := List.eq_nil_of_length_eq_zero h1
    subst this
    exact Bs.nil _
  | some a =>
    subst h1
    exact Bs.take h hk
/-- The bytes from k on. -/
theorem suf_b {w : World} {p : Option Addr} {m cap : Nat} {L : List UInt8} (h : Bs w (.slice p m cap) L) {k r : Nat} (hk : k + r = m) : ∃ (A : Option Addr) (c : Nat), (∀ W : World, (Instr.slice 22 (.slice p m cap) (some (.int .i64 (k : Int))) none none).run Tryd.prog W = .ok (.slice A r c) W) ∧ Bs w (.slice A r c) (L.drop k) := by
  obtain ⟨h1, h2, h3⟩ := bs_cap h
  cases p with
  | none =>
    have := h3 rfl
    subst this
    obtain rfl : m = 0 := by omega
    obtain rfl : k = 0 := by omega
    obtain rfl : r = 0 := by omega
    have := List.eq_nil_of_length_eq_zero h1
    subst this
    refine ⟨none, 0, fun W => ?_, Bs.nil _⟩
    go_simp
  | some a =>
    obtain ⟨b, o, fl⟩ := a
    subst h1
    have e : L.length - k = r := by omega
    by_cases hc : cap = k
    · have hd := Bs.drop h (K := k) (by omega) (A := some ⟨b, o, fl⟩) (by rw [if_pos hc])
      rw [e] at hd
      subst hc
      obtain rfl : r = 0 := by omega
      refine ⟨some ⟨b, o, fl⟩, cap - cap, fun W => ?_, hd⟩
      have e2 : (L.length : Int) = (cap : Int) := by omega
      have e3 : L.length = cap := by omega
      rw [e3]
      go_simp
    · have hd := Bs.drop h (K := k) (by omega) (A := some (Addr.add ⟨b, o, fl⟩ k)) (by rw [if_neg hc])
      rw [e] at hd
      refine ⟨_, _, fun W => ?_, hd⟩
      have q1 : (k : Int) ≤ (cap : Int) := by omega
      have q2 : k ≤ cap := by omega
      have q4 : ¬ ((cap : Int) = (k : Int)) := by omega
      have q6 : ¬ ((L.length : Int) < (k : Int)) := by omega
      have q7 : ¬ (cap < L.length) := by omega
      have q8 : k ≤ L.length := by omega
      go_simp
set_option maxHeartbeats 4000000 in
set_option maxRecDepth 100000 in
theorem law_cparts (v : Value) (L : List UInt8) (sum : BitVec 32) (n : Nat) (W : World) (hE : Env W) (hB : Bs W v L) (hl : L.length ≤ maxIn) (hn : n < 65536) : Calls Tryd.prog 7 #[v, u32V sum, .int .u16 (n : Int)] W (Gives (.bool true) W) := by
  obtain ⟨p, cap, rfl⟩ := hB.form
  obtain ⟨k, hk⟩ : ∃ k, n % (L.length + 1) = k := ⟨_, rfl⟩
  have hkl : k ≤ L.length := by have := Nat.mod_lt n (show 0 < L.length + 1 by omega); omega
  obtain ⟨r1, hP⟩ := pre_b hB hkl
  obtain ⟨A, c, r2, hS⟩ := suf_b hB (k := k) (r := L.length - k) (by omega)
  have lP : (L.take k).length ≤ maxB := by rw [List.length_take]; exact maxIn_B (by omega)
  have lS : (L.drop k).length ≤ maxB := by rw [List.length_drop]; exact maxIn_B (by omega)
  have e1 : extL (extL sum (L.take k)) (L.drop k) = extL sum L := by rw [extL_append, List.take_append_drop]
  have e2 : extL (sumL (L.take k)) (L.drop k) = sumL L := by unfold sumL; rw [extL_append, List.take_append_drop]
  have H1 := Lib.hid (fun (w : World) (h : Below W.heap.size W w) => extend_any sum _ _ w (hE.below h) (hP.below h) lP)
  have H2 := Lib.hid (fun (w : World) (h : Below W.heap.size W w) => extend_any (extL sum (L.take k)) _ _ w (hE.below h) (hS.below h) lS)
  have H3 := Lib.hid (fun (w : World) (h : Below W.heap.size W w) => extend_any sum _ _ w (hE.below h) (hB.below h) (maxIn_B hl))
  have H4 := Lib.hid (fun (w : World) (h : Below W.heap.size W w) => sum_any _ _ w (hE.below h) (hP.below h) lP)
  have H5 := Lib.hid (fun (w : World) (h : Below W.heap.size W w) => extend_any (sumL (L.take k)) _ _ w (hE.below h) (hS.below h) lS)
  have H6 := Lib.hid (fun (w : World) (h : Below W.heap.size W w) => sum_any _ _ w (hE.below h) (hB.below h) (maxIn_B hl))
  have H7 := Lib.hid (fun (w : World) (h : Below W.heap.size W w) => extend_any sum _ [] w (hE.below h) (Bs.nil _) (by decide))
  have H8 := Lib.hid (fun (w : World) (h : Below W.heap.size W w) => wakes_any w (hE.below h))
  rw [e1] at H2
  rw [e2] at H5
  rw [extL_nil] at H7
  unfold u32V at *
  generalize (extL sum (L.take k)).toNat = x1 at *
  generalize (extL sum L).toNat = x3 at *
  generalize (sumL (L.take k)).toNat = x4 at *
  generalize (sumL L).toNat = x6 at *
  generalize sum.toNat = s at *
  obtain ⟨m, hm⟩ : ∃ m, L.length = m := ⟨_, rfl⟩
  rw [hm] at r1 r2 H2 H3 H5 H6 hk hkl ⊢
  obtain ⟨q, hq⟩ : ∃ q, m - k = q := ⟨_, rfl⟩
  rw [hq] at r2 H2 H5
  have hm7 : m ≤ 140737488351232 := by rw [← hm]; exact hl
  have hk0 : (n : Int) % ((m : Int) + 1) = (k : Int) := by rw [← hk]; norm_cast
  have hk1 : (n : Int).tmod ((m : Int) + 1) = (k : Int) := by rw [← hk0]; exact Int.tmod_eq_emod_of_nonneg (by omega)
  have hz : ¬ ((m : Int) + 1 = 0) := by omega
  clear e1 e2 hE hB hl hP hS lP lS hm hq hk
  go_enter Tryd.func7, Tryd.ntmps7
  go_wp2_with fail
  refine wp_region_later (by kernel_rfl) (by kernel_rfl) ?_
  repeat (quiet_step ((first | (go_at_call 14; exact later_call _ (H8.out _ (Later.bel _))) | (go_at_call 10; first | (with_reducible exact later_call _ (H4.out _ (Later.bel _))) | (with_reducible exact later_call _ (H6.out _ (Later.bel _)))) | (go_at_call 12; first | (with_reducible exact later_call _ (H1.out _ (Later.bel _))) | (with_reducible exact later_call _ (H2.out _ (Later.bel _))) | (with_reducible exact later_call _ (H3.out _ (Later.bel _))) | (with_reducible exact later_call _ (H5.out _ (Later.bel _))) | (with_reducible exact later_call _ (H7.out _ (Later.bel _)))))))
  refine wpQuiet_nil ?_
  intro wz hw'
  obtain ⟨⟨_, hbz⟩, rfl⟩ := hw'
  have HBz := Lib.hid hbz
  clear hbz
  go_wp2_with fail
  go_ret
  exact ⟨rfl, HBz.out⟩
end Go.Proofs.YthoccemfdndkhaaDoor.Crc
