/- The contract of the document's number at a text that begins with no sign. -/
import Derived.Test.YtgjniopcaahgfaaGreatDoorH
set_option linter.unusedSimpArgs false
set_option linter.unusedVariables false
namespace Go.Proofs.YtgjniopcaahgfaaGreatDoor
open Go.RowKit

set_option maxHeartbeats 4000000 in
set_option maxRecDepth 20000 in
theorem number_pos (s : ByteArray) (h0 : 0 < s.size) (hne : ∀ r, s.data.toList ≠ 45 :: r) (h19 : s.size ≤ 19) (w : World) : Calls Tryz.prog 35 #[.string s] w (Num s w) := by
  have hlist := list_at s 0 h0
  simp only [List.drop_zero] at hlist
  have h45 : (((s[0]'h0).toNat : Int) == 45) = false := by
    rw [beq_eq_false_iff_ne]
    intro e
    have : s[0]'h0 = 45 := UInt8.toNat_inj.1 (by have h : (45 : UInt8).toNat = 45 := rfl; omega)
    exact hne _ (by rw [hlist, this])
  have HNE := Lib.hid hne
  have HLI := Lib.hid hlist
  have H19 := Lib.hid h19
  have z0 : (((s.size : Nat) : Int) == 0) = false := by rw [beq_eq_false_iff_ne]; omega
  have z1 : decide ((19 : Int) < (s.size : Int)) = false := by simp; omega
  have i0 : (0 : Int) < (s.size : Int) := by omega
  clear hlist hne h19
  go_enter Tryz.func35, Tryz.ntmps35
  go_wp2_with fail
  go_loop [5, 6] (fun vn vi => ∃ (k : Nat) (a : Int), vn = .int .u64 a ∧ vi = .int .i64 k ∧ k ≤ s.size ∧ Hid (HnInv (s) k a)) (fun _ vi => s.size - (intOf vi).toNat)
  case atStart => exact ⟨0, 0, rfl, rfl, Nat.zero_le _, Lib.hid ⟨0, rfl, rfl, by intro c hc; simp at hc⟩⟩
  case round =>
    obtain ⟨k, a, rfl, rfl, hk, hh⟩ := hrel
    obtain ⟨a0, a1, a2⟩ := hh.out.bounds (by have := H19.out; omega)
    have k19 : (k : Int) ≤ 19 := by have := H19.out; omega
    by_cases hkn : k < s.size
    · have hkr : k < (s).size := hkn
      have a3 : a < 1000000000000000000 := a2 (by have := H19.out; omega)
      clear a1 a2
      have hc256 := ((s)[k]'hkr).toNat_lt
      by_cases hd : 48 ≤ ((s)[k]'hkr).toNat ∧ ((s)[k]'hkr).toNat ≤ 57
      · have HN := Lib.hid (hh.out.next hkr hd)
        obtain ⟨d0, d1⟩ := hd
        clear hh
        go_wp2
        exact ⟨⟨k + 1, _, rfl, by simp, by omega, HN⟩, by simp [intOf]; omega⟩
      · have hm : (s)[k]'hkr ∈ s.data.toList := by
          have := list_at (s) k hkr
          exact List.mem_of_mem_drop (by rw [this]; exact List.mem_cons_self)
        have HB : Hid (∀ n, NumOK s n false) := Lib.hid (numok_bad_pos HNE.out (.inr (.inr ⟨_, hm, hd⟩)))
        have hd' : ((s)[k]'hkr).toNat < 48 ∨ (48 ≤ ((s)[k]'hkr).toNat ∧ 57 < ((s)[k]'hkr).toNat) := by omega
        clear hh hd hm
        rcases hd' with d0 | ⟨d0, d1⟩
        all_goals
          go_wp2
          go_ret2
          exact ⟨_, _, rfl, HB.out _, rfl⟩
    · have hke : k = s.size := by omega
      have HI := Lib.hid hh.out
      have HK := Lib.hid hke
      clear hh hke a2
      have hval : ∃ (c : UInt8) (rl : List UInt8) (v : Nat), a = (v : Int) ∧ s.data.toList = c :: rl ∧ (48 ≤ c.toNat ∧ c.toNat ≤ 57) ∧ decVal 0 (c :: rl) = v := by
        obtain ⟨acc, e1, e2, e3⟩ := HI.out
        have ht : s.data.toList.take k = s.data.toList := List.take_of_length_le (by have := Lib.size_eq s; have := HK.out; omega)
        rw [ht] at e2 e3
        refine ⟨_, _, acc, e1, HLI.out, e3 _ (by rw [HLI.out]; exact List.mem_cons_self), ?_⟩
        rw [e2, ← HLI.out]
      obtain ⟨c, rl, v, hv1, hs, hc, hv2⟩ := hval
      obtain ⟨g1, g2⟩ := numok_pos hs hc hv2
      have G1 := Lib.hid g1
      have G2 := Lib.hid g2
      have HV := Lib.hid hv1
      clear g1 g2 hv1 hv2 HI hs hc
      by_cases h63 : a ≤ 9223372036854775807
      · have HG : Hid (NumOK s a true) := Lib.hid (by rw [HV.out]; exact G1.out (by have := HV.out; omega))
        have hwn : wrap64 a = a := by unfold wrap64; omega
        go_wp2
        go_ret2
        exact ⟨_, _, rfl, HG.out, rfl⟩
      · have HG : Hid (∀ n, NumOK s n (decide (a ≤ 9223372036854775807))) := Lib.hid (by rw [decide_eq_false h63]; exact G2.out (by have := HV.out; omega))
        have h63' : (9223372036854775807 : Int) < a := by omega
        clear h63
        go_wp2
        all_goals go_ret2
        all_goals exact ⟨_, _, rfl, HG.out _, rfl⟩

set_option maxHeartbeats 1000000 in
set_option maxRecDepth 20000 in
theorem number_empty (s : ByteArray) (h0 : s.size = 0) (w : World) : Calls Tryz.prog 35 #[.string s] w (Num s w) := by
  have hnil : s.data.toList = [] := List.eq_nil_of_length_eq_zero (by have := Lib.size_eq s; omega)
  have HB : Hid (∀ n, NumOK s n false) := Lib.hid (numok_bad_pos (by rw [hnil]; simp) (.inl hnil))
  clear hnil
  have i0 : ¬ (0 : Int) < (s.size : Int) := by omega
  have z0 : ((s.size : Int) == 0) = true := by rw [beq_iff_eq]; omega
  have H0 := Lib.hid h0
  clear h0
  go_enter Tryz.func35, Tryz.ntmps35
  go_wp2
  all_goals go_ret2
  all_goals exact ⟨_, _, rfl, HB.out _, rfl⟩
set_option maxHeartbeats 1000000 in
set_option maxRecDepth 20000 in
theorem number_long (s : ByteArray) (h19 : 19 < s.size) (hne : ∀ r, s.data.toList ≠ 45 :: r) (w : World) : Calls Tryz.prog 35 #[.string s] w (Num s w) := by
  have h0 : 0 < s.size := by omega
  have hlist := list_at s 0 h0
  simp only [List.drop_zero] at hlist
  have h45 : (((s[0]'h0).toNat : Int) == 45) = false := by
    rw [beq_eq_false_iff_ne]
    intro e
    have : s[0]'h0 = 45 := UInt8.toNat_inj.1 (by have h : (45 : UInt8).toNat = 45 := rfl; omega)
    exact hne _ (by rw [hlist, this])
  have HB : Hid (∀ n, NumOK s n false) := Lib.hid (numok_bad_pos hne (.inr (.inl (by have := Lib.size_eq s; omega))))
  have i0 : (0 : Int) < (s.size : Int) := by omega
  have z0 : ((s.size : Int) == 0) = false := by rw [beq_eq_false_iff_ne]; omega
  have z1 : decide ((19 : Int) < (s.size : Int)) = true := by simp; omega
  clear hne hlist
  go_enter Tryz.func35, Tryz.ntmps35
  go_wp2
  all_goals go_ret2
  all_goals exact ⟨_, _, rfl, HB.out _, rfl⟩
set_option maxHeartbeats 1000000 in
set_option maxRecDepth 20000 in
theorem number_sign (s : ByteArray) (rl : List UInt8) (h0 : 0 < s.size) (hs : s.data.toList = 45 :: rl) (h : s.size - 1 = 0 ∨ 19 < s.size - 1) (w : World) : Calls Tryz.prog 35 #[.string s] w (Num s w) := by
  have hl : rl.length = s.size - 1 := by
    have a2 := Lib.size_eq s
    rw [hs, List.length_cons] at a2; omega
  have h45 : (((s[0]'h0).toNat : Int) == 45) = true := by
    have := list_at s 0 h0
    simp only [List.drop_zero] at this
    rw [hs] at this
    simp only [List.cons.injEq] at this
    rw [← this.1]; rfl
  have HB : Hid (∀ n, NumOK s n false) := Lib.hid (numok_bad_neg hs (h.imp (fun h => List.eq_nil_of_length_eq_zero (by omega)) (fun h => .inl (by omega))))
  have i0 : (0 : Int) < (s.size : Int) := by omega
  have i1 : (1 : Int) ≤ (s.size : Int) := by omega
  rcases h with h | h
  · have z0 : (((s.size - 1 : Nat) : Int) == 0) = true := by rw [beq_iff_eq]; omega
    clear hs hl
    go_enter Tryz.func35, Tryz.ntmps35
    go_wp2
    all_goals go_ret2
    all_goals exact ⟨_, _, rfl, HB.out _, rfl⟩
  · have z0 : (((s.size - 1 : Nat) : Int) == 0) = false := by rw [beq_eq_false_iff_ne]; omega
    have z1 : decide ((19 : Int) < ((s.size - 1 : Nat) : Int)) = true := by simp; omega
    clear hs hl
    go_enter Tryz.func35, Tryz.ntmps35
    go_wp2
    all_goals go_ret2
    all_goals exact ⟨_, _, rfl, HB.out _, rfl⟩
end Go.Proofs.YtgjniopcaahgfaaGreatDoor
