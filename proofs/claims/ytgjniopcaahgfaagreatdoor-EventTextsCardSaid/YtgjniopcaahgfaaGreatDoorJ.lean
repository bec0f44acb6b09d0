/- The contract of the document's number. -/
import Derived.Test.YtgjniopcaahgfaaGreatDoorH
set_option linter.unusedSimpArgs false
set_option linter.unusedVariables false
namespace Go.Proofs.YtgjniopcaahgfaaGreatDoor
open Go.RowKit

theorem wrap_neg (a : Int) (h0 : 0 ≤ a) (h : a ≤ 9223372036854775808) : wrap64 (-wrap64 a) = -a := by
  unfold wrap64
  omega

set_option maxHeartbeats 4000000 in
set_option maxRecDepth 20000 in
theorem number_neg (s : ByteArray) (rl : List UInt8) (h0 : 0 < s.size) (hs : s.data.toList = 45 :: rl) (h1 : 0 < s.size - 1) (h19 : s.size - 1 ≤ 19) (w : World) : Calls Tryz.prog 35 #[.string s] w (Num s w) := by
  have hr : (s.extract 1 s.size).data.toList = rl := by rw [Lib.extract_to_end, hs]; rfl
  have hsz : (s.extract 1 s.size).size = s.size - 1 := by
    have a1 := Lib.size_eq (s.extract 1 s.size)
    have a2 := Lib.size_eq s
    rw [hr] at a1; rw [hs, List.length_cons] at a2; omega
  have h45 : (((s[0]'h0).toNat : Int) == 45) = true := by
    have := list_at s 0 h0
    simp only [List.drop_zero] at this
    rw [hs] at this
    simp only [List.cons.injEq] at this
    rw [← this.1]; rfl
  have HR := Lib.hid hr
  have HSZ := Lib.hid hsz
  have HS := Lib.hid hs
  have H19 := Lib.hid h19
  have z0 : ((((s.size - 1 : Nat) : Int)) == 0) = false := by simp; omega
  have z1 : decide ((19 : Int) < ((s.size - 1 : Nat) : Int)) = false := by simp; omega
  have i0 : (0 : Int) < (s.size : Int) := by omega
  have i1 : (1 : Int) ≤ (s.size : Int) := by omega
  clear hr hsz hs h19
  go_enter Tryz.func35, Tryz.ntmps35
  go_wp2_with fail
  go_loop [5, 6] (fun vn vi => ∃ (k : Nat) (a : Int), vn = .int .u64 a ∧ vi = .int .i64 k ∧ k ≤ (s.size - 1) ∧ Hid (HnInv (s.extract 1 s.size) k a)) (fun _ vi => (s.size - 1) - (intOf vi).toNat)
  case atStart => exact ⟨0, 0, rfl, rfl, Nat.zero_le _, Lib.hid ⟨0, rfl, rfl, by intro c hc; simp at hc⟩⟩
  case round =>
    obtain ⟨k, a, rfl, rfl, hk, hh⟩ := hrel
    obtain ⟨a0, a1, a2⟩ := hh.out.bounds (by have := H19.out; omega)
    have k19 : (k : Int) ≤ 19 := by have := H19.out; omega
    by_cases hkn : k < (s.size - 1)
    · have hkr : k < (s.extract 1 s.size).size := by rw [HSZ.out]; exact hkn
      have a3 : a < 1000000000000000000 := a2 (by have := H19.out; omega)
      clear a1 a2
      have hc256 := ((s.extract 1 s.size)[k]'hkr).toNat_lt
      by_cases hd : 48 ≤ ((s.extract 1 s.size)[k]'hkr).toNat ∧ ((s.extract 1 s.size)[k]'hkr).toNat ≤ 57
      · have HN := Lib.hid (hh.out.next hkr hd)
        obtain ⟨d0, d1⟩ := hd
        clear hh
        go_wp2
        exact ⟨⟨k + 1, _, rfl, by simp, by omega, HN⟩, by simp [intOf]; omega⟩
      · have hm : (s.extract 1 s.size)[k]'hkr ∈ rl := by
          rw [← HR.out]
          have := list_at (s.extract 1 s.size) k hkr
          exact List.mem_of_mem_drop (by rw [this]; exact List.mem_cons_self)
        have HB : Hid (∀ n, NumOK s n false) := Lib.hid (numok_bad_neg HS.out (.inr (.inr ⟨_, hm, hd⟩)))
        have hd' : ((s.extract 1 s.size)[k]'hkr).toNat < 48 ∨ (48 ≤ ((s.extract 1 s.size)[k]'hkr).toNat ∧ 57 < ((s.extract 1 s.size)[k]'hkr).toNat) := by omega
        clear hh hd hm
        rcases hd' with d0 | ⟨d0, d1⟩
        all_goals
          go_wp2
          go_ret2
          exact ⟨_, _, rfl, HB.out _, rfl⟩
    · have hke : k = (s.size - 1) := by omega
      have HI := Lib.hid hh.out
      have HK := Lib.hid hke
      clear hh hke a2
      have hval : ∃ v : Nat, a = (v : Int) ∧ decVal 0 rl = v := by
        obtain ⟨acc, e1, e2, _⟩ := HI.out
        refine ⟨acc, e1, ?_⟩
        rw [e2, HR.out, List.take_of_length_le]
        have h1 := Lib.size_eq (s.extract 1 s.size)
        rw [HR.out] at h1
        have := HSZ.out
        have := HK.out
        omega
      obtain ⟨v, hv1, hv2⟩ := hval
      obtain ⟨g1, g2⟩ := numok_neg HS.out hv2
      have G1 := Lib.hid g1
      have G2 := Lib.hid g2
      have HV := Lib.hid hv1
      clear g1 g2 hv1 hv2 HI
      have hw : IntKind.i64.wrap (-(-9223372036854775808 : Int)) = -9223372036854775808 := by rw [IntKind.wrap_i64]; decide
      by_cases h63 : a ≤ 9223372036854775808
      · have HG : Hid (NumOK s (-a) true) := Lib.hid (by rw [HV.out]; exact G1.out (by have := HV.out; omega))
        have hwn := wrap_neg a a0 h63
        go_wp2
        go_ret2
        exact ⟨_, _, rfl, HG.out, rfl⟩
      · have HG : Hid (∀ n, NumOK s n (decide (a ≤ 9223372036854775808))) := Lib.hid (by rw [decide_eq_false h63]; exact G2.out (by have := HV.out; omega))
        have h63' : (9223372036854775808 : Int) < a := by omega
        clear h63
        go_wp2
        all_goals go_ret2
        all_goals exact ⟨_, _, rfl, HG.out _, rfl⟩
end Go.Proofs.YtgjniopcaahgfaaGreatDoor
