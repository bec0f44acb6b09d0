/- The contract of the document's Same. -/
import Derived.Test.YtgjniopcaahgfaaGreatDoorMq
set_option linter.unusedSimpArgs false
set_option linter.unusedVariables false
namespace Go.Proofs.YtgjniopcaahgfaaGreatDoor
open Go.RowKit
attribute [local go_sem ↓] Go.wp_at_zero Go.wp_at_succ
attribute [local go_sem ↓] run_neq_attr run_guard_attr

theorem eqL_len {l l' : List Attr} (h : ¬ l.length = l'.length) : eqL l l' = false := by simp [eqL, h]

set_option maxHeartbeats 4000000 in
set_option maxRecDepth 20000 in
theorem rsame_any (key key' : ByteArray) (v v' : Value) (l l' : List Attr) (w : World) (hS : Sl w v l) (hS' : Sl w v' l') : Calls Tryz.prog 8 #[.agg #[.string key, v], .agg #[.string key', v']] w (Gives (.bool (sameB key l key' l')) w) := by
  have B2 : Below w.heap.size w ((w.alloc (.cells #[.string key, v] 24)).alloc (.cells #[.string key', v'] 24)) := ((Below.refl _ w).alloc (Nat.le_refl _) _).alloc (by simp) _
  obtain ⟨p, cap, b, o, rfl, hp, hC, hbig⟩ := hS
  obtain ⟨p', cap', b', o', rfl, hp', hC', hbig'⟩ := hS'
  have HP := Lib.hid hp
  have HC := Lib.hid hC
  have HP' := Lib.hid hp'
  have HC' := Lib.hid hC'
  have HB := Lib.hid B2
  clear hp hC hp' hC' B2
  cases hk : (key.toList == key'.toList) with
  | false =>
    have HM : Hid (sameB key l key' l' = false) := Lib.hid (by unfold sameB; rw [hk, Bool.false_and])
    have hk2 : (key.toList != key'.toList) = true := by simpa [bne] using hk
    go_enter Tryz.func8, Tryz.ntmps8
    go_wp2_with fail
    go_ret
    exact ⟨ret_bool HM.out.symm, HB.out⟩
  | true =>
    have hk2 : (key.toList != key'.toList) = false := by simpa [bne] using hk
    by_cases hlen : l.length = l'.length
    · have HLen := Lib.hid hlen
      have e1 : ((l.length : Int) != (l'.length : Int)) = false := by simp [hlen]
      have HM : Hid (sameB key l key' l' = eqL l l') := Lib.hid (by unfold sameB; rw [hk, Bool.true_and])
      clear hlen
      go_enter Tryz.func8, Tryz.ntmps8
      go_wp2_with fail
      go_loopw [5] (fun i wr => ∃ k : Nat, k ≤ l.length ∧ i = .int .i64 k ∧ ((List.range k).all fun i => eqA (l.getD i default) (l'.getD i default)) = true ∧ Below w.heap.size w wr ∧ wr.cell? ⟨w.heap.size, 1, none⟩ = some (.slice p l.length cap) ∧ wr.cell? ⟨w.heap.size + 1, 1, none⟩ = some (.slice p' l'.length cap')) (fun i _ => l.length - (intOf i).toNat)
      case atStart => exact ⟨0, Nat.zero_le _, rfl, rfl, HB.out, by simp, by simp⟩
      case round =>
        obtain ⟨k, hk, rfl, hall, hbel, hc1, hc2⟩ := hrel
        have HA := Lib.hid hall
        clear hall
        by_cases hkl : k < l.length
        · have hkl' : k < l'.length := by have := HLen.out; omega
          have hne : l ≠ [] := by rintro rfl; simp at hkl
          have hne' : l' ≠ [] := by rintro rfl; simp at hkl'
          obtain ⟨hq, hb1⟩ := HP.out hne
          obtain ⟨hq', hb2⟩ := HP'.out hne'
          have hidx := index_attr p b o l.length cap k hq hkl
          have hidx' := index_attr p' b' o' l'.length cap' k hq' hkl'
          have hcl := fun (j : Nat) => hbel.cell (p := ⟨b, j, none⟩) hb1
          have hcl' := fun (j : Nat) => hbel.cell (p := ⟨b', j, none⟩) hb2
          clear hq hq' hne hne'
          obtain ⟨c0, c1, c2, c3, c4⟩ := five HC.out hkl
          obtain ⟨d0, d1, d2, d3, d4⟩ := five HC'.out hkl'
          have HT := Lib.hid (eqUp (l := l) (l' := l') (k := k))
          have HF := Lib.hid (fun h => eqL_false_at (l := l) (l' := l') hkl h)
          obtain ⟨x, hx⟩ : ∃ x, l.getD k default = x := ⟨_, rfl⟩
          obtain ⟨y, hy⟩ : ∃ y, l'.getD k default = y := ⟨_, rfl⟩
          rw [hx] at c0 c1 c2 c3 c4 HT HF
          rw [hy] at d0 d1 d2 d3 d4 HT HF
          rw [← hcl] at c0 c1 c2 c3 c4
          rw [← hcl'] at d0 d1 d2 d3 d4
          have HBel := Lib.hid hbel
          clear hx hy hkl' hcl hcl' hb1 hb2 hbel
          cases hxy : eqA x y with
          | true =>
            have hxy' : eqA ⟨x.nm, x.k, x.n, x.s, x.b⟩ ⟨y.nm, y.k, y.n, y.s, y.b⟩ = true := hxy
            go_wp2_with fail
            go_quiet (fail)
            go_wp2
            go_roundw
            case rel => exact ⟨k + 1, by omega, by simp, by rw [HT.out, HA.out, hxy]; rfl, below_drewN HBel.out _, hc1, hc2⟩
            case measure => simp [intOf]; omega
          | false =>
            have hxy' : eqA ⟨x.nm, x.k, x.n, x.s, x.b⟩ ⟨y.nm, y.k, y.n, y.s, y.b⟩ = false := hxy
            go_wp2_with fail
            go_quiet (fail)
            go_wp2
            go_ret
            exact ⟨ret_bool (HM.out.trans (HF.out hxy)).symm, below_drewN HBel.out _⟩
        · have hke : k = l.length := by omega
          subst hke
          have HM2 : Hid (eqL l l' = true) := Lib.hid (by simp only [eqL, HA.out, Bool.and_true, decide_eq_true_eq]; exact HLen.out)
          go_wp2
          go_ret
          exact ⟨ret_bool (HM.out.trans HM2.out).symm, hbel⟩
    · have HM : Hid (sameB key l key' l' = false) := Lib.hid (by unfold sameB; rw [eqL_len hlen, Bool.and_false])
      have e1 : ((l.length : Int) != (l'.length : Int)) = true := by simp; omega
      clear hlen
      go_enter Tryz.func8, Tryz.ntmps8
      go_wp2_with fail
      go_ret
      exact ⟨ret_bool HM.out.symm, HB.out⟩
end Go.Proofs.YtgjniopcaahgfaaGreatDoor
