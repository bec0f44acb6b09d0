/- The contracts of the document's Name, May and Same of events. -/
import Derived.Test.YtmbfhmjcphoddaaGreatDoorEv
import Derived.Test.YtmbfhmjcphoddaaGreatDoorGb
import Derived.Test.YtmbfhmjcphoddaaGreatDoorA
import Derived.Test.YtmbfhmjcphoddaaGreatDoorKb0
import Derived.Test.YtmbfhmjcphoddaaGreatDoorGm
/- The contracts of package event's Name and May. -/
set_option linter.unusedSimpArgs false
set_option linter.unusedVariables false
namespace Go.Proofs.YtmbfhmjcphoddaaGreatDoor.Gm
open Go Go.RowKit
attribute [local go_sem ↓] Go.wp_at_zero Go.wp_at_succ

set_option maxHeartbeats 1000000 in
set_option maxRecDepth 20000 in
theorem named_any (c : UInt8) (w : World) : Calls Tryz.prog 75 #[byteV c] w fun e w' => e = .returned (.bool (namedB c)) ∧ w' = w := by
  go_enter Tryz.func75, Tryz.ntmps75
  go_wp2
  all_goals
    go_ret
    refine ⟨congrArg (fun b => Ending.returned (.bool b)) ?_, rfl⟩
    rw [Bool.eq_iff_iff]
    simp [namedB]
    omega

set_option maxHeartbeats 1000000 in
set_option maxRecDepth 20000 in
theorem name_any (s : ByteArray) (hs : s.size ≤ 140737488351232) (w : World) : Calls Tryz.prog 56 #[.string s] w fun e w' => e = .returned (.bool (nameB s)) ∧ w' = w := by
  go_enter Tryz.func56, Tryz.ntmps56
  go_wp2
  go_loopw [6] (fun i wr => ∃ k : Nat, k ≤ s.size ∧ i = .int .i64 k ∧ (s.data.toList.take k).all namedB = true ∧ wr = w) (fun i _ => s.size - (intOf i).toNat)
  case atStart => exact ⟨0, Nat.zero_le _, rfl, rfl, rfl⟩
  case round =>
    obtain ⟨k, hk, rfl, hall, rfl⟩ := hrel
    have HA := Lib.hid hall
    clear hall
    by_cases hkl : k < s.size
    · have hst := Lib.hid (named_take hkl)
      cases hb : namedB s[k] with
      | true =>
        go_wp2_with (go_at_call 75; refine (named_any s[k] _).mono ?_; rintro e w1 ⟨rfl, rfl⟩)
        go_roundw
        case rel => exact ⟨k + 1, by omega, by simp, by rw [hst.out, HA.out, hb]; rfl, trivial⟩
        case measure => simp [intOf]; omega
      | false =>
        have hn : nameB s = false := by
          have h2 : s.data.toList.all namedB = false := by
            rw [← List.take_append_drop (k + 1) s.data.toList, List.all_append, hst.out, hb]; simp
          simp [nameB, h2]
        have HN := Lib.hid hn
        clear hn
        go_wp2_with (go_at_call 75; refine (named_any s[k] _).mono ?_; rintro e w1 ⟨rfl, rfl⟩)
        go_ret
        exact ⟨by rw [HN.out]; rfl, rfl⟩
    · have hke : s.data.toList.take k = s.data.toList := List.take_of_length_le (by simp; omega)
      have HB : Hid (s.data.toList.all namedB = true) := Lib.hid (by rw [← hke]; exact HA.out)
      clear hke
      go_wp2
      all_goals
        go_ret
        refine ⟨congrArg (fun b => Ending.returned (.bool b)) ?_, rfl⟩
        rw [Bool.eq_iff_iff]
        simp [nameB, HB.out]
        try omega
set_option maxHeartbeats 2000000 in
set_option maxRecDepth 20000 in
theorem emay_any (key : ByteArray) (v : Value) (l : List Attr) (w : World) (hS : Sl w v l) (hR : Room l) : Calls Tryz.prog 42 #[.agg #[.string key, v]] w (Gives (.bool (mayE key l)) w) := by
  obtain ⟨p, cap, b, o, rfl, hp, hC, hbig⟩ := hS
  have HR := Lib.hid hR
  have HP := Lib.hid hp
  have HC := Lib.hid hC
  clear hR hp hC
  by_cases hk : 16 < key.size
  · have HM : Hid (mayE key l = false) := Lib.hid (by simp [mayE]; omega)
    have e1 : decide ((16 : Int) < (key.size : Int)) = true := by simp; omega
    go_enter Tryz.func42, Tryz.ntmps42
    go_wp2
    go_ret
    exact ⟨ret_bool HM.out.symm, (Below.refl _ _).alloc (Nat.le_refl _) _⟩
  have e1 : decide ((16 : Int) < (key.size : Int)) = false := by simp; omega
  by_cases hl : 8 < l.length
  · have HM : Hid (mayE key l = false) := Lib.hid (by simp [mayE]; omega)
    have e2 : decide ((8 : Int) < (l.length : Int)) = true := by simp; omega
    go_enter Tryz.func42, Tryz.ntmps42
    go_wp2
    go_ret
    exact ⟨ret_bool HM.out.symm, (Below.refl _ _).alloc (Nat.le_refl _) _⟩
  have e2 : decide ((8 : Int) < (l.length : Int)) = false := by simp; omega
  have HK := Lib.hid hk
  have HL := Lib.hid hl
  clear hk hl
  go_enter Tryz.func42, Tryz.ntmps42
  go_wp2
  go_loopw [18] (fun i wr => ∃ k : Nat, k ≤ l.length ∧ i = .int .i64 k ∧ (List.range k).all (okAt l) = true ∧ Below w.heap.size w wr ∧ w.heap.size < wr.heap.size ∧ wr.cell? ⟨w.heap.size, 1, none⟩ = some (.slice p l.length cap)) (fun i _ => l.length - (intOf i).toNat)
  case atStart => exact ⟨0, Nat.zero_le _, rfl, rfl, (Below.refl _ _).alloc (Nat.le_refl _) _, by simp, by simp⟩
  case round =>
    obtain ⟨k, hk, rfl, hall, hbel, hsz, hc1⟩ := hrel
    have HA := Lib.hid hall
    clear hall
    by_cases hkl : k < l.length
    · have hne : l ≠ [] := by rintro rfl; simp at hkl
      obtain ⟨hp', hb'⟩ := HP.out hne
      have hidx := index_attr p b o l.length cap k hp' hkl
      have HPp := Lib.hid hp'
      clear hp' hne
      obtain ⟨c0, c1, c2, c3, c4⟩ := five HC.out hkl
      have hcl := fun (j : Nat) => hbel.cell (p := ⟨b, j, none⟩) hb'
      have hro := (HR.out).at hkl
      have HT := Lib.hid (okUp (l := l) (k := k))
      have HF := fun h => may_false_at (key := key) hkl h
      have HF2 := Lib.hid HF
      clear HF
      have hok : Hid (okAt l k = (okA (l.getD k default) && (k == 0 || lessN (l.getD (k - 1) default).nm (l.getD k default).nm))) := Lib.hid rfl
      obtain ⟨x, hx⟩ : ∃ x, l.getD k default = x := ⟨_, rfl⟩
      rw [hx] at c0 c1 c2 c3 c4 hro hok
      have HX := Lib.hid hx
      have HRo := Lib.hid hro
      clear hx hro
      cases hn : nameB x.nm with
      | false =>
        go_wp2_with (go_at_call 56; refine (name_any x.nm HRo.out.2 _).mono ?_; rw [hn]; rintro e w1 ⟨rfl, rfl⟩)
        go_ret
        refine ⟨ret_bool (HF2.out ?_).symm, (hbel.alloc hbel.size _)⟩
        rw [hok.out, okA, hn]; rfl
      | true =>
        have M := may_any x.k x.n x.s x.b
        cases hm : mayB x.k x.n x.s x.b with
        | false =>
          rw [hm] at M
          have HM := Lib.hid M
          clear M
          go_wp2_with (first | (go_at_call 56; refine (name_any x.nm HRo.out.2 _).mono ?_; rw [hn]; rintro e w1 ⟨rfl, rfl⟩) | (go_at_call 57; refine (HM.out _).mono ?_; rintro e w2 ⟨rfl, hb2⟩))
          go_ret
          refine ⟨ret_bool (HF2.out ?_).symm, then_ (hbel.alloc hbel.size _) hb2⟩
          rw [hok.out, okA, hn, hm]; rfl
        | true =>
          rw [hm] at M
          have HM := Lib.hid M
          clear M
          have hokk : Hid (okAt l k = (k == 0 || lessN (l.getD (k - 1) default).nm x.nm)) := Lib.hid (by rw [hok.out, okA, hn, hm]; simp)
          go_wp2_with (first | (go_at_call 56; refine (name_any x.nm HRo.out.2 _).mono ?_; rw [hn]; rintro e w1 ⟨rfl, rfl⟩) | (go_at_call 57; refine (HM.out _).mono ?_; rintro e w2 ⟨rfl, hb2⟩))
          have hB2 : Below w.heap.size w w2 := then_ (hbel.alloc hbel.size _) hb2
          have hz2 : wr.heap.size < w2.heap.size := Nat.lt_of_lt_of_le (by simp) hb2.size
          have hd1 : w2.cell? ⟨w.heap.size, 1, none⟩ = some (.slice p l.length cap) := by
            rw [hb2.cell (p := ⟨w.heap.size, 1, none⟩) (by simp; omega), World.cell?_alloc_lt _ _ _ (by simpa using hsz)]; exact hc1
          have hd2 : w2.cell? ⟨wr.heap.size, 0, none⟩ = some (.string x.nm) := by
            rw [hb2.cell (p := ⟨wr.heap.size, 0, none⟩) (by simp)]; simp
          have HB2 := Lib.hid hB2
          clear hb2 hB2
          by_cases hk0 : k = 0
          · subst hk0
            go_quiet (fail)
            go_wp2
            go_roundw
            case rel => exact ⟨1, by omega, by simp, by rw [HT.out, HA.out, hokk.out]; rfl, below_drewN HB2.out _, by simpa using Nat.lt_trans hsz hz2, hd1⟩
            case measure => simp [intOf]; omega
          · have hkm : k - 1 < l.length := by omega
            have hidx2 := index_attr p b o l.length cap (k - 1) HPp.out hkm
            obtain ⟨q0, _, _, _, _⟩ := five HC.out hkm
            have q0' : w2.cell? ⟨b, o + (k - 1) * 5, none⟩ = some (.string (l.getD (k - 1) default).nm) := by
              rw [HB2.out.cell (p := ⟨b, o + (k - 1) * 5, none⟩) hb']; exact q0
            obtain ⟨y, hy⟩ : ∃ y, l.getD (k - 1) default = y := ⟨_, rfl⟩
            rw [hy] at q0' hokk
            have hw : IntKind.i64.wrap ((k : Int) - 1) = ((k - 1 : Nat) : Int) := by rw [IntKind.wrap_i64]; omega
            have hk1 : decide (0 < k) = true := by simp; omega
            have HK0 := Lib.hid hk0
            clear q0 hy hk0 hcl c0 c1 c2 c3 c4
            cases hle : Op.bytesLess y.nm.toList x.nm.toList with
            | true =>
              have hok2 : Hid (okAt l k = true) := Lib.hid (by rw [hokk.out, lessN, hle]; simp)
              go_quiet (fail)
              go_wp2
              go_roundw
              case rel => exact ⟨k + 1, by omega, by simp, by rw [HT.out, HA.out, hok2.out]; rfl, below_drewN HB2.out _, by simpa using Nat.lt_trans hsz hz2, hd1⟩
              case measure => simp [intOf]; omega
            | false =>
              have hok2 : Hid (okAt l k = false) := Lib.hid (by rw [hokk.out, lessN, hle]; simpa using HK0.out)
              go_quiet (fail)
              go_wp2
              go_ret
              exact ⟨ret_bool (HF2.out hok2.out).symm, below_drewN HB2.out _⟩
    · have hke : k = l.length := by omega
      subst hke
      have HM : Hid (mayE key l = true) := Lib.hid (by have h1 := HK.out; have h2 := HL.out; simp only [mayE, HA.out, Bool.and_true, Bool.and_eq_true, decide_eq_true_eq]; omega)
      go_wp2
      go_ret
      exact ⟨ret_bool HM.out.symm, hbel⟩
end Go.Proofs.YtmbfhmjcphoddaaGreatDoor.Gm
/- The contract of the document's May of values. -/
set_option linter.unusedSimpArgs false
set_option linter.unusedVariables false
namespace Go.Proofs.YtmbfhmjcphoddaaGreatDoor.Gm
open Go Go.RowKit
attribute [local go_sem ↓] Go.wp_at_zero Go.wp_at_succ

end Go.Proofs.YtmbfhmjcphoddaaGreatDoor.Gm
set_option linter.unusedSimpArgs false
set_option linter.unusedVariables false
namespace Go.Proofs.YtmbfhmjcphoddaaGreatDoor.Gm
open Go Go.RowKit
attribute [local go_sem ↓] Go.wp_at_zero Go.wp_at_succ

attribute [local go_sem ↓] run_neq_attr run_guard_attr
theorem eqL_len {l l' : List Attr} (h : ¬ l.length = l'.length) : eqL l l' = false := by simp [eqL, h]

set_option maxHeartbeats 4000000 in
set_option maxRecDepth 20000 in
theorem qsame_any (key key' : ByteArray) (v v' : Value) (l l' : List Attr) (w : World) (hS : Sl w v l) (hS' : Sl w v' l') : Calls Tryz.prog 39 #[.agg #[.string key, v], .agg #[.string key', v']] w (Gives (.bool (sameB key l key' l')) w) := by
  have B2 : Below w.heap.size w ((w.alloc (.cells #[.string key, v] 37)).alloc (.cells #[.string key', v'] 37)) := ((Below.refl _ w).alloc (Nat.le_refl _) _).alloc (by simp) _
  obtain ⟨p, cap, b, o, rfl, hp, hC, hbig⟩ := hS
  obtain ⟨p', cap', b', o', rfl, hp', hC', hbig'⟩ := hS'
  have HP := Lib.hid hp
  have HC := Lib.hid hC
  have HP' := Lib.hid hp'
  have HC' := Lib.hid hC'
  have HB := Lib.hid B2
  clear hp hC hp' hC' B2
  cases hk : (key.toList == key'.toList) with
  | false =>
    have HM : Hid (sameB key l key' l' = false) := Lib.hid (by unfold sameB; rw [hk, Bool.false_and])
    have hk2 : (key.toList != key'.toList) = true := by simpa [bne] using hk
    go_enter Tryz.func39, Tryz.ntmps39
    go_wp2_with fail
    go_ret
    exact ⟨ret_bool HM.out.symm, HB.out⟩
  | true =>
    have hk2 : (key.toList != key'.toList) = false := by simpa [bne] using hk
    by_cases hlen : l.length = l'.length
    · have HLen := Lib.hid hlen
      have e1 : ((l.length : Int) != (l'.length : Int)) = false := by simp [hlen]
      have HM : Hid (sameB key l key' l' = eqL l l') := Lib.hid (by unfold sameB; rw [hk, Bool.true_and])
      clear hlen
      go_enter Tryz.func39, Tryz.ntmps39
      go_wp2_with fail
      go_loopw [5] (fun i wr => ∃ k : Nat, k ≤ l.length ∧ i = .int .i64 k ∧ ((List.range k).all fun i => eqA (l.getD i default) (l'.getD i default)) = true ∧ Below w.heap.size w wr ∧ wr.cell? ⟨w.heap.size, 1, none⟩ = some (.slice p l.length cap) ∧ wr.cell? ⟨w.heap.size + 1, 1, none⟩ = some (.slice p' l'.length cap')) (fun i _ => l.length - (intOf i).toNat)
      case atStart => exact ⟨0, Nat.zero_le _, rfl, rfl, HB.out, by simp, by simp⟩
      case round =>
        obtain ⟨k, hk, rfl, hall, hbel, hc1, hc2⟩ := hrel
        have HA := Lib.hid hall
        clear hall
        by_cases hkl : k < l.length
        · have hkl' : k < l'.length := by have := HLen.out; omega
          have hne : l ≠ [] := by rintro rfl; simp at hkl
          have hne' : l' ≠ [] := by rintro rfl; simp at hkl'
          obtain ⟨hq, hb1⟩ := HP.out hne
          obtain ⟨hq', hb2⟩ := HP'.out hne'
          have hidx := index_attr p b o l.length cap k hq hkl
          have hidx' := index_attr p' b' o' l'.length cap' k hq' hkl'
          have hcl := fun (j : Nat) => hbel.cell (p := ⟨b, j, none⟩) hb1
          have hcl' := fun (j : Nat) => hbel.cell (p := ⟨b', j, none⟩) hb2
          clear hq hq' hne hne'
          obtain ⟨c0, c1, c2, c3, c4⟩ := five HC.out hkl
          obtain ⟨d0, d1, d2, d3, d4⟩ := five HC'.out hkl'
          have HT := Lib.hid (eqUp (l := l) (l' := l') (k := k))
          have HF := Lib.hid (fun h => eqL_false_at (l := l) (l' := l') hkl h)
          obtain ⟨x, hx⟩ : ∃ x, l.getD k default = x := ⟨_, rfl⟩
          obtain ⟨y, hy⟩ : ∃ y, l'.getD k default = y := ⟨_, rfl⟩
          rw [hx] at c0 c1 c2 c3 c4 HT HF
          rw [hy] at d0 d1 d2 d3 d4 HT HF
          rw [← hcl] at c0 c1 c2 c3 c4
          rw [← hcl'] at d0 d1 d2 d3 d4
          have HBel := Lib.hid hbel
          clear hx hy hkl' hcl hcl' hb1 hb2 hbel
          cases hxy : eqA x y with
          | true =>
            have hxy' : eqA ⟨x.nm, x.k, x.n, x.s, x.b⟩ ⟨y.nm, y.k, y.n, y.s, y.b⟩ = true := hxy
            go_wp2_with fail
            go_quiet (fail)
            go_wp2
            go_roundw
            case rel => exact ⟨k + 1, by omega, by simp, by rw [HT.out, HA.out, hxy]; rfl, below_drewN HBel.out _, hc1, hc2⟩
            case measure => simp [intOf]; omega
          | false =>
            have hxy' : eqA ⟨x.nm, x.k, x.n, x.s, x.b⟩ ⟨y.nm, y.k, y.n, y.s, y.b⟩ = false := hxy
            go_wp2_with fail
            go_quiet (fail)
            go_wp2
            go_ret
            exact ⟨ret_bool (HM.out.trans (HF.out hxy)).symm, below_drewN HBel.out _⟩
        · have hke : k = l.length := by omega
          subst hke
          have HM2 : Hid (eqL l l' = true) := Lib.hid (by simp only [eqL, HA.out, Bool.and_true, decide_eq_true_eq]; exact HLen.out)
          go_wp2
          go_ret
          exact ⟨ret_bool (HM.out.trans HM2.out).symm, hbel⟩
    · have HM : Hid (sameB key l key' l' = false) := Lib.hid (by unfold sameB; rw [eqL_len hlen, Bool.and_false])
      have e1 : ((l.length : Int) != (l'.length : Int)) = true := by simp; omega
      clear hlen
      go_enter Tryz.func39, Tryz.ntmps39
      go_wp2_with fail
      go_ret
      exact ⟨ret_bool HM.out.symm, HB.out⟩
end Go.Proofs.YtmbfhmjcphoddaaGreatDoor.Gm
