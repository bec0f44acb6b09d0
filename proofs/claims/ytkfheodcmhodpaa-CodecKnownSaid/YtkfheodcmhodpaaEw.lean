/- The contracts of package event's Name and May. -/
import Derived.Test.YtkfheodcmhodpaaEv
import Derived.Test.YtkfheodcmhodpaaGb
set_option linter.unusedSimpArgs false
set_option linter.unusedVariables false
namespace Go.Proofs.Ytkfheodcmhodpaa.Gm
open Go Go.RowKit
attribute [local go_sem ↓] Go.wp_at_zero Go.wp_at_succ

set_option maxHeartbeats 1000000 in
set_option maxRecDepth 20000 in
theorem named_any (c : UInt8) (w : World) : Calls Try.prog 102 #[byteV c] w fun e w' => e = .returned (.bool (namedB c)) ∧ w' = w := by
  go_enter Try.func102, Try.ntmps102
  go_wp2
  all_goals
    go_ret
    refine ⟨congrArg (fun b => Ending.returned (.bool b)) ?_, rfl⟩
    rw [Bool.eq_iff_iff]
    simp [namedB]
    omega

set_option maxHeartbeats 1000000 in
set_option maxRecDepth 20000 in
theorem name_any (s : ByteArray) (hs : s.size ≤ 140737488351232) (w : World) : Calls Try.prog 64 #[.string s] w fun e w' => e = .returned (.bool (nameB s)) ∧ w' = w := by
  go_enter Try.func64, Try.ntmps64
  go_wp2
  go_loopw [6] (fun i wr => ∃ k : Nat, k ≤ s.size ∧ i = .int .i64 k ∧ (s.data.toList.take k).all namedB = true ∧ wr = w) (fun i _ => s.size - (intOf i).toNat)
  case atStart => exact ⟨0, Nat.zero_le _, rfl, rfl, rfl⟩
  case round =>
    obtain ⟨k, hk, rfl, hall, rfl⟩ := hrel
    have HA := Lib.hid hall
    clear hall
    by_cases hkl : k < s.size
    · have hst := Lib.hid (named_take hkl)
      cases hb : namedB s[k] with
      | true =>
        go_wp2_with (go_at_call 102; refine (named_any s[k] _).mono ?_; rintro e w1 ⟨rfl, rfl⟩)
        go_roundw
        case rel => exact ⟨k + 1, by omega, by simp, by rw [hst.out, HA.out, hb]; rfl, trivial⟩
        case measure => simp [intOf]; omega
      | false =>
        have hn : nameB s = false := by
          have h2 : s.data.toList.all namedB = false := by
            rw [← List.take_append_drop (k + 1) s.data.toList, List.all_append, hst.out, hb]; simp
          simp [nameB, h2]
        have HN := Lib.hid hn
        clear hn
        go_wp2_with (go_at_call 102; refine (named_any s[k] _).mono ?_; rintro e w1 ⟨rfl, rfl⟩)
        go_ret
        exact ⟨by rw [HN.out]; rfl, rfl⟩
    · have hke : s.data.toList.take k = s.data.toList := List.take_of_length_le (by simp; omega)
      have HB : Hid (s.data.toList.all namedB = true) := Lib.hid (by rw [← hke]; exact HA.out)
      clear hke
      go_wp2
      all_goals
        go_ret
        refine ⟨congrArg (fun b => Ending.returned (.bool b)) ?_, rfl⟩
        rw [Bool.eq_iff_iff]
        simp [nameB, HB.out]
        try omega
set_option maxHeartbeats 2000000 in
set_option maxRecDepth 20000 in
theorem emay_any (key : ByteArray) (v : Value) (l : List Attr) (w : World) (hS : Sl w v l) (hR : Room l) : Calls Try.prog 30 #[.agg #[.string key, v]] w (Gives (.bool (mayE key l)) w) := by
  obtain ⟨p, cap, b, o, rfl, hp, hC, hbig⟩ := hS
  have HR := Lib.hid hR
  have HP := Lib.hid hp
  have HC := Lib.hid hC
  clear hR hp hC
  by_cases hk : 16 < key.size
  · have HM : Hid (mayE key l = false) := Lib.hid (by simp [mayE]; omega)
    have e1 : decide ((16 : Int) < (key.size : Int)) = true := by simp; omega
    go_enter Try.func30, Try.ntmps30
    go_wp2
    go_ret
    exact ⟨ret_bool HM.out.symm, (Below.refl _ _).alloc (Nat.le_refl _) _⟩
  have e1 : decide ((16 : Int) < (key.size : Int)) = false := by simp; omega
  by_cases hl : 8 < l.length
  · have HM : Hid (mayE key l = false) := Lib.hid (by simp [mayE]; omega)
    have e2 : decide ((8 : Int) < (l.length : Int)) = true := by simp; omega
    go_enter Try.func30, Try.ntmps30
    go_wp2
    go_ret
    exact ⟨ret_bool HM.out.symm, (Below.refl _ _).alloc (Nat.le_refl _) _⟩
  have e2 : decide ((8 : Int) < (l.length : Int)) = false := by simp; omega
  have HK := Lib.hid hk
  have HL := Lib.hid hl
  clear hk hl
  go_enter Try.func30, Try.ntmps30
  go_wp2
  go_loopw [18] (fun i wr => ∃ k : Nat, k ≤ l.length ∧ i = .int .i64 k ∧ (List.range k).all (okAt l) = true ∧ Below w.heap.size w wr ∧ w.heap.size < wr.heap.size ∧ wr.cell? ⟨w.heap.size, 1, none⟩ = some (.slice p l.length cap)) (fun i _ => l.length - (intOf i).toNat)
  case atStart => exact ⟨0, Nat.zero_le _, rfl, rfl, (Below.refl _ _).alloc (Nat.le_refl _) _, by simp, by simp⟩
  case round =>
    obtain ⟨k, hk, rfl, hall, hbel, hsz, hc1⟩ := hrel
    have HA := Lib.hid hall
    clear hall
    by_cases hkl : k < l.length
    · have hne : l ≠ [] := by rintro rfl; simp at hkl
      obtain ⟨hp', hb'⟩ := HP.out hne
      have hidx := index_attr p b o l.length cap k hp' hkl
      have HPp := Lib.hid hp'
      clear hp' hne
      obtain ⟨c0, c1, c2, c3, c4⟩ := five HC.out hkl
      have hcl := fun (j : Nat) => hbel.cell (p := ⟨b, j, none⟩) hb'
      have hro := (HR.out).at hkl
      have HT := Lib.hid (okUp (l := l) (k := k))
      have HF := fun h => may_false_at (key := key) hkl h
      have HF2 := Lib.hid HF
      clear HF
      have hok : Hid (okAt l k = (okA (l.getD k default) && (k == 0 || lessN (l.getD (k - 1) default).nm (l.getD k default).nm))) := Lib.hid rfl
      obtain ⟨x, hx⟩ : ∃ x, l.getD k default = x := ⟨_, rfl⟩
      rw [hx] at c0 c1 c2 c3 c4 hro hok
      have HX := Lib.hid hx
      have HRo := Lib.hid hro
      clear hx hro
      cases hn : nameB x.nm with
      | false =>
        go_wp2_with (go_at_call 64; refine (name_any x.nm HRo.out.2 _).mono ?_; rw [hn]; rintro e w1 ⟨rfl, rfl⟩)
        go_ret
        refine ⟨ret_bool (HF2.out ?_).symm, (hbel.alloc hbel.size _)⟩
        rw [hok.out, okA, hn]; rfl
      | true =>
        have M := may_any x.k x.n x.s x.b
        cases hm : mayB x.k x.n x.s x.b with
        | false =>
          rw [hm] at M
          have HM := Lib.hid M
          clear M
          go_wp2_with (first | (go_at_call 64; refine (name_any x.nm HRo.out.2 _).mono ?_; rw [hn]; rintro e w1 ⟨rfl, rfl⟩) | (go_at_call 65; refine (HM.out _).mono ?_; rintro e w2 ⟨rfl, hb2⟩))
          go_ret
          refine ⟨ret_bool (HF2.out ?_).symm, then_ (hbel.alloc hbel.size _) hb2⟩
          rw [hok.out, okA, hn, hm]; rfl
        | true =>
          rw [hm] at M
          have HM := Lib.hid M
          clear M
          have hokk : Hid (okAt l k = (k == 0 || lessN (l.getD (k - 1) default).nm x.nm)) := Lib.hid (by rw [hok.out, okA, hn, hm]; simp)
          go_wp2_with (first | (go_at_call 64; refine (name_any x.nm HRo.out.2 _).mono ?_; rw [hn]; rintro e w1 ⟨rfl, rfl⟩) | (go_at_call 65; refine (HM.out _).mono ?_; rintro e w2 ⟨rfl, hb2⟩))
          have hB2 : Below w.heap.size w w2 := then_ (hbel.alloc hbel.size _) hb2
          have hz2 : wr.heap.size < w2.heap.size := Nat.lt_of_lt_of_le (by simp) hb2.size
          have hd1 : w2.cell? ⟨w.heap.size, 1, none⟩ = some (.slice p l.length cap) := by
            rw [hb2.cell (p := ⟨w.heap.size, 1, none⟩) (by simp; omega), World.cell?_alloc_lt _ _ _ (by simpa using hsz)]; exact hc1
          have hd2 : w2.cell? ⟨wr.heap.size, 0, none⟩ = some (.string x.nm) := by
            rw [hb2.cell (p := ⟨wr.heap.size, 0, none⟩) (by simp)]; simp
          have HB2 := Lib.hid hB2
          clear hb2 hB2
          by_cases hk0 : k = 0
          · subst hk0
            go_quiet (fail)
            go_wp2
            go_roundw
            case rel => exact ⟨1, by omega, by simp, by rw [HT.out, HA.out, hokk.out]; rfl, below_drewN HB2.out _, by simpa using Nat.lt_trans hsz hz2, hd1⟩
            case measure => simp [intOf]; omega
          · have hkm : k - 1 < l.length := by omega
            have hidx2 := index_attr p b o l.length cap (k - 1) HPp.out hkm
            obtain ⟨q0, _, _, _, _⟩ := five HC.out hkm
            have q0' : w2.cell? ⟨b, o + (k - 1) * 5, none⟩ = some (.string (l.getD (k - 1) default).nm) := by
              rw [HB2.out.cell (p := ⟨b, o + (k - 1) * 5, none⟩) hb']; exact q0
            obtain ⟨y, hy⟩ : ∃ y, l.getD (k - 1) default = y := ⟨_, rfl⟩
            rw [hy] at q0' hokk
            have hw : IntKind.i64.wrap ((k : Int) - 1) = ((k - 1 : Nat) : Int) := by rw [IntKind.wrap_i64]; omega
            have hk1 : decide (0 < k) = true := by simp; omega
            have HK0 := Lib.hid hk0
            clear q0 hy hk0 hcl c0 c1 c2 c3 c4
            cases hle : Op.bytesLess y.nm.toList x.nm.toList with
            | true =>
              have hok2 : Hid (okAt l k = true) := Lib.hid (by rw [hokk.out, lessN, hle]; simp)
              go_quiet (fail)
              go_wp2
              go_roundw
              case rel => exact ⟨k + 1, by omega, by simp, by rw [HT.out, HA.out, hok2.out]; rfl, below_drewN HB2.out _, by simpa using Nat.lt_trans hsz hz2, hd1⟩
              case measure => simp [intOf]; omega
            | false =>
              have hok2 : Hid (okAt l k = false) := Lib.hid (by rw [hokk.out, lessN, hle]; simpa using HK0.out)
              go_quiet (fail)
              go_wp2
              go_ret
              exact ⟨ret_bool (HF2.out hok2.out).symm, below_drewN HB2.out _⟩
    · have hke : k = l.length := by omega
      subst hke
      have HM : Hid (mayE key l = true) := Lib.hid (by have h1 := HK.out; have h2 := HL.out; simp only [mayE, HA.out, Bool.and_true, Bool.and_eq_true, decide_eq_true_eq]; omega)
      go_wp2
      go_ret
      exact ⟨ret_bool HM.out.symm, hbel⟩
end Go.Proofs.Ytkfheodcmhodpaa.Gm
