/- The walk of WireOnce: for any bytes and any number the statement's function returns true, and writes nothing that was there. -/
import Derived.Test.YtapgjplcelbncaaWa
set_option linter.unusedSimpArgs false
set_option linter.unusedVariables false
namespace Go.Proofs.Ytapgjplcelbncaa
open Go.RowKit Gm
attribute [local go_sem ↓] Go.wp_at_zero Go.wp_at_succ

theorem read_err3 {L : List UInt8} {most : Nat} (h : readN L most = .err 3) : ∃ v k, readN L m64 = .ok v k ∧ most < v := by
  by_cases c1 : 10 ≤ leadN L
  · rw [read_10 c1] at h; cases h
  by_cases c2 : leadN L = L.length
  · rw [read_short c1 c2] at h; cases h
  by_cases c3 : leadN L = 9 ∧ 1 < (L.getD 9 0).toNat % 128
  · rw [read_big c1 c2 c3] at h; cases h
  by_cases c4 : 0 < leadN L ∧ (L.getD (leadN L) 0).toNat = 0
  · rw [read_zero c1 c2 c3 c4] at h; cases h
  have hv := valG_64 c1 c2 c3
  rw [read_last c1 c2 c3 c4] at h
  refine ⟨_, _, by rw [read_last c1 c2 c3 c4, if_neg (by unfold m64; omega)], ?_⟩
  split at h
  · assumption
  · cases h
theorem readB_ok {L s : List UInt8} {most : Int} {k : Nat} (h : readB L most = .ok s k) : L.take k = formN s.length ++ s ∧ k ≤ L.length ∧ s.length ≤ L.length := by
  unfold readB at h
  split at h
  · cases h
  split at h
  · cases h
  · next n j hr =>
    obtain ⟨h1, h2, h3, h4, h5⟩ := read_ok hr
    split at h
    · cases h
    · next hlt =>
      simp only [RB.ok.injEq] at h
      obtain ⟨rfl, rfl⟩ := h
      rw [List.length_drop] at hlt
      have hlen : ((L.drop j).take n).length = n := by rw [List.length_take, List.length_drop]; omega
      refine ⟨?_, by omega, by rw [hlen]; omega⟩
      rw [hlen, ← h5, ← List.take_add]

theorem errB_pos {L : List UInt8} {most : Int} {c : Nat} (h : readB L most = .err c) : c ≠ 0 := by
  unfold readB at h
  split at h
  · simp only [RB.err.injEq] at h; omega
  split at h
  · next c' hr =>
    simp only [RB.err.injEq] at h
    subst h
    exact err_pos hr
  · split at h
    · simp only [RB.err.injEq] at h; omega
    · cases h

set_option maxHeartbeats 8000000 in
set_option maxRecDepth 100000 in
theorem law_wonce (v : Value) (L : List UInt8) (most : Nat) (hm : most < 18446744073709551616) (w : World) (hB : Bs w v L) (hL : L.length ≤ 140737488351232) : Calls Try.prog 6 #[v, .int .u64 most] w (Gives (.bool true) w) := by
  have HB := Lib.hid hB
  have HNew := Lib.hid (fun W (h : Below w.heap.size w W) => held_new v L W (hB.below h) (by omega))
  obtain ⟨p, cap, rfl⟩ := hB.form
  clear hB
  go_enter Try.func6, Try.ntmps6
  go_wp2_with fail
  refine (HNew.out _ (Below.refl _ _)).mono ?_; rintro e w1 ⟨r, rfl, hR⟩
  have HR1 := Lib.hid hR
  clear hR
  go_wp2_with fail
  refine (held_num HR1.out most hm).mono ?_; rintro e w2 ⟨rfl, hR⟩
  have HR2 := Lib.hid hR
  have HB2 := Lib.hid hR.bel
  clear hR HR1
  go_upto_region 3 with (fail)
  go_cut [43] from 16 (fun t wq => t = .bool false ∧ Below w.heap.size w wq)
  case first =>
    cases hr : readN L most with
    | err c =>
      have e1 : ((numE L most : Int) == 0) = false := by rw [beq_eq_false_iff_ne]; unfold numE; rw [hr]; have := err_pos hr; simpa using this
      have e2 : (numE L most == 0) = false := by rw [beq_eq_false_iff_ne]; unfold numE; rw [hr]; exact err_pos hr
      clear hr
      go_wp2_with fail
      go_meet
      case rel => exact ⟨rfl, HB2.out⟩
    | ok n k =>
      obtain ⟨o1, o2, o3, o4, o5⟩ := read_ok hr
      have e1 : ((numE L most : Int) == 0) = true := by rw [beq_iff_eq]; unfold numE; rw [hr]; rfl
      have e2 : (numE L most == 0) = true := by rw [beq_iff_eq]; unfold numE; rw [hr]
      have hV : numV L most = n := by unfold numV; rw [hr]
      have hRl : (numR L most).length = L.length - k := by unfold numR; rw [hr]; simp
      have hgt : decide ((most : Int) < (numV L most : Int)) = false := by rw [hV]; simp; omega
      have hgt2 : decide (most < numV L most) = false := by rw [hV]; simp; omega
      have hsub : (L.length : Int) - ((numR L most).length : Int) = (k : Int) := by rw [hRl]; omega
      have HN := Lib.hid (fun W => wnum_any (.slice none 0 0) [] (numV L most) (by rw [hV]; exact o1) W (Bs.nil W) (by simp))
      have HEq : Hid ((formN (numV L most) == L.take k) = true) := Lib.hid (by rw [hV, o5]; simp)
      have hne : L ≠ [] := by rintro rfl; simp at o4; omega
      rcases HB.out with ⟨_, h0⟩ | ⟨a, cap', hv, hcp, _⟩
      · exact absurd h0 hne
      · simp only [Value.slice.injEq] at hv
        obtain ⟨rfl, _, rfl⟩ := hv
        have i1 : (k : Int) ≤ (cap : Int) := by omega
        have i2 : (0 : Int) ≤ (k : Int) := by omega
        have hkL : k ≤ L.length := o4
        clear hr hV hRl hne o1 o2 o3 o4 o5
        go_wp2_with fail
        refine (HN.out _).mono ?_; rintro e w3 ⟨v3, rfl, hO3, b3⟩
        obtain ⟨p3, cap3, rfl⟩ := hO3.form
        have HO3 := Lib.hid hO3
        have HR3 := Lib.hid (HR2.out.later b3)
        clear hO3 b3
        go_wp2_with fail
        refine (held_left HR3.out).mono ?_; rintro e w4 ⟨rfl, hR, b4⟩
        have HB4 := Lib.hid hR.bel
        have HO4 := Lib.hid (HO3.out.bs.below b4)
        clear hR b4
        go_wp2_with fail
        have hq := equal_any _ _ (formN (numV L most)) (L.take k) w4 HO4.out ((HB.out.take hkL).below HB4.out)
        rw [HEq.out] at hq
        refine hq.mono ?_; rintro e w5 ⟨rfl, rfl⟩
        clear hq
        go_wp2_with fail
        go_meet
        case rel => exact ⟨rfl, HB4.out⟩
  case rest =>
    obtain ⟨rfl, hB3⟩ := hcut
    have HB3 := Lib.hid hB3
    clear hB3 HR2 HB2
    go_wp2_with fail
    refine (HNew.out _ HB3.out).mono ?_; rintro e w1 ⟨r2, rfl, hR⟩
    have HR1 := Lib.hid hR
    clear hR
    go_wp2_with fail
    have h6 := held_num HR1.out m64 (by decide)
    rw [show ((m64 : Nat) : Int) = 18446744073709551615 from rfl] at h6
    refine h6.mono ?_; rintro e w2 ⟨rfl, hR⟩
    have HB2 := Lib.hid (then_ HB3.out hR.bel)
    clear hR HR1 h6 HB3
    go_upto_region 6 with (fail)
    go_cut [68] from 16 (fun t wq => t = .bool false ∧ Below w.heap.size w wq)
    case first =>
      cases hr : readN L most with
      | ok n k =>
        obtain ⟨o1, o2, _, _, _⟩ := read_ok hr
        have hr2 := (read_most (L := L) (most := most) (most' := m64)).2.2 n k hr (by unfold m64; omega)
        have a0 : numE L most = 0 := by unfold numE; rw [hr]
        have b0 : numE L m64 = 0 := by unfold numE; rw [hr2]
        have d0 : numV L most = n := by unfold numV; rw [hr]
        have d1 : numV L m64 = n := by unfold numV; rw [hr2]
        have e1 : ((numE L most : Int) == 3) = false := by rw [a0]; rfl
        have e2 : ((numE L m64 : Int) == 0) = true := by rw [b0]; rfl
        have e3 : decide ((most : Int) < (numV L m64 : Int)) = false := by rw [d1]; simp; omega
        have e3n : decide (most < numV L m64) = false := by rw [d1]; simp; omega
        have e4 : ((numE L most : Int) == 0) = true := by rw [a0]; rfl
        have e4n : (numE L most == 0) = true := by rw [a0]; rfl
        have e1n : (numE L most == 3) = false := by rw [a0]; rfl
        have e2n : (numE L m64 == 0) = true := by rw [b0]; rfl
        have e5 : ((numV L m64 : Int) == (numV L most : Int)) = true := by rw [d0, d1]; simp
        have e5n : (numV L m64 == numV L most) = true := by rw [d0, d1]; simp
        have e5m : ((numV L m64 : Int) != (numV L most : Int)) = false := by rw [d0, d1]; simp
        clear hr hr2 a0 b0 d0 d1 o1 o2
        go_wp2_with fail
        go_meet
        case rel => exact ⟨rfl, HB2.out⟩
      | err c =>
        by_cases hc : c = 3
        · subst hc
          obtain ⟨V, k, hr2, hlt⟩ := read_err3 hr
          have a0 : numE L most = 3 := by unfold numE; rw [hr]
          have b0 : numE L m64 = 0 := by unfold numE; rw [hr2]
          have d1 : numV L m64 = V := by unfold numV; rw [hr2]
          have e1 : ((numE L most : Int) == 3) = true := by rw [a0]; rfl
          have e2 : ((numE L m64 : Int) == 0) = true := by rw [b0]; rfl
          have e3 : decide ((most : Int) < (numV L m64 : Int)) = true := by rw [d1]; simp; omega
          have e3n : decide (most < numV L m64) = true := by rw [d1]; simp; omega
          have e4 : ((numE L most : Int) == 0) = false := by rw [a0]; rfl
          have e4n : (numE L most == 0) = false := by rw [a0]; rfl
          have e1n : (numE L most == 3) = true := by rw [a0]; rfl
          have e2n : (numE L m64 == 0) = true := by rw [b0]; rfl
          clear hr hr2 a0 b0 d1 hlt
          go_wp2_with fail
          go_meet
          case rel => exact ⟨rfl, HB2.out⟩
        · have hr2 := (read_most (L := L) (most := most) (most' := m64)).1 c hr hc
          have hp := err_pos hr
          have a0 : numE L most = c := by unfold numE; rw [hr]
          have b0 : numE L m64 = c := by unfold numE; rw [hr2]
          have e1 : ((numE L most : Int) == 3) = false := by rw [a0, beq_eq_false_iff_ne]; omega
          have e2 : ((numE L m64 : Int) == 0) = false := by rw [b0, beq_eq_false_iff_ne]; omega
          have e4 : ((numE L most : Int) == 0) = false := by rw [a0, beq_eq_false_iff_ne]; omega
          have e4n : (numE L most == 0) = false := by rw [a0, beq_eq_false_iff_ne]; omega
          have e1n : (numE L most == 3) = false := by rw [a0, beq_eq_false_iff_ne]; omega
          have e2n : (numE L m64 == 0) = false := by rw [b0, beq_eq_false_iff_ne]; omega
          clear hr hr2 a0 b0 hp hc
          go_wp2_with fail
          go_meet
          case rel => exact ⟨rfl, HB2.out⟩
    case rest =>
      obtain ⟨rfl, hB3⟩ := hcut
      have HB3 := Lib.hid hB3
      clear hB3 HB2
      go_wp2_with fail
      refine (HNew.out _ HB3.out).mono ?_; rintro e w1 ⟨r3, rfl, hR⟩
      have HR1 := Lib.hid hR
      clear hR
      go_wp2_with fail
      have h7 := held_int HR1.out
      rw [show intE L = numE L m64 from rfl] at h7
      refine h7.mono ?_; rintro e w2 ⟨rfl, hR⟩
      have HR2 := Lib.hid hR
      have HB2 := Lib.hid (then_ HB3.out hR.bel)
      clear hR HR1 h7
      go_upto_region 10 with (fail)
      go_cut [95] from 16 (fun t wq => t = .bool false ∧ Below w.heap.size w wq)
      case first =>
        cases hr : readN L m64 with
        | err c =>
          have hp := err_pos hr
          have b0 : numE L m64 = c := by unfold numE; rw [hr]
          have e1 : ((numE L m64 : Int) == 0) = false := by rw [b0, beq_eq_false_iff_ne]; omega
          have e2 : (numE L m64 == 0) = false := by rw [b0, beq_eq_false_iff_ne]; omega
          clear hr hp b0
          go_wp2_with fail
          go_meet
          case rel => exact ⟨rfl, HB2.out⟩
        | ok n k =>
          obtain ⟨o1, o2, o3, o4, o5⟩ := read_ok hr
          have b0 : numE L m64 = 0 := by unfold numE; rw [hr]
          have e1 : ((numE L m64 : Int) == 0) = true := by rw [b0]; rfl
          have e2 : (numE L m64 == 0) = true := by rw [b0]; rfl
          have hV : intV L = unfoldI n := by unfold intV; rw [hr]
          have hft := unfold_fits o1
          have hRl : (intR L).length = L.length - k := by unfold intR numR; rw [hr]; simp
          have hsub : (L.length : Int) - ((intR L).length : Int) = (k : Int) := by rw [hRl]; omega
          have HN := Lib.hid (fun W => wint_any (.slice none 0 0) [] (intV L) (by rw [hV]; exact hft.1) (by rw [hV]; exact hft.2) W (Bs.nil W) (by simp))
          have HEq : Hid ((formN (foldI (intV L)) == L.take k) = true) := Lib.hid (by rw [hV, fold_unfold, o5]; simp)
          have hne : L ≠ [] := by rintro rfl; simp at o4; omega
          rcases HB.out with ⟨_, h0⟩ | ⟨a, cap', hv, hcp, _⟩
          · exact absurd h0 hne
          · simp only [Value.slice.injEq] at hv
            obtain ⟨rfl, _, rfl⟩ := hv
            have i1 : (k : Int) ≤ (cap : Int) := by omega
            have i2 : (0 : Int) ≤ (k : Int) := by omega
            have hkL : k ≤ L.length := o4
            clear hr hV hRl hne o1 o2 o3 o4 o5 b0 hft
            go_wp2_with fail
            refine (HN.out _).mono ?_; rintro e w3 ⟨v3, rfl, hO3, b3⟩
            obtain ⟨p3, cap3, rfl⟩ := hO3.form
            have HO3 := Lib.hid hO3
            have HR3 := Lib.hid (HR2.out.later b3)
            clear hO3 b3
            go_wp2_with fail
            refine (held_left HR3.out).mono ?_; rintro e w4 ⟨rfl, hR, b4⟩
            have HB4 := Lib.hid (then_ HB3.out hR.bel)
            have HO4 := Lib.hid (HO3.out.bs.below b4)
            clear hR b4
            go_wp2_with fail
            have hq := equal_any _ _ (formN (foldI (intV L))) (L.take k) w4 HO4.out ((HB.out.take hkL).below HB4.out)
            rw [HEq.out] at hq
            refine hq.mono ?_; rintro e w5 ⟨rfl, rfl⟩
            clear hq
            go_wp2_with fail
            go_meet
            case rel => exact ⟨rfl, HB4.out⟩
      case rest =>
        obtain ⟨rfl, hB4⟩ := hcut
        have HB4 := Lib.hid hB4
        clear hB4 HB2 HB3 HR2
        go_wp2_with fail
        refine (HNew.out _ HB4.out).mono ?_; rintro e w1 ⟨r4, rfl, hR⟩
        have HR1 := Lib.hid hR
        clear hR
        go_wp2_with fail
        refine (held_bytes HR1.out 9223372036854775807 (by decide) (by decide)).mono ?_; rintro e w2 ⟨u, rfl, hU, hR⟩
        obtain ⟨pu, capu, rfl⟩ := hU.form
        have HR2 := Lib.hid hR
        have HU2 := Lib.hid hU
        have HB2 := Lib.hid (then_ HB4.out hR.bel)
        clear hR hU HR1
        cases hr : readB L 9223372036854775807 with
        | err c =>
          have hp := errB_pos hr
          have b0 : bytE L 9223372036854775807 = c := by unfold bytE; rw [hr]
          have e1 : ((bytE L 9223372036854775807 : Int) == 0) = false := by rw [b0, beq_eq_false_iff_ne]; omega
          have e2 : (bytE L 9223372036854775807 == 0) = false := by rw [b0, beq_eq_false_iff_ne]; omega
          have e3 : ((bytE L 9223372036854775807 : Int) != 0) = true := by rw [b0]; simp; omega
          have e4 : (bytE L 9223372036854775807 != 0) = true := by rw [b0]; simp; omega
          clear hr hp b0
          go_wp2_with fail
          refine (awake_any _).mono ?_; rintro e w3 ⟨rfl, b3⟩
          have HEnd := Lib.hid (then_ HB2.out b3)
          clear b3
          go_wp2_with fail
          go_ret
          exact ⟨rfl, HEnd.out⟩
        | ok S k =>
          obtain ⟨o1, o2, o3⟩ := readB_ok hr
          have b0 : bytE L 9223372036854775807 = 0 := by unfold bytE; rw [hr]
          have hV : bytV L 9223372036854775807 = S := by unfold bytV; rw [hr]
          have e1 : ((bytE L 9223372036854775807 : Int) == 0) = true := by rw [b0]; rfl
          have e2 : (bytE L 9223372036854775807 == 0) = true := by rw [b0]; rfl
          have e3 : ((bytE L 9223372036854775807 : Int) != 0) = false := by rw [b0]; rfl
          have e4 : (bytE L 9223372036854775807 != 0) = false := by rw [b0]; rfl
          have hRl : (bytR L 9223372036854775807).length = L.length - k := by unfold bytR; rw [hr]; simp
          have hsub : (L.length : Int) - ((bytR L 9223372036854775807).length : Int) = (k : Int) := by rw [hRl]; omega
          have hkL : k ≤ L.length := o2
          have hSl : S.length ≤ 140737488351232 := by omega
          have hpos := (formN_length (v := S.length) (by omega)).1
          have hne : L ≠ [] := by
            rintro rfl
            have := congrArg List.length o1
            simp at this
            omega
          rw [hV] at HU2 ⊢
          have HEq : Hid (([] ++ formN S.length ++ S == L.take k) = true) := Lib.hid (by rw [o1]; simp)
          rcases HB.out with ⟨_, h0⟩ | ⟨a, cap', hv, hcp, _⟩
          · exact absurd h0 hne
          · simp only [Value.slice.injEq] at hv
            obtain ⟨rfl, _, rfl⟩ := hv
            have i1 : (k : Int) ≤ (cap : Int) := by omega
            have i2 : (0 : Int) ≤ (k : Int) := by omega
            have HSl := Lib.hid hSl
            clear hr hRl hne o1 o2 o3 b0 hV hpos hSl
            go_wp2_with fail
            refine (awake_any _).mono ?_; rintro e w3 ⟨rfl, b3⟩
            have HR3 := Lib.hid (HR2.out.later b3)
            have HU3 := Lib.hid (HU2.out.bs.below b3)
            have HB3 := Lib.hid (then_ HB2.out b3)
            clear b3
            go_wp2_with fail
            have hy := wbytes_any (.slice none 0 0) [] _ S w3 (Bs.nil w3) HU3.out (by have := HSl.out; simp; omega)
            obtain ⟨Y, hY⟩ : ∃ Y, [] ++ formN S.length ++ S = Y := ⟨_, rfl⟩
            rw [hY] at hy HEq
            refine hy.mono ?_; rintro e w4 ⟨v4, rfl, hO4, b4⟩
            obtain ⟨p4, cap4, rfl⟩ := hO4.form
            have HO4 := Lib.hid hO4
            have HR4 := Lib.hid (HR3.out.later b4)
            have HB4 := Lib.hid (then_ HB3.out b4)
            clear hO4 b4 hy hY
            go_wp2_with fail
            refine (held_left HR4.out).mono ?_; rintro e w5 ⟨rfl, hR, b5⟩
            have HB5 := Lib.hid (then_ HB4.out b5)
            have HO5 := Lib.hid (HO4.out.bs.below b5)
            clear hR b5
            go_wp2_with fail
            have hq := equal_any _ _ Y (L.take k) w5 HO5.out ((HB.out.take hkL).below HB5.out)
            rw [HEq.out] at hq
            refine hq.mono ?_; rintro e w6 ⟨rfl, rfl⟩
            clear hq
            go_wp2_with fail
            go_ret
            exact ⟨rfl, HB5.out⟩
end Go.Proofs.Ytapgjplcelbncaa
