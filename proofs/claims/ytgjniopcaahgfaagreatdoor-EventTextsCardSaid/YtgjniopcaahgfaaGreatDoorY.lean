/- The contract of the document's word: what stands in a quoted text. -/
import Derived.Test.YtgjniopcaahgfaaGreatDoorH
import Derived.Deep.RegionLaw
set_option linter.unusedSimpArgs false
set_option linter.unusedVariables false
namespace Go.Proofs.YtgjniopcaahgfaaGreatDoor
open Go.RowKit
attribute [local go_sem ↓] Go.wp_at_zero Go.wp_at_succ

/-- What stands between the first and the last byte of t. -/
def mid (t : ByteArray) : List UInt8 := (t.data.toList.drop 1).take (t.size - 2)
theorem mid_len (t : ByteArray) (h : 2 ≤ t.size) : (mid t).length = t.size - 2 := by
  have := Lib.size_eq t
  unfold mid
  rw [List.length_take, List.length_drop]
  omega
theorem mid_text (t : ByteArray) (xs : List UInt8) (h : t.data.toList = 34 :: (xs ++ [34])) : mid t = xs := by
  have h2 := Lib.size_eq t
  unfold mid
  rw [h] at h2 ⊢
  simp only [List.length_cons, List.length_append, List.length_nil] at h2
  rw [h2]
  simp
theorem mid_at (t : ByteArray) (i : Nat) (h1 : 1 ≤ i) (h : i < t.size - 1) : (mid t).drop (i - 1) = (t[i]'(by omega)) :: (mid t).drop i := by
  unfold mid
  rw [List.drop_take, List.drop_take, List.drop_drop, List.drop_drop, show 1 + (i - 1) = i by omega, list_at t i (by omega), show t.size - 2 - (i - 1) = (t.size - 2 - i) + 1 by omega, List.take_succ_cons, show 1 + i = i + 1 by omega]

/-- A byte of a quoted text that is no small hex digit does not stand behind '\\x'. -/
theorem step_bad {l r : List UInt8} {a b c d : UInt8} (hl : l = a :: b :: c :: d :: r) (ha : a.toNat = 92) (hb : b.toNat = 120) (h : hexI c < 0 ∨ hexI d < 0) : ∀ x xs, l = escB x ++ xs → b = x ∧ l.drop 2 = xs := by
  intro x xs hx
  subst hl
  unfold escB at hx
  split at hx
  · simp only [List.cons_append, List.nil_append, List.cons.injEq] at hx
    obtain ⟨rfl, rfl, rfl⟩ := hx
    exact ⟨rfl, rfl⟩
  · split at hx
    · simp only [List.cons_append, List.nil_append, List.cons.injEq] at hx
      obtain ⟨_, _, rfl, rfl, _⟩ := hx
      have h1 := hexI_hexd (hi4 x) (hi4_lt x)
      have h2 := hexI_hexd (lo4 x) (lo4_lt x)
      omega
    · simp only [List.cons_append, List.nil_append, List.cons.injEq] at hx
      obtain ⟨rfl, rfl⟩ := hx
      omega
/-- What word's loop keeps at place i. -/
def WInv (w0 : World) (t : ByteArray) (i : Nat) (v : Value) (wr : World) : Prop :=
  ∃ done : List UInt8, wr.ownsRow w0.heap.size 5 1 v done.length (done.map bval) ∧ Below w0.heap.size w0 wr ∧ 1 ≤ i ∧ done.length + 1 ≤ i ∧ ∀ xs, mid t = escAll xs → ∃ tl, (mid t).drop (i - 1) = escAll tl ∧ xs = done ++ tl
theorem WInv.step {w0 : World} {t : ByteArray} {i m : Nat} {v' : Value} {w' : World} {c : UInt8} {done : List UInt8} (hi : 1 ≤ i) (hm : 1 ≤ m) (hd : done.length + 1 ≤ i)
    (hx : ∀ xs, mid t = escAll xs → ∃ tl, (mid t).drop (i - 1) = escAll tl ∧ xs = done ++ tl) (hne : (mid t).drop (i - 1) ≠ [])
    (hs : ∀ x xs, (mid t).drop (i - 1) = escB x ++ xs → c = x ∧ ((mid t).drop (i - 1)).drop m = xs)
    (hown : w'.ownsRow w0.heap.size 5 1 v' (done.length + 1) (done.map bval ++ [bval c])) (hb : Below w0.heap.size w0 w') : WInv w0 t (i + m) v' w' := by
  refine ⟨done ++ [c], by simpa [List.map_append] using hown, hb, by omega, by simp; omega, fun xs h => ?_⟩
  obtain ⟨tl, b1, b2⟩ := hx xs h
  cases tl with
  | nil => exact absurd b1 hne
  | cons x tl =>
    rw [escAll_cons] at b1
    obtain ⟨rfl, b3⟩ := hs x _ b1
    refine ⟨tl, ?_, by rw [b2, List.append_assoc]; rfl⟩
    rw [← b3, List.drop_drop, show i - 1 + m = i + m - 1 by omega]

theorem index_at (t : ByteArray) (k : Nat) (h : k < t.size) (z : Int) (hz : z = (k : Int)) (W : World) : (Instr.index 9 (.string t) (.int .i64 z)).run Tryz.prog W = .ok (bval t[k]) W := by
  subst hz
  rw [run_index_string W 9 t .i64 _ Tryz.underlying9, dif_pos ⟨by omega, by omega⟩]
  have e : ((k : Int)).toNat = k := by omega
  simp only [e]
theorem wrap_in (z : Int) (h : -9223372036854775808 ≤ z ∧ z ≤ 9223372036854775807) : IntKind.i64.wrap z = z := by
  rw [IntKind.wrap_i64]; omega
set_option maxHeartbeats 4000000 in
set_option maxRecDepth 100000 in
theorem refword_any (t : ByteArray) (h2 : 2 ≤ t.size) (hs : t.size ≤ 140737488351232) (w : World) : Calls Tryz.prog 36 #[.string t] w (Unq t w) := by
  obtain ⟨i0, hi, hz0, hz1, hz2⟩ := info_parts info5
  have H2 := Lib.hid h2
  have HS := Lib.hid hs
  have hsI : (t.size : Int) ≤ 140737488351232 := by omega
  have hsJ : (2 : Int) ≤ (t.size : Int) := by omega
  clear hs
  go_enter Tryz.func36, Tryz.ntmps36
  go_wp2_with fail
  go_loopw [3, 4] (fun v iv wr => ∃ i : Nat, iv = .int .i64 i ∧ i ≤ t.size ∧ WInv w t i v wr) (fun _ iv _ => t.size - (intOf iv).toNat)
  case atStart => exact ⟨1, rfl, by omega, [], World.ownsRow_nil _ _ _ _, Below.refl _ _, by omega, by simp, fun xs h => ⟨xs, by simpa using h, rfl⟩⟩
  case round =>
    obtain ⟨i, rfl, hile, done, hown, hbel, hi1, hdl, hx⟩ := hrel
    have HX := Lib.hid hx
    have HD := Lib.hid hdl
    have hiI : (1 : Int) ≤ (i : Int) := by omega
    have hiJ : (i : Int) ≤ (t.size : Int) := by omega
    have hdn : done.length ≤ 140737488351232 := by have := HS.out; omega
    have hsz := hbel.size
    clear hx hdl
    by_cases hlt : i < t.size - 1
    · have hltI : (i : Int) < (t.size : Int) - 1 := by omega
      have hlt' : i < t.size := by omega
      have hmid := mid_at t i hi1 hlt
      have hne : Hid ((mid t).drop (i - 1) ≠ []) := Lib.hid (by rw [hmid]; simp)
      by_cases h92 : ¬ (t[i]'hlt').toNat = 92
      · have e1 : (((t[i]'hlt').toNat : Int) == 92) = false := by rw [beq_eq_false_iff_ne]; omega
        have e2 : (((t[i]'hlt').toNat : Int) != 92) = true := by rw [bne_iff_ne]; omega
        have HT : Hid (∀ x xs, (mid t).drop (i - 1) = escB x ++ xs → (t[i]'hlt') = x ∧ ((mid t).drop (i - 1)).drop 1 = xs) := Lib.hid (step_plain hmid (.inr h92))
        clear hmid h92
        go_wp2_with (at_builtin; refine wpList_append_lies _ rfl _ _ 62 rfl w.heap.size 5 i0 (.int .u8 0) 1 1 Tryz.underlying62 hi hz0 hz1 hz2 rfl (by decide) _ _ _ rfl (hown.alloc _) ⟨wr.heap.size, 0, none⟩ 1 1 [bval (t[i]'hlt')] rfl rfl (news1 _ _) (by intro u hu; simp at hu; subst hu; rfl) (by decide) (by unfold maxLen; omega) (by omega) (by simp; omega) (wr.heap.size + 1) (by simp) ?_; intro g cap w1 hown1 hgrow _ _)
        go_roundw
        case rel => exact ⟨i + 1, by simp, by omega, WInv.step hi1 (by omega) HD.out HX.out hne.out HT.out hown1 ((hbel.alloc hsz _).grown hgrow (by simp; omega) (fun j hj => (hown.lt j hj).1))⟩
        case measure => simp [intOf]; omega
      · replace h92 : (t[i]'hlt').toNat = 92 := by omega
        by_cases hb1 : t.size - 1 ≤ i + 1
        · have e1 : (((t[i]'hlt').toNat : Int) == 92) = true := by rw [beq_iff_eq]; omega
          have e2 : (((t[i]'hlt').toNat : Int) != 92) = false := by rw [bne_eq_false_iff_eq]; omega
          have hbI : (t.size : Int) - 1 ≤ (i : Int) + 1 := by omega
          have HT : Hid (∀ x xs, (mid t).drop (i - 1) = escB x ++ xs → (t[i]'hlt') = x ∧ ((mid t).drop (i - 1)).drop 1 = xs) := Lib.hid (step_plain hmid (.inl (by have h := congrArg List.length hmid; rw [List.length_drop, mid_len t H2.out] at h; rw [List.length_drop, mid_len t H2.out]; omega)))
          clear hmid h92 hb1
          go_wp2_with (at_builtin; refine wpList_append_lies _ rfl _ _ 62 rfl w.heap.size 5 i0 (.int .u8 0) 1 1 Tryz.underlying62 hi hz0 hz1 hz2 rfl (by decide) _ _ _ rfl (hown.alloc _) ⟨wr.heap.size, 0, none⟩ 1 1 [bval (t[i]'hlt')] rfl rfl (news1 _ _) (by intro u hu; simp at hu; subst hu; rfl) (by decide) (by unfold maxLen; omega) (by omega) (by simp; omega) (wr.heap.size + 1) (by simp) ?_; intro g cap w1 hown1 hgrow _ _)
          go_roundw
          case rel => exact ⟨i + 1, by simp, by omega, WInv.step hi1 (by omega) HD.out HX.out hne.out HT.out hown1 ((hbel.alloc hsz _).grown hgrow (by simp; omega) (fun j hj => (hown.lt j hj).1))⟩
          case measure => simp [intOf]; omega
        · have e1 : (((t[i]'hlt').toNat : Int) == 92) = true := by rw [beq_iff_eq]; omega
          have e2 : (((t[i]'hlt').toNat : Int) != 92) = false := by rw [bne_eq_false_iff_eq]; omega
          have hb2 : i + 1 < t.size - 1 := by omega
          have hb3 : i + 1 < t.size := by omega
          have hbI : (i : Int) + 1 < (t.size : Int) - 1 := by omega
          have hmid2 := mid_at t (i + 1) (by omega) hb2
          rw [show i + 1 - 1 = i by omega] at hmid2
          rw [hmid2] at hmid
          by_cases hx1 : ¬ (t[i + 1]'hb3).toNat = 120
          · have x1 : (((t[i + 1]'hb3).toNat : Int) == 120) = false := by rw [beq_eq_false_iff_ne]; omega
            have HT : Hid (∀ x xs, (mid t).drop (i - 1) = escB x ++ xs → (t[i + 1]'hb3) = x ∧ ((mid t).drop (i - 1)).drop 2 = xs) := Lib.hid (step_marked hmid h92 (.inr hx1))
            clear hmid hmid2 h92 hb1 hx1
            go_wp2_with (at_builtin; refine wpList_append_lies _ rfl _ _ 62 rfl w.heap.size 5 i0 (.int .u8 0) 1 1 Tryz.underlying62 hi hz0 hz1 hz2 rfl (by decide) _ _ _ rfl (hown.alloc _) ⟨wr.heap.size, 0, none⟩ 1 1 [bval (t[i + 1]'hb3)] rfl rfl (news1 _ _) (by intro u hu; simp at hu; subst hu; rfl) (by decide) (by unfold maxLen; omega) (by omega) (by simp; omega) (wr.heap.size + 1) (by simp) ?_; intro g cap w1 hown1 hgrow _ _)
            go_roundw
            case rel => exact ⟨i + 2, by simp, by omega, WInv.step hi1 (by omega) HD.out HX.out hne.out HT.out hown1 ((hbel.alloc hsz _).grown hgrow (by simp; omega) (fun j hj => (hown.lt j hj).1))⟩
            case measure => simp [intOf]; omega
          · replace hx1 : (t[i + 1]'hb3).toNat = 120 := by omega
            by_cases h3 : t.size - 1 ≤ i + 3
            · have x1 : (((t[i + 1]'hb3).toNat : Int) == 120) = true := by rw [beq_iff_eq]; omega
              have h3I : (t.size : Int) - 1 ≤ (i : Int) + 3 := by omega
              have HT : Hid (∀ x xs, (mid t).drop (i - 1) = escB x ++ xs → (t[i + 1]'hb3) = x ∧ ((mid t).drop (i - 1)).drop 2 = xs) := Lib.hid (step_marked hmid h92 (.inl (by rw [List.length_drop, mid_len t H2.out]; omega)))
              clear hmid hmid2 h92 hb1 hx1 h3
              go_wp2_with (at_builtin; refine wpList_append_lies _ rfl _ _ 62 rfl w.heap.size 5 i0 (.int .u8 0) 1 1 Tryz.underlying62 hi hz0 hz1 hz2 rfl (by decide) _ _ _ rfl (hown.alloc _) ⟨wr.heap.size, 0, none⟩ 1 1 [bval (t[i + 1]'hb3)] rfl rfl (news1 _ _) (by intro u hu; simp at hu; subst hu; rfl) (by decide) (by unfold maxLen; omega) (by omega) (by simp; omega) (wr.heap.size + 1) (by simp) ?_; intro g cap w1 hown1 hgrow _ _)
              go_roundw
              case rel => exact ⟨i + 2, by simp, by omega, WInv.step hi1 (by omega) HD.out HX.out hne.out HT.out hown1 ((hbel.alloc hsz _).grown hgrow (by simp; omega) (fun j hj => (hown.lt j hj).1))⟩
              case measure => simp [intOf]; omega
            · have x1 : (((t[i + 1]'hb3).toNat : Int) == 120) = true := by rw [beq_iff_eq]; omega
              have h3' : i + 3 < t.size - 1 := by omega
              have h3I : (i : Int) + 3 < (t.size : Int) - 1 := by omega
              have hb4 : i + 2 < t.size := by omega
              have hb5 : i + 3 < t.size := by omega
              have hmid3 := mid_at t (i + 2) (by omega) (by omega)
              have hmid4 := mid_at t (i + 3) (by omega) h3'
              rw [show i + 2 - 1 = i + 1 by omega] at hmid3
              rw [show i + 3 - 1 = i + 2 by omega] at hmid4
              rw [hmid3, hmid4] at hmid
              by_cases hc0 : hexI (t[i + 2]'hb4) < 0
              · have hc0I : ¬ (0 : Int) ≤ hexI (t[i + 2]'hb4) := by omega
                have HT : Hid (∀ x xs, (mid t).drop (i - 1) = escB x ++ xs → (t[i + 1]'hb3) = x ∧ ((mid t).drop (i - 1)).drop 2 = xs) := Lib.hid (step_bad hmid h92 hx1 (.inl hc0))
                clear hmid hmid2 hmid3 hmid4 h92 hb1 hx1 h3
                go_wp2_with (first | (at_builtin; refine wpList_append_lies _ rfl _ _ 62 rfl w.heap.size 5 i0 (.int .u8 0) 1 1 Tryz.underlying62 hi hz0 hz1 hz2 rfl (by decide) _ _ _ rfl (hown.alloc _) ⟨wr.heap.size, 0, none⟩ 1 1 [bval (t[i + 1]'hb3)] rfl rfl (news1 _ _) (by intro u hu; simp at hu; subst hu; rfl) (by decide) (by unfold maxLen; omega) (by omega) (by simp; omega) (wr.heap.size + 1) (by simp) ?_; intro g cap w1 hown1 hgrow _ _) | (go_at_call 48; refine (hex_any _ _).mono ?_; rintro e w9 ⟨rfl, rfl⟩))
                go_roundw
                case rel => exact ⟨i + 2, by simp, by omega, WInv.step hi1 (by omega) HD.out HX.out hne.out HT.out hown1 ((hbel.alloc hsz _).grown hgrow (by simp; omega) (fun j hj => (hown.lt j hj).1))⟩
                case measure => simp [intOf]; omega
              · by_cases hd0 : hexI (t[i + 3]'hb5) < 0
                · have hc0I : (0 : Int) ≤ hexI (t[i + 2]'hb4) := by omega
                  have hd0I : ¬ (0 : Int) ≤ hexI (t[i + 3]'hb5) := by omega
                  have HT : Hid (∀ x xs, (mid t).drop (i - 1) = escB x ++ xs → (t[i + 1]'hb3) = x ∧ ((mid t).drop (i - 1)).drop 2 = xs) := Lib.hid (step_bad hmid h92 hx1 (.inr hd0))
                  clear hmid hmid2 hmid3 hmid4 h92 hb1 hx1 h3
                  go_wp2_with (first | (at_builtin; refine wpList_append_lies _ rfl _ _ 62 rfl w.heap.size 5 i0 (.int .u8 0) 1 1 Tryz.underlying62 hi hz0 hz1 hz2 rfl (by decide) _ _ _ rfl (hown.alloc _) ⟨wr.heap.size, 0, none⟩ 1 1 [bval (t[i + 1]'hb3)] rfl rfl (news1 _ _) (by intro u hu; simp at hu; subst hu; rfl) (by decide) (by unfold maxLen; omega) (by omega) (by simp; omega) (wr.heap.size + 1) (by simp) ?_; intro g cap w1 hown1 hgrow _ _) | (go_at_call 48; refine (hex_any _ _).mono ?_; rintro e w9 ⟨rfl, rfl⟩))
                  go_roundw
                  case rel => exact ⟨i + 2, by simp, by omega, WInv.step hi1 (by omega) HD.out HX.out hne.out HT.out hown1 ((hbel.alloc hsz _).grown hgrow (by simp; omega) (fun j hj => (hown.lt j hj).1))⟩
                  case measure => simp [intOf]; omega
                · have hc1 : (0 : Int) ≤ hexI (t[i + 2]'hb4) := by omega
                  have hd1 : (0 : Int) ≤ hexI (t[i + 3]'hb5) := by omega
                  have hc2 := hexI_le (t[i + 2]'hb4)
                  have hd2 := hexI_le (t[i + 3]'hb5)
                  have hv : ((16 * hexI (t[i + 2]'hb4) + hexI (t[i + 3]'hb5) : Int)) = ((UInt8.ofNat (16 * (hexI (t[i + 2]'hb4)).toNat + (hexI (t[i + 3]'hb5)).toNat)).toNat : Int) := by
                    have : (UInt8.ofNat (16 * (hexI (t[i + 2]'hb4)).toNat + (hexI (t[i + 3]'hb5)).toNat)).toNat = 16 * (hexI (t[i + 2]'hb4)).toNat + (hexI (t[i + 3]'hb5)).toNat := by simp; omega
                    rw [this]; omega
                  have HV := Lib.hid hv
                  clear hv
                  have HT : Hid (∀ x xs, (mid t).drop (i - 1) = escB x ++ xs → (UInt8.ofNat (16 * (hexI (t[i + 2]'hb4)).toNat + (hexI (t[i + 3]'hb5)).toNat)) = x ∧ ((mid t).drop (i - 1)).drop 4 = xs) := Lib.hid (step_hex hmid h92 hx1 (fun y hy => by simp only [fold16, hexI_dig _ hc1, hexI_dig _ hd1, Option.some.injEq] at hy; omega))
                  clear hmid hmid2 hmid3 hmid4 h92 hb1 hx1 h3
                  go_wp2_with (go_at_call 48; refine (hex_any _ _).mono ?_; rintro e w9 ⟨rfl, rfl⟩)
                  have w2 : IntKind.i64.wrap ((i : Int) + 2) = (i : Int) + 2 := wrap_in _ (by omega)
                  have w3 : IntKind.i64.wrap ((i : Int) + 3) = (i : Int) + 3 := wrap_in _ (by omega)
                  have wm : IntKind.i64.wrap (16 * hexI (t[i + 2]'hb4)) = 16 * hexI (t[i + 2]'hb4) := wrap_in _ (by omega)
                  have ws : IntKind.i64.wrap (16 * hexI (t[i + 2]'hb4) + hexI (t[i + 3]'hb5)) = 16 * hexI (t[i + 2]'hb4) + hexI (t[i + 3]'hb5) := wrap_in _ (by omega)
                  have wu : IntKind.u8.wrap (16 * hexI (t[i + 2]'hb4) + hexI (t[i + 3]'hb5)) = 16 * hexI (t[i + 2]'hb4) + hexI (t[i + 3]'hb5) := by rw [IntKind.wrap_u8]; omega
                  have ix2 := index_at t (i + 2) hb4 ((i : Int) + 2) (by omega)
                  have ix3 := index_at t (i + 3) hb5 ((i : Int) + 3) (by omega)
                  go_region_law (first | (refine step_append_lies _ (by rfl) _ _ 62 (by rfl) w.heap.size 5 i0 (.int .u8 0) 1 1 Tryz.underlying62 hi hz0 hz1 hz2 rfl (by decide) _ _ _ (by rfl) (hown.alloc _) ⟨wr.heap.size, 0, none⟩ 1 1 [.int .u8 (16 * hexI (t[i + 2]'hb4) + hexI (t[i + 3]'hb5))] (by rfl) rfl (news1 _ _) (by intro u hu; simp at hu; subst hu; rfl) (by decide) (by unfold maxLen; omega) (by omega) (by simp; omega) (wr.heap.size + 1) (by simp) ?_; intro g cap w1 hown1 hgrow _ _) | (go_simp; go_at_call 48; refine (hex_any _ _).mono ?_; rintro e w9 ⟨rfl, rfl⟩; try go_wp2_with fail))
                  all_goals go_wp2_with fail
                  all_goals refine ⟨⟨i + 4, by simp, by omega, WInv.step hi1 (by omega) HD.out HX.out hne.out HT.out (by have h9 := HV.out; rw [h9] at hown1; exact hown1) (((hbel.alloc hsz _).drew).grown hgrow (by simp; omega) (fun j hj => (hown.lt j hj).1))⟩, by simp [intOf]; omega⟩
    · have hgeI : ¬ (i : Int) < (t.size : Int) - 1 := by omega
      have hcv := conv_owned hown
      go_wp2_with fail
      go_ret
      refine ⟨done, rfl, by have := HD.out; omega, fun xs h => ?_, hbel⟩
      obtain ⟨tl, b1, b2⟩ := HX.out xs (mid_text t _ h)
      have h4 : (mid t).drop (i - 1) = [] := List.drop_eq_nil_of_le (by rw [mid_len t H2.out]; omega)
      rw [h4] at b1
      rw [b2, escAll_nil b1.symm, List.append_nil]
end Go.Proofs.YtgjniopcaahgfaaGreatDoor
