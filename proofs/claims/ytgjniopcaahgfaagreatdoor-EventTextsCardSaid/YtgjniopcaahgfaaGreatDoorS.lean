/- The contract of the document's Text. -/
import Derived.Test.YtgjniopcaahgfaaGreatDoorH
import Derived.Test.YtgjniopcaahgfaaGreatDoorR
import Derived.Test.YtgjniopcaahgfaaGreatDoorG
import Derived.Deep.RegionLaw
set_option linter.unusedSimpArgs false
set_option linter.unusedVariables false
namespace Go.Proofs.YtgjniopcaahgfaaGreatDoor
open Go.RowKit

set_option maxHeartbeats 1000000 in
set_option maxRecDepth 20000 in
theorem reftext_no (k n : Int) (s : ByteArray) (b : Bool) (w : World) (h : mayB k n s b = false) : Calls Tryz.prog 14 #[val k n s b] w (Gives (.tuple #[.string ⟨#[]⟩, .int .i64 1]) w) := by
  go_enter Tryz.func14, Tryz.ntmps14
  go_wp2_with (go_at_call 30; refine (refmay_any k n s b _).mono ?_; rintro e w1 ⟨rfl, hb⟩)
  go_ret2
  exact ⟨rfl, ((Below.refl _ _).alloc (Nat.le_refl _) _).trans (hb.mono (by simp))⟩

theorem digits_z (z : Int) (N : Nat) (hz : z = (N : Int)) (hN : N ≤ 9223372036854775808) (w : World) : Calls Tryz.prog 31 #[.int .u64 z] w (Gives (.string ⟨(Lib.decDigits N).toArray⟩) w) := by
  subst hz; exact digits_any N hN w

set_option maxHeartbeats 1000000 in
set_option maxRecDepth 20000 in
theorem reftext_neg (N : Nat) (h0 : 1 ≤ N) (hN : N ≤ 9223372036854775808) (s : ByteArray) (b : Bool) (w : World) (h : mayB 1 (-(N : Int)) s b = true) : Calls Tryz.prog 14 #[val 1 (-(N : Int)) s b] w (Gives (.tuple #[.string ⟨(45 :: Lib.decDigits N).toArray⟩, .int .i64 0]) w) := by
  have hlt : decide (-(N : Int) < 0) = true := by simp; omega
  have h0I : (1 : Int) ≤ (N : Int) := by omega
  have hNI : (N : Int) ≤ 9223372036854775808 := by omega
  have hlen : (Lib.decDigits N).length ≤ 19 := digits_len hN
  have HC := Lib.hid (cat_one 45 (Lib.decDigits N))
  go_enter Tryz.func14, Tryz.ntmps14
  go_wp2_with (first | (go_at_call 30; refine (refmay_any 1 (-(N : Int)) s b _).mono ?_; rintro e w1 ⟨rfl, hb1⟩; have hO1 := (At4.new w 1 (-(N : Int)) s b).below hb1; have q0 := hO1.1; have q1 := hO1.2.1; have q2 := hO1.2.2.1; have q3 := hO1.2.2.2) | (go_at_call 31; refine (digits_z _ N (by omega) hN _).mono ?_; rintro e w2 ⟨rfl, hb2⟩))
  go_ret2
  exact ⟨by rw [HC.out]; rfl, (((Below.refl _ _).alloc (Nat.le_refl _) _).trans (hb1.mono (by simp))).trans (hb2.mono (by have := hb1.size; simp at this; omega))⟩

set_option maxHeartbeats 1000000 in
set_option maxRecDepth 20000 in
theorem reftext_pos (N : Nat) (hN : N ≤ 9223372036854775807) (s : ByteArray) (b : Bool) (w : World) (h : mayB 1 (N : Int) s b = true) : Calls Tryz.prog 14 #[val 1 (N : Int) s b] w (Gives (.tuple #[.string ⟨(Lib.decDigits N).toArray⟩, .int .i64 0]) w) := by
  have hlt : decide ((N : Int) < 0) = false := by simp
  have hlt2 : ¬ (N : Int) < 0 := by omega
  have hNI : (N : Int) ≤ 9223372036854775807 := by omega
  go_enter Tryz.func14, Tryz.ntmps14
  go_wp2_with (first | (go_at_call 30; refine (refmay_any 1 (N : Int) s b _).mono ?_; rintro e w1 ⟨rfl, hb1⟩; have hO1 := (At4.new w 1 (N : Int) s b).below hb1; have q0 := hO1.1; have q1 := hO1.2.1; have q2 := hO1.2.2.1; have q3 := hO1.2.2.2) | (go_at_call 31; refine (digits_z _ N (by omega) (by omega) _).mono ?_; rintro e w2 ⟨rfl, hb2⟩))
  go_ret2
  exact ⟨rfl, (((Below.refl _ _).alloc (Nat.le_refl _) _).trans (hb1.mono (by simp))).trans (hb2.mono (by have := hb1.size; simp at this; omega))⟩

set_option maxHeartbeats 1000000 in
set_option maxRecDepth 20000 in
theorem reftext_bool (n : Int) (s : ByteArray) (b : Bool) (w : World) (h : mayB 3 n s b = true) : Calls Tryz.prog 14 #[val 3 n s b] w (Gives (.tuple #[.string ⟨(Lib.formatBool b).toArray⟩, .int .i64 0]) w) := by
  cases b
  all_goals
    go_enter Tryz.func14, Tryz.ntmps14
    go_wp2_with (first | (go_at_call 30; refine (refmay_any 3 n s _ _).mono ?_; rintro e w1 ⟨rfl, hb1⟩; have hO1 := (At4.new w 3 n s _).below hb1; have q0 := hO1.1; have q1 := hO1.2.1; have q2 := hO1.2.2.1; have q3 := hO1.2.2.2))
    go_ret2
    exact ⟨rfl, (((Below.refl _ _).alloc (Nat.le_refl _) _).trans (hb1.mono (by simp)))⟩

theorem escB_plain {c : UInt8} (h1 : 32 ≤ c.toNat) (h2 : c.toNat ≤ 126) (h3 : ¬ c.toNat = 34) (h4 : ¬ c.toNat = 92) : escB c = [c] := by
  unfold escB; rw [if_neg (by omega), if_neg (by omega)]
theorem escB_mark {c : UInt8} (h : c.toNat = 34 ∨ c.toNat = 92) : escB c = [92, c] := by
  unfold escB; rw [if_pos h]
theorem escB_hex {c : UInt8} (h : c.toNat < 32 ∨ 126 < c.toNat) : escB c = [92, 120, hexd (hi4 c), hexd (lo4 c)] := by
  unfold escB; rw [if_neg (by omega), if_pos h]

/-- What the loop of the document's Text keeps at place k. -/
def TInv (w1 : World) (s : ByteArray) (k : Nat) (v : Value) (wr : World) : Prop :=
  wr.ownsRow w1.heap.size 5 1 v (34 :: escAll (s.data.toList.take k)).length ((34 :: escAll (s.data.toList.take k)).map bval) ∧ Below w1.heap.size w1 wr
theorem TInv.step {w1 : World} {s : ByteArray} {k : Nat} {v' : Value} {w' : World} {l : List UInt8} (hk : k < s.size) (hl : escB s[k] = l) {n : Nat} (hn : n = (34 :: escAll (s.data.toList.take k)).length + l.length) {xs : List Value} (hx : xs = (34 :: escAll (s.data.toList.take k)).map bval ++ l.map bval)
    (hown : w'.ownsRow w1.heap.size 5 1 v' n xs) (hb : Below w1.heap.size w1 w') : TInv w1 s (k + 1) v' w' := by
  subst hn; subst hx
  refine ⟨?_, hb⟩
  rw [escAll_take s k hk, hl, ← List.cons_append, List.length_append, List.map_append]
  exact hown

set_option maxHeartbeats 4000000 in
set_option maxRecDepth 100000 in
theorem reftext_str (n : Int) (s : ByteArray) (b : Bool) (w : World) (h : mayB 2 n s b = true) : Calls Tryz.prog 14 #[val 2 n s b] w (Gives (.tuple #[.string ⟨(34 :: (escAll s.data.toList ++ [34])).toArray⟩, .int .i64 0]) w) := by
  obtain ⟨i0, hi, hz0, hz1, hz2⟩ := info_parts info5
  have hs : s.size ≤ 32 := by simp [mayB] at h; omega
  have hsI : (s.size : Int) ≤ 32 := by omega
  go_enter Tryz.func14, Tryz.ntmps14
  go_wp2_with (go_at_call 30; refine (refmay_any 2 n s b _).mono ?_; rintro e w1 ⟨rfl, hb1⟩; have hO1 := (At4.new w 2 n s b).below hb1; have q0 := hO1.1; have q1 := hO1.2.1; have q2 := hO1.2.2.1; have q3 := hO1.2.2.2; have hz1' : w.heap.size < w1.heap.size := Nat.lt_of_lt_of_le (by simp) hb1.size; have hbw : Below w.heap.size w w1 := (((Below.refl _ w).alloc (Nat.le_refl _) _).trans (hb1.mono (by simp))))
  go_loopw [4, 5] (fun v iv wr => ∃ k : Nat, iv = .int .i64 k ∧ k ≤ s.size ∧ TInv w1 s k v wr) (fun _ iv _ => s.size - (intOf iv).toNat)
  case atStart =>
    exact ⟨0, rfl, Nat.zero_le _, ⟨rfl, .inr ⟨w1.heap.size, 1, #[.int .u8 34], rfl, Nat.le_refl _, heap_alloc_new w1 _, Nat.le_refl _, by unfold maxLen; decide, rfl, rfl⟩⟩, (Below.refl _ w1).alloc (Nat.le_refl _) _⟩
  case round =>
    obtain ⟨k, rfl, hk, hown, hbel⟩ := hrel
    have hll : (34 :: escAll (s.data.toList.take k)).length ≤ 129 := by
      have h1 := escAll_length (s.data.toList.take k)
      have h2 : (s.data.toList.take k).length ≤ k := List.length_take_le _ _
      simp only [List.length_cons]; omega
    have hOr := hO1.below hbel
    have r2 := hOr.2.2.1
    have hsz := hbel.size
    by_cases hkl : k < s.size
    · have hklI : (k : Int) < (s.size : Int) := by omega
      have hc := (s[k]).toNat_lt
      by_cases hx : (s[k]).toNat < 32 ∨ 126 < (s[k]).toNat
      · have HE := Lib.hid (escB_hex hx)
        have d1 : Int.tdiv ((s[k]).toNat : Int) 16 = (hi4 s[k] : Int) := by rw [Int.tdiv_eq_ediv_of_nonneg (by omega)]; unfold hi4; omega
        have d2 : Int.tmod ((s[k]).toNat : Int) 16 = (lo4 s[k] : Int) := by rw [Int.tmod_eq_emod_of_nonneg (by omega)]; unfold lo4; omega
        have w5 : IntKind.u8.wrap (hi4 s[k] : Int) = (hi4 s[k] : Int) := by have := hi4_lt s[k]; rw [IntKind.wrap_u8]; omega
        have w6 : IntKind.u8.wrap (lo4 s[k] : Int) = (lo4 s[k] : Int) := by have := lo4_lt s[k]; rw [IntKind.wrap_u8]; omega
        have d3 := index_digit (hi4 s[k]) (hi4_lt s[k])
        have d4 := index_digit (lo4 s[k]) (lo4_lt s[k])
        have d5 : ((s[k]).toNat : Int) / 16 = (hi4 s[k] : Int) := by unfold hi4; omega
        have d6 : ((s[k]).toNat : Int) % 16 = (lo4 s[k] : Int) := by unfold lo4; omega
        rcases hx with hx | hx
        · have e3 : decide (((s[k]).toNat : Int) < 32) = true := by simp; omega
          go_wp2_with fail
          go_region_law ((refine step_append_lies _ (by rfl) _ _ 62 (by rfl) w1.heap.size 5 i0 (.int .u8 0) 1 1 Tryz.underlying62 hi hz0 hz1 hz2 rfl (by decide) _ _ _ (by rfl) (hown.alloc _) ⟨wr.heap.size, 0, none⟩ 4 4 [.int .u8 92, .int .u8 120, bval (hexd (hi4 s[k])), bval (hexd (lo4 s[k]))] (by rfl) rfl (news4 _ _ _ _ _) (by intro u hu; simp at hu; rcases hu with hu | hu | hu | hu <;> subst hu <;> rfl) (by decide) (by unfold maxLen; omega) (by omega) (by simp; omega) (wr.heap.size + 1) (by simp) ?_; intro g cap w2 hown1 hgrow _ _))
          all_goals go_wp2_with fail
          all_goals refine ⟨⟨k + 1, by simp, by omega, TInv.step hkl HE.out rfl rfl hown1 (((hbel.alloc hsz _).drew).grown hgrow (by simp; omega) (fun j hj => (hown.lt j hj).1))⟩, by simp [intOf]; omega⟩
        · have e3 : decide (((s[k]).toNat : Int) < 32) = false := by simp; omega
          have e4 : decide ((126 : Int) < ((s[k]).toNat : Int)) = true := by simp; omega
          go_wp2_with fail
          go_region_law ((refine step_append_lies _ (by rfl) _ _ 62 (by rfl) w1.heap.size 5 i0 (.int .u8 0) 1 1 Tryz.underlying62 hi hz0 hz1 hz2 rfl (by decide) _ _ _ (by rfl) (hown.alloc _) ⟨wr.heap.size, 0, none⟩ 4 4 [.int .u8 92, .int .u8 120, bval (hexd (hi4 s[k])), bval (hexd (lo4 s[k]))] (by rfl) rfl (news4 _ _ _ _ _) (by intro u hu; simp at hu; rcases hu with hu | hu | hu | hu <;> subst hu <;> rfl) (by decide) (by unfold maxLen; omega) (by omega) (by simp; omega) (wr.heap.size + 1) (by simp) ?_; intro g cap w2 hown1 hgrow _ _))
          all_goals go_wp2_with fail
          all_goals refine ⟨⟨k + 1, by simp, by omega, TInv.step hkl HE.out rfl rfl hown1 (((hbel.alloc hsz _).drew).grown hgrow (by simp; omega) (fun j hj => (hown.lt j hj).1))⟩, by simp [intOf]; omega⟩
      · have e3 : decide (((s[k]).toNat : Int) < 32) = false := by simp; omega
        have e4 : decide ((126 : Int) < ((s[k]).toNat : Int)) = false := by simp; omega
        have hx1 : 32 ≤ (s[k]).toNat := by omega
        have hx2 : (s[k]).toNat ≤ 126 := by omega
        clear hx
        by_cases hm : (s[k]).toNat = 34 ∨ (s[k]).toNat = 92
        · have HE := Lib.hid (escB_mark hm)
          rcases hm with hm | hm
          · have e1 : (((s[k]).toNat : Int) == 34) = true := by simp; omega
            clear hm
            go_wp2_with (first | (at_builtin; refine wpList_append_lies _ rfl _ _ 62 rfl w1.heap.size 5 i0 (.int .u8 0) 1 1 Tryz.underlying62 hi hz0 hz1 hz2 rfl (by decide) _ _ _ rfl (hown.alloc _) ⟨wr.heap.size, 0, none⟩ 1 1 [bval 92] rfl rfl (news1 _ _) (by intro u hu; simp at hu; subst hu; rfl) (by decide) (by unfold maxLen; omega) (by omega) (by simp; omega) (wr.heap.size + 1) (by simp) ?_; intro g cap w2 hown1 hgrow _ _; have hsz2 : wr.heap.size < w2.heap.size := Nat.lt_of_lt_of_le (by simp) hgrow.size) | (at_builtin; refine wpList_append_lies _ rfl _ _ 62 rfl w1.heap.size 5 i0 (.int .u8 0) 1 1 Tryz.underlying62 hi hz0 hz1 hz2 rfl (by decide) _ _ _ rfl (hown1.alloc _) ⟨w2.heap.size, 0, none⟩ 1 1 [bval s[k]] rfl rfl (news1 _ _) (by intro u hu; simp at hu; subst hu; rfl) (by decide) (by unfold maxLen; omega) (by omega) (by simp; omega) (w2.heap.size + 1) (by simp) ?_; intro g2 cap2 w3 hown2 hgrow2 _ _))
            go_roundw
            case rel => exact ⟨k + 1, by simp, by omega, TInv.step hkl HE.out rfl (by simp) hown2 ((((hbel.alloc hsz _).grown hgrow (by simp; omega) (fun j hj => (hown.lt j hj).1)).alloc (by omega) _).grown hgrow2 (by simp; omega) (fun j hj => (hown1.lt j hj).1))⟩
            case measure => simp [intOf]; omega
          · have e1 : (((s[k]).toNat : Int) == 34) = false := by simp; omega
            have e2 : (((s[k]).toNat : Int) == 92) = true := by simp; omega
            clear hm
            go_wp2_with (first | (at_builtin; refine wpList_append_lies _ rfl _ _ 62 rfl w1.heap.size 5 i0 (.int .u8 0) 1 1 Tryz.underlying62 hi hz0 hz1 hz2 rfl (by decide) _ _ _ rfl (hown.alloc _) ⟨wr.heap.size, 0, none⟩ 1 1 [bval 92] rfl rfl (news1 _ _) (by intro u hu; simp at hu; subst hu; rfl) (by decide) (by unfold maxLen; omega) (by omega) (by simp; omega) (wr.heap.size + 1) (by simp) ?_; intro g cap w2 hown1 hgrow _ _; have hsz2 : wr.heap.size < w2.heap.size := Nat.lt_of_lt_of_le (by simp) hgrow.size) | (at_builtin; refine wpList_append_lies _ rfl _ _ 62 rfl w1.heap.size 5 i0 (.int .u8 0) 1 1 Tryz.underlying62 hi hz0 hz1 hz2 rfl (by decide) _ _ _ rfl (hown1.alloc _) ⟨w2.heap.size, 0, none⟩ 1 1 [bval s[k]] rfl rfl (news1 _ _) (by intro u hu; simp at hu; subst hu; rfl) (by decide) (by unfold maxLen; omega) (by omega) (by simp; omega) (w2.heap.size + 1) (by simp) ?_; intro g2 cap2 w3 hown2 hgrow2 _ _))
            go_roundw
            case rel => exact ⟨k + 1, by simp, by omega, TInv.step hkl HE.out rfl (by simp) hown2 ((((hbel.alloc hsz _).grown hgrow (by simp; omega) (fun j hj => (hown.lt j hj).1)).alloc (by omega) _).grown hgrow2 (by simp; omega) (fun j hj => (hown1.lt j hj).1))⟩
            case measure => simp [intOf]; omega
        · have e1 : (((s[k]).toNat : Int) == 34) = false := by simp; omega
          have e2 : (((s[k]).toNat : Int) == 92) = false := by simp; omega
          have HE := Lib.hid (escB_plain hx1 hx2 (by omega) (by omega))
          clear hm
          go_wp2_with (at_builtin; refine wpList_append_lies _ rfl _ _ 62 rfl w1.heap.size 5 i0 (.int .u8 0) 1 1 Tryz.underlying62 hi hz0 hz1 hz2 rfl (by decide) _ _ _ rfl (hown.alloc _) ⟨wr.heap.size, 0, none⟩ 1 1 [bval s[k]] rfl rfl (news1 _ _) (by intro u hu; simp at hu; subst hu; rfl) (by decide) (by unfold maxLen; omega) (by omega) (by simp; omega) (wr.heap.size + 1) (by simp) ?_; intro g cap w2 hown1 hgrow _ _)
          go_roundw
          case rel => exact ⟨k + 1, by simp, by omega, TInv.step hkl HE.out rfl rfl hown1 ((hbel.alloc hsz _).grown hgrow (by simp; omega) (fun j hj => (hown.lt j hj).1))⟩
          case measure => simp [intOf]; omega
    · have hklI : ¬ (k : Int) < (s.size : Int) := by omega
      have hke : s.data.toList.take k = s.data.toList := List.take_of_length_le (by simp; omega)
      rw [hke] at hown hll
      clear hke
      go_wp2_with (at_builtin; refine wpList_append_lies _ rfl _ _ 62 rfl w1.heap.size 5 i0 (.int .u8 0) 1 1 Tryz.underlying62 hi hz0 hz1 hz2 rfl (by decide) _ _ _ rfl (hown.alloc _) ⟨wr.heap.size, 0, none⟩ 1 1 [bval 34] rfl rfl (news1 _ _) (by intro u hu; simp at hu; subst hu; rfl) (by decide) (by unfold maxLen; omega) (by omega) (by simp; omega) (wr.heap.size + 1) (by simp) ?_; intro g cap w2 hown1 hgrow _ _; have hcv := conv_owned (l := 34 :: (escAll s.data.toList ++ [34])) (by simpa using hown1))
      go_ret2
      exact ⟨rfl, hbw.trans (((hbel.alloc hsz _).grown hgrow (by simp; omega) (fun j hj => (hown.lt j hj).1)).mono (by omega))⟩

theorem reftext_yes (k n : Int) (s : ByteArray) (b : Bool) (w : World) (hf : Fits n) (h : mayB k n s b = true) : Calls Tryz.prog 14 #[val k n s b] w (Gives (.tuple #[.string ⟨(txt k n s b).toArray⟩, .int .i64 0]) w) := by
  by_cases h1 : k = 1
  · subst h1
    have e : txt 1 n s b = Lib.itoa n := by simp [txt]
    rw [e]
    rcases itoa_form hf with ⟨u, rfl, hu1, hu2, e2⟩ | ⟨u, rfl, hu, e2⟩
    · rw [e2]; exact reftext_neg u hu1 hu2 s b w h
    · rw [e2]; exact reftext_pos u hu s b w h
  by_cases h2 : k = 2
  · subst h2; simpa [txt] using reftext_str n s b w h
  by_cases h3 : k = 3
  · subst h3; simpa [txt] using reftext_bool n s b w h
  · simp [mayB, h1, h2, h3] at h
end Go.Proofs.YtgjniopcaahgfaaGreatDoor
