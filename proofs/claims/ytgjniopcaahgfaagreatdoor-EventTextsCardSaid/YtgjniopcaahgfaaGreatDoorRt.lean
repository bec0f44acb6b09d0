/- The contract of the document's Text. -/
import Derived.Test.YtgjniopcaahgfaaGreatDoorMf
import Derived.Test.YtgjniopcaahgfaaGreatDoorRm
import Derived.Test.YtgjniopcaahgfaaGreatDoorS
set_option linter.unusedSimpArgs false
set_option linter.unusedVariables false
namespace Go.Proofs.YtgjniopcaahgfaaGreatDoor
open Go.RowKit
attribute [local go_sem ↓] Go.wp_at_zero Go.wp_at_succ

set_option maxHeartbeats 2000000 in
set_option maxRecDepth 20000 in
theorem rtext_no (key : ByteArray) (v : Value) (l : List Attr) (w : World) (hS : Sl w v l) (hR : Room l) (hm : mayE key l = false) : Calls Tryz.prog 5 #[.agg #[.string key, v]] w (Gives (.tuple #[.string ⟨#[]⟩, .int .i64 30]) w) := by
  have B1 : Below w.heap.size w (w.alloc (.cells #[.string key, v] 24)) := (Below.refl _ w).alloc (Nat.le_refl _) _
  have hM := rmay_any key v l _ (hS.below B1) hR
  rw [hm] at hM
  have HM := Lib.hid hM
  have HB := Lib.hid B1
  clear hM B1
  obtain ⟨p, cap, b, o, rfl, hp, hC, hbig⟩ := hS
  clear hp hC
  go_enter Tryz.func5, Tryz.ntmps5
  go_wp2_with (go_at_call 13; refine (HM.out).mono ?_; rintro e w1 ⟨rfl, hb1⟩)
  go_ret2
  exact ⟨rfl, then_ HB.out hb1⟩

set_option maxHeartbeats 4000000 in
set_option maxRecDepth 20000 in
theorem rtext_yes (key : ByteArray) (v : Value) (l : List Attr) (w : World) (hS : Sl w v l) (hR : Room l) (hm : mayE key l = true) : Calls Tryz.prog 5 #[.agg #[.string key, v]] w (Gives (.tuple #[.string ⟨(txtE key l).toArray⟩, .int .i64 0]) w) := by
  have B1 : Below w.heap.size w (w.alloc (.cells #[.string key, v] 24)) := (Below.refl _ w).alloc (Nat.le_refl _) _
  have hM := rmay_any key v l _ (hS.below B1) hR
  rw [hm] at hM
  have HM := Lib.hid hM
  have HB := Lib.hid B1
  have HK := Lib.hid (may_key hm)
  have HY := Lib.hid hm
  have HR := Lib.hid hR
  clear hM B1 hR hm
  obtain ⟨p, cap, b, o, rfl, hp, hC, hbig⟩ := hS
  have HP := Lib.hid hp
  have HC := Lib.hid hC
  clear hp hC
  go_enter Tryz.func5, Tryz.ntmps5
  go_wp2_with fail
  refine (HM.out).mono ?_; rintro e w1 ⟨rfl, hb1⟩
  have c0 : w1.cell? ⟨w.heap.size, 0, none⟩ = some (.string key) := by rw [hb1.cell (p := ⟨w.heap.size, 0, none⟩) (by simp)]; simp
  have c1 : w1.cell? ⟨w.heap.size, 1, none⟩ = some (.slice p l.length cap) := by rw [hb1.cell (p := ⟨w.heap.size, 1, none⟩) (by simp)]; simp
  have B1 : Below w.heap.size w w1 := then_ HB.out hb1
  have z1 : w.heap.size < w1.heap.size := Nat.lt_of_lt_of_le (by simp) hb1.size
  clear hb1
  go_wp2_with fail
  refine (reftext_yes 2 0 key false _ ⟨by decide, by decide⟩ HK.out).mono ?_; rintro e w3 ⟨rfl, hb3⟩
  have d1 : w3.cell? ⟨w.heap.size, 1, none⟩ = some (.slice p l.length cap) := by
    rw [hb3.cell (p := ⟨w.heap.size, 1, none⟩) z1]; exact c1
  have HB3 := Lib.hid (then_ B1 hb3)
  have z3 : w.heap.size < w3.heap.size := Nat.lt_of_lt_of_le z1 hb3.size
  clear hb3 c0 c1 B1
  go_wp2_with fail
  go_loopw [4, 6] (fun tv i wr => ∃ k : Nat, k ≤ l.length ∧ i = .int .i64 k ∧ tv = .string ⟨(txt 2 0 key false ++ flat (l.take k)).toArray⟩ ∧ Below w.heap.size w wr ∧ w.heap.size < wr.heap.size ∧ wr.cell? ⟨w.heap.size, 1, none⟩ = some (.slice p l.length cap)) (fun _ i _ => l.length - (intOf i).toNat)
  case atStart => exact ⟨0, Nat.zero_le _, rfl, by simp [flat], HB3.out, z3, d1⟩
  case round =>
    obtain ⟨k, hk, rfl, rfl, hbel, hzr, hcr⟩ := hrel
    by_cases hkl : k < l.length
    · have hne : l ≠ [] := by rintro rfl; simp at hkl
      obtain ⟨hp', hb'⟩ := HP.out hne
      have hidx := index_attr p b o l.length cap k hp' hkl
      clear hp' hne
      obtain ⟨c0, c1, c2, c3, c4⟩ := five HC.out hkl
      have hcl := fun (j : Nat) => hbel.cell (p := ⟨b, j, none⟩) hb'
      have hro := (HR.out).at hkl
      have hok := ok_at HY.out hkl
      have HT := Lib.hid (flat_take hkl)
      obtain ⟨x, hx⟩ : ∃ x, l.getD k default = x := ⟨_, rfl⟩
      rw [hx] at c0 c1 c2 c3 c4 hro hok HT
      have HRo := Lib.hid hro
      have HOk := Lib.hid (ok_parts hok)
      clear hx hro hok
      have s1 : x.nm.size ≤ 16 := by have h := HOk.out.1; simp only [nameB, Bool.and_eq_true, decide_eq_true_eq] at h; omega
      have s2 : (txt x.k x.n x.s x.b).length ≤ 200 := txt_length HOk.out.2 HRo.out.1
      have s3 := flat_size HY.out HR.out.fits k
      have s4 : (txt 2 0 key false).length ≤ 200 := txt_length HK.out ⟨by decide, by decide⟩
      have g1 : ¬ 9223372036854775807 < (txt 2 0 key false).length + (flat (List.take k l)).length + 1 := by omega
      have g2 : ¬ 9223372036854775807 < (txt 2 0 key false).length + (flat (List.take k l)).length + 1 + x.nm.size := by omega
      have g3 : ¬ 9223372036854775807 < (txt 2 0 key false).length + (flat (List.take k l)).length + 1 + x.nm.size + 1 := by omega
      have g4 : ¬ 9223372036854775807 < (txt 2 0 key false).length + (flat (List.take k l)).length + 1 + x.nm.size + 1 + (txt x.k x.n x.s x.b).length := by omega
      have HS := Lib.hid (And.intro s1 (And.intro s2 (And.intro s3 s4)))
      clear s1 s2 s3 s4
      go_wp2_with fail
      refine (reftext_yes x.k x.n x.s x.b _ HRo.out.1 HOk.out.2).mono ?_; rintro e w4 ⟨rfl, hb4⟩
      have h0 : w4.cell? ⟨b, o + k * 5, none⟩ = some (.string x.nm) := by rw [(then_ hbel hb4).cell (p := ⟨b, o + k * 5, none⟩) hb']; exact c0
      have h1 : w4.cell? ⟨w.heap.size, 1, none⟩ = some (.slice p l.length cap) := by rw [hb4.cell (p := ⟨w.heap.size, 1, none⟩) hzr]; exact hcr
      have h2 : w.heap.size < w4.heap.size := Nat.lt_of_lt_of_le hzr hb4.size
      have HB4 := Lib.hid (then_ hbel hb4)
      clear hbel hb4 hcl c0 c1 c2 c3 c4
      go_wp2_with fail
      go_roundw
      case rel =>
        refine ⟨k + 1, by omega, by simp, congrArg Value.string (bytes_eq ?_), HB4.out, h2, h1⟩
        rw [HT.out]
        simp [attT]
      case measure => simp [intOf]; omega
    · have hke : l.take k = l := List.take_of_length_le (by omega)
      rw [hke]
      clear hke
      go_wp2_with fail
      go_ret2
      exact ⟨rfl, hbel⟩
end Go.Proofs.YtgjniopcaahgfaaGreatDoor
