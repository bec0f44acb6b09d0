/- The contract of package event's Text. -/
import Derived.Test.YtgjniopcaahgfaaGreatDoorMe
import Derived.Test.YtgjniopcaahgfaaGreatDoorLc
set_option linter.unusedSimpArgs false
set_option linter.unusedVariables false
namespace Go.Proofs.YtgjniopcaahgfaaGreatDoor
open Go.RowKit
attribute [local go_sem ↓] Go.wp_at_zero Go.wp_at_succ

theorem ok_at {key : ByteArray} {l : List Attr} (h : mayE key l = true) {k : Nat} (hk : k < l.length) : okA (l.getD k default) = true := by
  refine ok_of_rise (rise_of_may h) _ ?_
  rw [List.getD_eq_getElem?_getD, List.getElem?_eq_getElem hk]
  exact List.getElem_mem hk
theorem flat_take {l : List Attr} {k : Nat} (hk : k < l.length) : flat (l.take (k + 1)) = flat (l.take k) ++ (32 :: attT (l.getD k default)) := by
  rw [List.take_succ_eq_append_getElem hk, flat, List.flatMap_append, List.getD_eq_getElem?_getD, List.getElem?_eq_getElem hk]
  simp [flat]

theorem attT_length {a : Attr} (h : okA a = true) (hf : Fits a.n) : (attT a).length ≤ 217 := by
  obtain ⟨h1, h2⟩ := ok_parts h
  have h3 := txt_length h2 hf
  simp only [nameB, Bool.and_eq_true, decide_eq_true_eq] at h1
  have h4 := Lib.size_eq a.nm
  simp only [attT, List.length_append, List.length_cons]
  omega
theorem flat_length : ∀ (l : List Attr), (∀ a ∈ l, okA a = true) → FitsA l → (flat l).length ≤ l.length * 218
  | [], _, _ => by simp [flat]
  | a :: l, h, hf => by
    have h1 := attT_length (h a (by simp)) (hf a (by simp))
    have h2 := flat_length l (fun x hx => h x (by simp [hx])) (fun x hx => hf x (by simp [hx]))
    have : flat (a :: l) = 32 :: (attT a ++ flat l) := rfl
    rw [this, List.length_cons, List.length_append, List.length_cons, Nat.add_mul]
    omega
theorem flat_size {key : ByteArray} {l : List Attr} (h : mayE key l = true) (hf : FitsA l) (k : Nat) : (flat (l.take k)).length ≤ 1744 := by
  have h1 := flat_length (l.take k) (fun a ha => ok_of_rise (rise_of_may h) a (List.mem_of_mem_take ha)) (fun a ha => hf a (List.mem_of_mem_take ha))
  have h2 : l.length ≤ 8 := by simp only [mayE, Bool.and_eq_true, decide_eq_true_eq] at h; omega
  have h3 : (l.take k).length ≤ 8 := by rw [List.length_take]; omega
  have h4 := Nat.mul_le_mul_right 218 h3
  omega

set_option maxHeartbeats 2000000 in
set_option maxRecDepth 20000 in
theorem etext_no (key : ByteArray) (v : Value) (l : List Attr) (w : World) (hS : Sl w v l) (hR : Room l) (hm : mayE key l = false) : Calls Tryz.prog 4 #[.agg #[.string key, v]] w (Gives (.tuple #[.string ⟨#[]⟩, .int .i64 30]) w) := by
  have B1 : Below w.heap.size w (w.alloc (.cells #[.string key, v] 24)) := (Below.refl _ w).alloc (Nat.le_refl _) _
  have hM := emay_any key v l _ (hS.below B1) hR
  rw [hm] at hM
  have HM := Lib.hid hM
  have HB := Lib.hid B1
  clear hM B1
  obtain ⟨p, cap, b, o, rfl, hp, hC, hbig⟩ := hS
  clear hp hC
  go_enter Tryz.func4, Tryz.ntmps4
  go_wp2_with (go_at_call 10; refine (HM.out).mono ?_; rintro e w1 ⟨rfl, hb1⟩)
  go_ret2
  exact ⟨rfl, then_ HB.out hb1⟩

set_option maxHeartbeats 4000000 in
set_option maxRecDepth 20000 in
theorem etext_yes (key : ByteArray) (v : Value) (l : List Attr) (w : World) (hE : Env w) (hS : Sl w v l) (hR : Room l) (hm : mayE key l = true) : Calls Tryz.prog 4 #[.agg #[.string key, v]] w (Gives (.tuple #[.string ⟨(txtE key l).toArray⟩, .int .i64 0]) w) := by
  have B1 : Below w.heap.size w (w.alloc (.cells #[.string key, v] 24)) := (Below.refl _ w).alloc (Nat.le_refl _) _
  have hM := emay_any key v l _ (hS.below B1) hR
  rw [hm] at hM
  have HM := Lib.hid hM
  have HE := hE.alloc (.cells #[.string key, v] 24)
  have HB := Lib.hid B1
  have HK := Lib.hid (may_key hm)
  have HY := Lib.hid hm
  have HR := Lib.hid hR
  clear hM B1 hE hR hm
  obtain ⟨p, cap, b, o, rfl, hp, hC, hbig⟩ := hS
  have HP := Lib.hid hp
  have HC := Lib.hid hC
  clear hp hC
  go_enter Tryz.func4, Tryz.ntmps4
  go_wp2_with fail
  refine (HM.out).mono ?_; rintro e w1 ⟨rfl, hb1⟩
  have E1 := HE.below hb1
  have c0 : w1.cell? ⟨w.heap.size, 0, none⟩ = some (.string key) := by rw [hb1.cell (p := ⟨w.heap.size, 0, none⟩) (by simp)]; simp
  have c1 : w1.cell? ⟨w.heap.size, 1, none⟩ = some (.slice p l.length cap) := by rw [hb1.cell (p := ⟨w.heap.size, 1, none⟩) (by simp)]; simp
  have B1 : Below w.heap.size w w1 := then_ HB.out hb1
  have z1 : w.heap.size < w1.heap.size := Nat.lt_of_lt_of_le (by simp) hb1.size
  clear hb1 HE
  go_wp2_with fail
  refine (word_any key _).mono ?_; rintro e w2 ⟨rfl, hb2⟩
  have E2 := E1.below hb2
  go_wp2_with fail
  refine (text_yes 2 0 key false _ (by decide) (by decide) E2 HK.out).mono ?_; rintro e w3 ⟨rfl, hb3⟩
  have E3 := E2.below hb3
  have d1 : w3.cell? ⟨w.heap.size, 1, none⟩ = some (.slice p l.length cap) := by
    rw [hb3.cell (p := ⟨w.heap.size, 1, none⟩) (Nat.lt_of_lt_of_le z1 hb2.size), hb2.cell (p := ⟨w.heap.size, 1, none⟩) z1]; exact c1
  have HB3 := Lib.hid (then_ B1 (then_ hb2 hb3))
  clear E1 E2 hb2 hb3 c0 c1 B1
  go_wp2_with fail
  go_loopw [4, 23] (fun tv i wr => ∃ k : Nat, k ≤ l.length ∧ i = .int .i64 k ∧ tv = .string ⟨(txt 2 0 key false ++ flat (l.take k)).toArray⟩ ∧ Below w.heap.size w wr ∧ Env wr) (fun _ i _ => l.length - (intOf i).toNat)
  case atStart => exact ⟨0, Nat.zero_le _, rfl, by simp [flat], HB3.out, E3⟩
  case round =>
    obtain ⟨k, hk, rfl, rfl, hbel, hEr⟩ := hrel
    by_cases hkl : k < l.length
    · have hne : l ≠ [] := by rintro rfl; simp at hkl
      obtain ⟨hp', hb'⟩ := HP.out hne
      have hidx := index_attr p b o l.length cap k hp' hkl
      clear hp' hne
      obtain ⟨c0, c1, c2, c3, c4⟩ := five HC.out hkl
      have hcl := fun (j : Nat) => hbel.cell (p := ⟨b, j, none⟩) hb'
      have hro := (HR.out).at hkl
      have hok := ok_at HY.out hkl
      have HT := Lib.hid (flat_take hkl)
      obtain ⟨x, hx⟩ : ∃ x, l.getD k default = x := ⟨_, rfl⟩
      rw [hx] at c0 c1 c2 c3 c4 hro hok HT
      have HRo := Lib.hid hro
      have HOk := Lib.hid (ok_parts hok)
      clear hx hro hok
      have s1 : x.nm.size ≤ 16 := by have h := HOk.out.1; simp only [nameB, Bool.and_eq_true, decide_eq_true_eq] at h; omega
      have s2 : (txt x.k x.n x.s x.b).length ≤ 200 := txt_length HOk.out.2 HRo.out.1
      have s3 := flat_size HY.out HR.out.fits k
      have s4 : (txt 2 0 key false).length ≤ 200 := txt_length HK.out ⟨by decide, by decide⟩
      have g1 : ¬ 9223372036854775807 < 1 + x.nm.size := by omega
      have g2 : ¬ 9223372036854775807 < 1 + x.nm.size + 1 := by omega
      have g3 : ¬ 9223372036854775807 < 1 + x.nm.size + 1 + (txt x.k x.n x.s x.b).length := by omega
      have g4 : ¬ 9223372036854775807 < (txt 2 0 key false).length + (flat (List.take k l)).length + (1 + x.nm.size + 1 + (txt x.k x.n x.s x.b).length) := by omega
      have HS := Lib.hid (And.intro s1 (And.intro s2 (And.intro s3 s4)))
      clear s1 s2 s3 s4
      have E4 := hEr.alloc (.cells #[.string x.nm, .int .i64 x.k, .int .i64 x.n, .string x.s, .bool x.b] 43)
      go_wp2_with fail
      refine (text_yes x.k x.n x.s x.b _ HRo.out.1.1 HRo.out.1.2 E4 HOk.out.2).mono ?_; rintro e w4 ⟨rfl, hb4⟩
      have hnm : w4.cell? ⟨wr.heap.size, 0, none⟩ = some (.string x.nm) := by rw [hb4.cell (p := ⟨wr.heap.size, 0, none⟩) (by simp)]; simp
      have HB4 := Lib.hid (then_ (hbel.alloc hbel.size _) hb4)
      have E5 := E4.below hb4
      clear E4 hEr
      go_wp2_with fail
      go_roundw
      case rel =>
        refine ⟨k + 1, by omega, by simp, congrArg Value.string (bytes_eq ?_), HB4.out, E5⟩
        rw [HT.out]
        simp [attT]
      case measure => simp [intOf]; omega
    · have hke : l.take k = l := List.take_of_length_le (by omega)
      rw [hke]
      clear hke
      go_wp2_with fail
      go_ret2
      exact ⟨rfl, hbel⟩
end Go.Proofs.YtgjniopcaahgfaaGreatDoor
