/- The walk of CrcBack. -/
import Derived.Test.YthoccemfdndkhaaDoorYp
set_option linter.unusedSimpArgs false
set_option linter.unusedVariables false
namespace Go.Proofs.YthoccemfdndkhaaDoor.Crc
open Go Go.RowKit Gm
attribute [local go_sem ↓] Go.wp_at_zero Go.wp_at_succ

theorem takeE_put (L : List UInt8) : takeE (putL L) = 0 := by
  unfold takeE
  rw [frame_put, putL_length, if_neg (by omega)]
  simp
theorem takeB_put (L : List UInt8) : takeB (putL L) = L := by
  unfold takeB
  rw [frame_put, if_pos rfl, putL_take]
theorem take_some {F : List UInt8} (h : ¬ F.length < 4) (hf : frameL F = true) : takeE F = 0 ∧ putL (takeB F) = F ∧ (takeB F).length = F.length - 4 := by
  refine ⟨by unfold takeE; rw [if_neg h, hf]; simp, ?_, ?_⟩
  · unfold takeB
    rw [hf, if_pos rfl]
    unfold frameL at hf
    rw [Bool.and_eq_true, beq_iff_eq] at hf
    exact hf.2
  · unfold takeB
    rw [hf, if_pos rfl, List.length_take]; omega
theorem take_none {F : List UInt8} (h : ¬ F.length < 4) (hf : frameL F = false) : takeE F = 5 ∧ takeB F = [] := by
  refine ⟨by unfold takeE; rw [if_neg h, hf]; simp, by unfold takeB; rw [hf]; simp⟩
theorem own_zero {w : World} {base : Nat} {p : Option Addr} {n c : Nat} (h : OwnB w base (.slice p n c) []) : n = 0 := by
  obtain ⟨p1, c1, e⟩ := h.form
  simp only [Value.slice.injEq] at e
  exact e.2.1
set_option maxHeartbeats 4000000 in
set_option maxRecDepth 100000 in
theorem law_cback (v v1 : Value) (L F : List UInt8) (W : World) (hE : Env W) (hB : Bs W v L) (hl : L.length ≤ maxIn) (hF : Bs W v1 F) (hlF : F.length ≤ maxIn) : Calls Tryd.prog 6 #[v, v1] W (Gives (.bool true) W) := by
  obtain ⟨p, cap, rfl⟩ := hB.form
  obtain ⟨pf, cf, rfl⟩ := hF.form
  have HB := Lib.hid hB
  have HF := Lib.hid hF
  have HE := Lib.hid hE
  have HL := Lib.hid hl
  have HLF := Lib.hid hlF
  have HLP : Hid ((putL L).length ≤ maxTk) := Lib.hid (by rw [putL_length]; unfold maxIn at hl; unfold maxTk; omega)
  obtain ⟨m, hm⟩ : ∃ m, L.length = m := ⟨_, rfl⟩
  obtain ⟨f, hf⟩ : ∃ f, F.length = f := ⟨_, rfl⟩
  have HMF := Lib.hid hf
  rw [hm] at HB ⊢
  rw [hf] at HF ⊢
  clear hB hF hE hl hlF hm
  by_cases h4 : F.length < 4
  · obtain ⟨t1, t2⟩ := take_short h4
    have T1 := Lib.hid t1
    have T2 := Lib.hid t2
    rw [hf] at h4
    have h4i : (f : Int) < 4 := by omega
    clear t1 t2 hf
    go_enter Tryd.func6, Tryd.ntmps6
    go_wp2_with fail
    refine (put_any _ L _ HE.out HB.out HL.out).mono ?_
    rintro e w1 ⟨v1, rfl, ho1, b1⟩
    have HO1 := Lib.hid ho1
    have HB1 := Lib.hid b1
    clear ho1 b1
    go_wp2_with fail
    refine (take_any _ (putL L) _ (HE.out.below HB1.out) HO1.out.bs HLP.out).mono ?_
    intro e w2 h
    obtain ⟨p2, n2, c2, rfl, ho2, b2⟩ := h.is (takeE_put L)
    rw [takeB_put] at ho2
    have HB2 := Lib.hid (then_ HB1.out b2)
    have q1 := conv_bs ho2.bs 9 Tryd.underlying9
    have q2 := conv_bs (HB.out.below HB2.out) 9 Tryd.underlying9
    generalize (⟨L.toArray⟩ : ByteArray) = sL at q1 q2
    clear h ho2 b2
    go_wp2_with fail
    refine (take_any _ F _ (HE.out.below HB2.out) (HF.out.below HB2.out) (Nat.le_trans HLF.out (by decide))).mono ?_
    intro e w3 h
    obtain ⟨p3, n3, c3, rfl, ho3, b3⟩ := h.is T1.out
    rw [T2.out] at ho3
    have z := own_zero ho3
    subst z
    have HB3 := Lib.hid (then_ HB2.out b3)
    clear h ho3 b3 q1 q2
    go_wp2_with fail
    refine (wakes_any _ (HE.out.below HB3.out)).mono ?_
    rintro e w6 ⟨rfl, b6⟩
    have HB6 := Lib.hid (then_ HB3.out b6)
    clear b6
    go_wp2_with fail
    go_ret
    exact ⟨rfl, HB6.out⟩
  · cases hfr : frameL F with
    | false =>
      obtain ⟨t1, t2⟩ := take_none h4 hfr
      have T1 := Lib.hid t1
      have T2 := Lib.hid t2
      rw [hf] at h4
      have h4i : ¬ ((f : Int) < 4) := by omega
      clear t1 t2 hf hfr
      go_enter Tryd.func6, Tryd.ntmps6
      go_wp2_with fail
      refine (put_any _ L _ HE.out HB.out HL.out).mono ?_
      rintro e w1 ⟨v1, rfl, ho1, b1⟩
      have HO1 := Lib.hid ho1
      have HB1 := Lib.hid b1
      clear ho1 b1
      go_wp2_with fail
      refine (take_any _ (putL L) _ (HE.out.below HB1.out) HO1.out.bs HLP.out).mono ?_
      intro e w2 h
      obtain ⟨p2, n2, c2, rfl, ho2, b2⟩ := h.is (takeE_put L)
      rw [takeB_put] at ho2
      have HB2 := Lib.hid (then_ HB1.out b2)
      have q1 := conv_bs ho2.bs 9 Tryd.underlying9
      have q2 := conv_bs (HB.out.below HB2.out) 9 Tryd.underlying9
      generalize (⟨L.toArray⟩ : ByteArray) = sL at q1 q2
      clear h ho2 b2
      go_wp2_with fail
      refine (take_any _ F _ (HE.out.below HB2.out) (HF.out.below HB2.out) (Nat.le_trans HLF.out (by decide))).mono ?_
      intro e w3 h
      obtain ⟨p3, n3, c3, rfl, ho3, b3⟩ := h.is T1.out
      rw [T2.out] at ho3
      have z := own_zero ho3
      subst z
      have HB3 := Lib.hid (then_ HB2.out b3)
      clear h ho3 b3 q1 q2
      go_wp2_with fail
      refine (wakes_any _ (HE.out.below HB3.out)).mono ?_
      rintro e w6 ⟨rfl, b6⟩
      have HB6 := Lib.hid (then_ HB3.out b6)
      clear b6
      go_wp2_with fail
      go_ret
      exact ⟨by simp; omega, HB6.out⟩
    | true =>
      obtain ⟨t1, t2, t3⟩ := take_some h4 hfr
      have T1 := Lib.hid t1
      have T2 := Lib.hid t2
      have T3 : Hid ((takeB F).length ≤ maxIn) := Lib.hid (by have := HLF.out; omega)
      rw [hf] at h4
      have h4i : ¬ ((f : Int) < 4) := by omega
      clear t1 t2 t3 hf hfr
      go_enter Tryd.func6, Tryd.ntmps6
      go_wp2_with fail
      refine (put_any _ L _ HE.out HB.out HL.out).mono ?_
      rintro e w1 ⟨v1, rfl, ho1, b1⟩
      have HO1 := Lib.hid ho1
      have HB1 := Lib.hid b1
      clear ho1 b1
      go_wp2_with fail
      refine (take_any _ (putL L) _ (HE.out.below HB1.out) HO1.out.bs HLP.out).mono ?_
      intro e w2 h
      obtain ⟨p2, n2, c2, rfl, ho2, b2⟩ := h.is (takeE_put L)
      rw [takeB_put] at ho2
      have HB2 := Lib.hid (then_ HB1.out b2)
      have q1 := conv_bs ho2.bs 9 Tryd.underlying9
      have q2 := conv_bs (HB.out.below HB2.out) 9 Tryd.underlying9
      generalize (⟨L.toArray⟩ : ByteArray) = sL at q1 q2
      clear h ho2 b2
      go_wp2_with fail
      refine (take_any _ F _ (HE.out.below HB2.out) (HF.out.below HB2.out) (Nat.le_trans HLF.out (by decide))).mono ?_
      intro e w3 h
      obtain ⟨p3, n3, c3, rfl, ho3, b3⟩ := h.is T1.out
      have HO3 := Lib.hid ho3
      have HB3 := Lib.hid (then_ HB2.out b3)
      have HPT := Lib.hid (fun (w : World) (h : Below w3.heap.size w3 w) => put_any _ _ w (HE.out.below (then_ HB3.out h)) (HO3.out.bs.below h) T3.out)
      have HCF := Lib.hid (fun (w : World) (h : Below w3.heap.size w3 w) => conv_bs (HF.out.below (then_ HB3.out h)) 9 Tryd.underlying9)
      have HWK := Lib.hid (fun (w : World) (h : Below w3.heap.size w3 w) => wakes_any w (HE.out.below (then_ HB3.out h)))
      rw [T2.out] at HPT
      obtain ⟨sF, hsF⟩ : ∃ sF, (⟨F.toArray⟩ : ByteArray) = sF := ⟨_, rfl⟩
      rw [hsF] at HCF
      have HSF := Lib.hid hsF
      have hD := HCF.out _ (Below.refl _ w3).drew
      clear h ho3 b3 q1 q2 hsF
      go_wp2_with fail
      go_region_law (first | (go_simp; go_at_call 15; refine (HPT.out _ (Below.refl _ _).drew).mono ?_; rintro e w4 ⟨vr, rfl, ho4, b4⟩; have hB4 : Below w3.heap.size w3 w4 := ((Below.refl _ w3).drew).trans (b4.mono (by simp)); have HB4 := Lib.hid hB4; have c1 := HCF.out _ hB4; have c2 := conv_bs ho4.bs 9 Tryd.underlying9; rw [HSF.out] at c2; obtain ⟨pr, cr, rfl⟩ := ho4.form; clear ho4 b4 hB4; try go_wp2_with fail) | (go_simp; go_at_call 14; refine (HWK.out _ HB4.out).mono ?_; rintro e w5 ⟨rfl, b5⟩; have HB5 := Lib.hid (then_ HB4.out b5); clear b5; try go_wp2_with fail))
      all_goals
        clear c1 c2 hD
        go_wp2_with fail
        go_ret
        exact ⟨rfl, then_ HB3.out HB5.out⟩
end Go.Proofs.YthoccemfdndkhaaDoor.Crc
