/- The walk of CrcFrames. -/
import Derived.Test.YthoccemfdndkhaaDoorYr
set_option linter.unusedSimpArgs false
set_option linter.unusedVariables false
namespace Go.Proofs.YthoccemfdndkhaaDoor.Crc
open Go Go.RowKit Gm
attribute [local go_sem ↓] Go.wp_at_zero Go.wp_at_succ

theorem flip_byte (c : UInt8) : ∃ d : UInt8, bits .xor .u8 (c.toNat : Int) 1 = (d.toNat : Int) := by
  refine ⟨c ^^^ 1, ?_⟩
  have := u8_xor_nat c.toNat 1 c.toNat_lt (by decide)
  rw [show ((1 : Nat) : Int) = 1 from rfl] at this
  rw [this, UInt8.toNat_xor]; rfl
/-- A slice that may be written through, whatever its bytes are; its block lies from base on. -/
def WrS (w : World) (base : Nat) (p : Option Addr) (n : Nat) : Prop := n = 0 ∨ ∃ g, p = some ⟨g, 0, none⟩ ∧ base ≤ g ∧ g < w.heap.size ∧ Wr8 w g n
theorem WrS.of {w : World} {base : Nat} {p : Option Addr} {n c : Nat} {L : List UInt8} (h : OwnB w base (.slice p n c) L) : WrS w base p n := by
  obtain ⟨p1, c1, e⟩ := h.form
  simp only [Value.slice.injEq] at e
  obtain ⟨-, e2, -⟩ := e
  by_cases hl : L = []
  · left; rw [e2, hl]; rfl
  · obtain ⟨g, cap, hv, hb, hlt, hw⟩ := h.row hl
    simp only [Value.slice.injEq] at hv
    obtain ⟨rfl, rfl, -⟩ := hv
    exact .inr ⟨g, rfl, hb, hlt, hw⟩
theorem WrS.set {w : World} {base : Nat} {p : Option Addr} {n : Nat} (h : WrS w base p n) (b j : Nat) (c : UInt8) : WrS (w.setCell ⟨b, j, none⟩ (byteV c)) base p n := by
  rcases h with h | ⟨g, h1, h2, h3, h4⟩
  · exact .inl h
  · exact .inr ⟨g, h1, h2, by simpa using h3, h4.set b j c⟩
theorem WrS.below {w w' : World} {base : Nat} {p : Option Addr} {n : Nat} (h : WrS w base p n) (hb : Below w.heap.size w w') : WrS w' base p n := by
  rcases h with h | ⟨g, h1, h2, h3, h4⟩
  · exact .inl h
  · exact .inr ⟨g, h1, h2, Nat.lt_of_lt_of_le h3 hb.size, h4.below h3 hb⟩
theorem set_below {w0 w : World} {B g i : Nat} (h : Below B w0 w) (hg : B ≤ g) (u : Value) : Below B w0 (w.setCell ⟨g, i, none⟩ u) := by
  refine ⟨h.os, h.tape, h.output, by have := h.size; simpa using this, fun k hk => ?_⟩
  rw [Below.heap_setCell _ _ _ _ (by rintro rfl; exact absurd hk (Nat.not_lt.2 hg))]
  exact h.block k hk
set_option maxHeartbeats 8000000 in
set_option maxRecDepth 100000 in
theorem law_cframes (v v1 : Value) (L F : List UInt8) (W : World) (hE : Env W) (hB : Bs W v L) (hl : L.length ≤ maxIn) (hF : Bs W v1 F) (hlF : F.length ≤ maxIn) : Calls Tryd.prog 4 #[v, v1] W (Gives (.bool true) W) := by
  obtain ⟨i0, ii, iz0, iz1, iz2⟩ := info_parts infoB
  obtain ⟨p, cap, rfl⟩ := hB.form
  obtain ⟨pf, cf, rfl⟩ := hF.form
  have HB := Lib.hid hB
  have HF := Lib.hid hF
  have HE := Lib.hid hE
  have HL := Lib.hid hl
  have HLF := Lib.hid hlF
  obtain ⟨m, hm⟩ : ∃ m, L.length = m := ⟨_, rfl⟩
  obtain ⟨f, hf⟩ : ∃ f, F.length = f := ⟨_, rfl⟩
  have HM := Lib.hid hm
  have HMF := Lib.hid hf
  have hm7 : m ≤ 140737488351232 := by rw [← hm]; exact hl
  have hf7 : f ≤ 140737488351232 := by rw [← hf]; exact hlF
  rw [hm] at HB ⊢
  rw [hf] at HF ⊢
  have HN := Lib.hid (fun (w : World) => World.ownsRow_nil w W.heap.size 5 1)
  have HS := Lib.hid (fun (w : World) (h : Below W.heap.size W w) => by have := (HB.out.below h).src; rw [HM.out] at this; exact this)
  have HSF := Lib.hid (fun (w : World) (h : Below W.heap.size W w) => by have := (HF.out.below h).src; rw [HMF.out] at this; exact this)
  clear hB hF hE hl hlF hm hf
  go_enter Tryd.func4, Tryd.ntmps4
  go_wp2_with (first
    | (at_builtin; refine wpList_append_src rfl _ _ 22 (by rfl) W.heap.size 5 i0 (.int .u8 0) 1 1 Tryd.underlying22 ii iz0 iz1 iz2 rfl (by decide) _ _ _ (by rfl) (HN.out W) _ m (cellsB L) (by rfl) (HS.out _ (Below.refl _ _)) m (by simp) (by unfold maxLen; omega) (by omega) (Nat.le_refl _) ?_; intro pA capA w1 hown3 hgrow3; have HO1 := Lib.hid (ow_of hown3 HM.out); have HB1 := Lib.hid ((Below.refl W.heap.size W).grown hgrow3 (Nat.le_refl _) (fun j hj => (World.ownsRow.lt (HN.out W) j hj).1)); clear hown3 hgrow3)
    | (at_builtin; refine wpList_append_src rfl _ _ 22 (by rfl) W.heap.size 5 i0 (.int .u8 0) 1 1 Tryd.underlying22 ii iz0 iz1 iz2 rfl (by decide) _ _ _ (by rfl) (HN.out w1) _ f (cellsB F) (by rfl) (HSF.out _ HB1.out) f (by simp) (by unfold maxLen; omega) (by omega) HB1.out.size ?_; intro pC capC w2 hown3 hgrow3; have HO2 := Lib.hid (ow_of hown3 HMF.out); have hB2 : Below w1.heap.size w1 w2 := (Below.refl w1.heap.size w1).grown hgrow3 (Nat.le_refl _) (fun j hj => by simp [Value.ownBlock] at hj); have HB2 := Lib.hid (then_ HB1.out hB2); have HO12 := Lib.hid (HO1.out.below hB2); clear hown3 hgrow3 hB2))
  have HEA := Lib.hid (HE.out.below HB2.out)
  refine (put_any _ L _ HEA.out HO12.out.bs HL.out).mono ?_
  rintro e w3 ⟨vp, rfl, ho3, b3⟩
  obtain ⟨pP, cP, rfl⟩ := ho3.form
  have HP3 := Lib.hid ho3
  have HB3 := Lib.hid b3
  clear ho3 b3
  go_wp2_with fail
  refine (take_any _ F _ (HEA.out.below HB3.out) (HO2.out.below HB3.out).bs (Nat.le_trans HLF.out (by decide))).mono ?_
  intro e w4 h
  obtain ⟨pX, nX, cX, rfl, ho4, b4⟩ := h.is rfl
  have HX4 := Lib.hid ho4
  have HB4 := Lib.hid (then_ HB3.out b4)
  have HP4 := Lib.hid (HP3.out.below b4)
  clear h ho4 b4 HP3
  go_wp2_with fail
  refine (rtake_any _ F _ (HF.out.below (then_ HB2.out HB4.out)) HLF.out).mono ?_
  intro e w5 h
  obtain ⟨pY, nY, cY, rfl, ho5, b5⟩ := h.is rfl
  have HY5 := Lib.hid ho5
  have HB5 := Lib.hid (then_ HB4.out b5)
  have HP5 := Lib.hid (HP4.out.below b5)
  have HX5 := Lib.hid (HX4.out.below b5)
  clear h ho5 b5 HP4 HX4
  generalize takeE F = er
  have HPT := Lib.hid (fun (w : World) (h : Below w5.heap.size w5 w) => rput_any _ L w (HB.out.below (then_ (then_ HB2.out HB5.out) h)) HL.out)
  have HC1 := Lib.hid (fun (w : World) (h : Below w5.heap.size w5 w) => conv_bs (HP5.out.bs.below h) 9 Tryd.underlying9)
  have HC2 := Lib.hid (fun (w : World) (h : Below w5.heap.size w5 w) => conv_bs (HX5.out.bs.below h) 9 Tryd.underlying9)
  have HC3 := Lib.hid (fun (w : World) (h : Below w5.heap.size w5 w) => conv_bs (HY5.out.bs.below h) 9 Tryd.underlying9)
  obtain ⟨sP, hsP⟩ : ∃ s, (⟨(putL L).toArray⟩ : ByteArray) = s := ⟨_, rfl⟩
  obtain ⟨sX, hsX⟩ : ∃ s, (⟨(takeB F).toArray⟩ : ByteArray) = s := ⟨_, rfl⟩
  rw [hsP] at HC1
  rw [hsX] at HC2 HC3
  have HSP := Lib.hid hsP
  clear hsP hsX
  obtain ⟨nP, hnP⟩ : ∃ n, (putL L).length = n := ⟨_, rfl⟩
  have hnP7 : nP ≤ 140737488355328 := by rw [← hnP, putL_length, HM.out]; omega
  have hnX7 : nX ≤ 140737488355328 := by
    obtain ⟨p9, c9, e9⟩ := HX5.out.form
    simp only [Value.slice.injEq] at e9
    rw [e9.2.1]
    have h9 : (takeB F).length ≤ F.length := by unfold takeB; split <;> simp
    have := HMF.out
    omega
  rw [hnP] at HP5 HC1 ⊢
  clear hnP
  have d1 := HC1.out _ (Below.refl _ w5).drew
  have d2 := HC2.out _ (Below.refl _ w5).drew
  have d3 := HC3.out _ (Below.refl _ w5).drew
  go_wp2_with fail
  go_region_law (first | (go_simp; go_at_call 18; refine (HPT.out _ (Below.refl _ _).drew).mono ?_; rintro e w6 ⟨vr, rfl, ho6, b6⟩; have hB6 : Below w5.heap.size w5 w6 := ((Below.refl _ w5).drew).trans (b6.mono (by simp)); have HB6 := Lib.hid hB6; have c1 := HC1.out _ hB6; have c2 := HC2.out _ hB6; have c3 := HC3.out _ hB6; have c4 := conv_bs ho6.bs 9 Tryd.underlying9; rw [HSP.out] at c4; obtain ⟨pr, cr, rfl⟩ := ho6.form; clear ho6 b6 hB6; try go_wp2_with fail))
  all_goals
    have HBc := HB6
    have HW1 : Hid (WrS w6 w2.heap.size pP nP) := Lib.hid ((WrS.of HP5.out).below HBc.out)
    have HW2 : Hid (WrS w6 w2.heap.size pX nX) := Lib.hid ((WrS.of (HX5.out.base (Below.size HB3.out))).below HBc.out)
    have HB0 : Hid (Below w2.heap.size w2 w6) := Lib.hid (then_ HB5.out HBc.out)
    have HK1 : Hid (nP ≤ 140737488355328) := Lib.hid hnP7
    have hnP : nP ≤ 140737488355328 := hnP7
    have hnX : nX ≤ 140737488355328 := hnX7
    clear HP5 HX5 HY5 HC1 HC2 HC3 HPT HSP HB3 HB4 HB5 HBc hnP7 hnX7 HB6 c1 c2 c3 c4 d1 d2 d3
    go_wp2_with fail
    go_loopw [13] (fun i wr => ∃ (k : Nat), k ≤ nP ∧ i = .int .i64 k ∧ Hid (WrS wr w2.heap.size pP nP) ∧ Hid (WrS wr w2.heap.size pX nX) ∧ Hid (Below w2.heap.size w2 wr)) (fun i _ => nP - (intOf i).toNat)
    case atStart => exact ⟨0, by omega, rfl, HW1, HW2, HB0⟩
    case round =>
      obtain ⟨k, hk, rfl, HP, HX, HBr⟩ := hrel
      clear HW1 HW2 HB0
      by_cases hkn : k < nP
      · rcases HP.out with h | ⟨g, rfl, hbg, -, hw⟩
        · omega
        · obtain ⟨c, hc, hfr⟩ := hw k hkn
          obtain ⟨d, hd⟩ := flip_byte c
          have hidx := idx_b (some ⟨g, 0, none⟩) g 0 nP cP k rfl hkn
          rw [Nat.zero_add] at hidx
          have HPn := Lib.hid (HP.out.set g k d)
          have HXn := Lib.hid (HX.out.set g k d)
          have HBn := Lib.hid (set_below (i := k) HBr.out hbg (byteV d))
          clear hw hbg
          go_wp2_with fail
          go_roundw
          case rel => exact ⟨k + 1, by omega, by go_num, HPn, HXn, HBn⟩
          case measure => simp [intOf]; omega
      · have hke : k = nP := by omega
        subst hke
        go_wp2_with fail
        go_loopw [14] (fun i wr => ∃ (k : Nat), k ≤ nX ∧ i = .int .i64 k ∧ Hid (WrS wr w2.heap.size pX nX) ∧ Hid (Below w2.heap.size w2 wr)) (fun i _ => nX - (intOf i).toNat)
        case atStart => exact ⟨0, by omega, rfl, HX, HBr⟩
        case round =>
          obtain ⟨j, hj, rfl, HX2, HBr2⟩ := hrel
          clear HX HBr HP
          by_cases hjn : j < nX
          · rcases HX2.out with h | ⟨g, rfl, hbg, -, hw⟩
            · omega
            · obtain ⟨c, hc, hfr⟩ := hw j hjn
              obtain ⟨d, hd⟩ := flip_byte c
              have hidx := idx_b (some ⟨g, 0, none⟩) g 0 nX cX j rfl hjn
              rw [Nat.zero_add] at hidx
              have HXn := Lib.hid (HX2.out.set g j d)
              have HBn := Lib.hid (set_below (i := j) HBr2.out hbg (byteV d))
              clear hw hbg
              go_wp2_with fail
              go_roundw
              case rel => exact ⟨j + 1, by omega, by go_num, HXn, HBn⟩
              case measure => simp [intOf]; omega
          · have hje : j = nX := by omega
            subst hje
            have hB9 := then_ HB2.out HBr2.out
            have c1 := conv_bs (HO12.out.below HBr2.out).bs 9 Tryd.underlying9
            have c2 := conv_bs (HB.out.below hB9) 9 Tryd.underlying9
            have c3 := conv_bs (HO2.out.below HBr2.out).bs 9 Tryd.underlying9
            have c4 := conv_bs (HF.out.below hB9) 9 Tryd.underlying9
            generalize (⟨L.toArray⟩ : ByteArray) = sL at c1 c2
            generalize (⟨F.toArray⟩ : ByteArray) = sF at c3 c4
            have HB9 := Lib.hid hB9
            have HWK := Lib.hid (wakes_any _ (HE.out.below hB9))
            clear hB9
            go_wp2_with fail
            refine HWK.out.mono ?_
            rintro e w7 ⟨rfl, b7⟩
            have HB7 := Lib.hid (then_ HB9.out b7)
            clear b7
            go_wp2_with fail
            go_ret
            exact ⟨rfl, HB7.out⟩
end Go.Proofs.YthoccemfdndkhaaDoor.Crc
