/- The walk of FramePuts. -/
import Derived.Test.YtnhdnmlclnndoaaDoorFmk
import Derived.Test.YtnhdnmlclnndoaaDoorFmi
import Derived.Test.YtnhdnmlclnndoaaDoorYua
set_option linter.unusedSimpArgs false
set_option linter.unusedVariables false
namespace Go.Proofs.YtnhdnmlclnndoaaDoor.Crc
open Go Go.RowKit Gm
attribute [local go_sem ↓] Go.wp_at_zero Go.wp_at_succ

theorem ow11 {w : World} {base : Nat} {p : Option Addr} {n c : Nat} {L : List UInt8} (h : w.ownsRow base 5 1 (.slice p n c) n ([] ++ cellsB L)) (hn : L.length = n) : OwnB w base (.slice p n c) L := by
  subst hn; unfold OwnB; simpa using h
theorem putB_le (L : List UInt8) : (putB L).length ≤ 2056 := by
  unfold putB
  cases h : mayR L with
  | true => have := (mayR_iff L).1 h; rw [if_pos rfl, frm_length]; omega
  | false => simp
set_option maxHeartbeats 8000000 in
set_option maxRecDepth 100000 in
theorem law_fputs (v : Value) (L : List UInt8) (W : World) (hE : Env W) (hB : Bs W v L) (hl : L.length ≤ maxIn) : Calls Tryd.prog 3 #[v] W (Gives (.bool true) W) := by
  obtain ⟨i0, ii, iz0, iz1, iz2⟩ := info_parts infoB
  obtain ⟨p, cap, rfl⟩ := hB.form
  have HB := Lib.hid hB
  have HE := Lib.hid hE
  have HL := Lib.hid hl
  obtain ⟨m, hm⟩ : ∃ m, L.length = m := ⟨_, rfl⟩
  have HM := Lib.hid hm
  have hm7 : m ≤ 140737488351232 := by rw [← hm]; exact hl
  rw [hm] at HB ⊢
  have HN := Lib.hid (World.ownsRow_nil W W.heap.size 5 1)
  have HR := Lib.hid (Below.refl W.heap.size W)
  have HS := Lib.hid (fun (w : World) (h : Below W.heap.size W w) => by have := (HB.out.below h).src; rw [HM.out] at this; exact this)
  clear hB hE hl hm
  go_enter Tryd.func3, Tryd.ntmps3
  go_wp2_with (at_builtin; refine wpList_append_src rfl _ _ 22 (by rfl) W.heap.size 5 i0 (.int .u8 0) 1 1 Tryd.underlying22 ii iz0 iz1 iz2 rfl (by decide) _ _ _ (by rfl) HN.out _ m (cellsB (L)) (by rfl) (HS.out _ HR.out) (m) (by simp) (by unfold maxLen; omega) (by omega) (Nat.le_refl _) ?_; intro pA1 capA1 w1 hown1 hgrow1; have HO1 := Lib.hid (ow11 hown1 HM.out); have HB1 := Lib.hid (HR.out.grown hgrow1 (Nat.le_refl _) (fun j hj => (World.ownsRow.lt HN.out j hj).1)); clear hown1 hgrow1)
  refine (fput_any _ L _ (HE.out.below HB1.out) HO1.out.bs).mono ?_
  rintro e w2 ⟨vp, rfl, ho2, b2⟩
  obtain ⟨pP, cP, rfl⟩ := ho2.form
  have HP2 := Lib.hid ho2
  have HB2 := Lib.hid (then_ HB1.out b2)
  have HO2 := Lib.hid (HO1.out.below b2)
  have HBz := Lib.hid b2
  clear ho2 b2
  go_wp2_with fail
  refine (rfput_any _ L _ (HB.out.below HB2.out)).mono ?_
  rintro e w3 ⟨vq, rfl, ho3, b3⟩
  obtain ⟨pQ, cQ, rfl⟩ := ho3.form
  have HP3 := Lib.hid (HP2.out.below b3)
  have HB3 := Lib.hid (then_ HB2.out b3)
  have HO3 := Lib.hid (HO2.out.below b3)
  have c1 := conv_bs HP3.out.bs 9 Tryd.underlying9
  have c2 := conv_bs ho3.bs 9 Tryd.underlying9
  have hnP := putB_le L
  generalize (⟨(putB L).toArray⟩ : ByteArray) = sP at c1 c2
  have HW := Lib.hid (WrS.of HP3.out)
  obtain ⟨nP, hnn⟩ : ∃ n, (putB L).length = n := ⟨_, rfl⟩
  rw [hnn] at c1 c2 hnP HW ⊢
  generalize putE L = er
  have HZ : Hid (Below w1.heap.size w1 w3) := Lib.hid (then_ HBz.out b3)
  clear ho3 b3 HP2 HP3 hnn HBz
  have hs1 := size_any _ L (by rw [HM.out]; unfold maxTk; omega) w3 HO3.out.bs
  have hs2 := rsize_any _ L (by rw [HM.out]; unfold maxTk; omega) w3 (HB.out.below HB3.out)
  generalize sizeR L = sz at hs1 hs2
  have HS1 := Lib.hid hs1
  have HS2 := Lib.hid hs2
  clear hs1 hs2
  go_wp2_with fail
  refine HS1.out.mono ?_; rintro e w4 ⟨rfl, rfl⟩
  go_wp2_with fail
  refine HS2.out.mono ?_; rintro e w5 ⟨rfl, rfl⟩
  clear HS1 HS2 c1 c2 HB2 HO2 HO3 HB3 HN HR
  go_wp2_with fail
  go_loopw [9] (fun i wr => ∃ (k : Nat), k ≤ nP ∧ i = .int .i64 k ∧ Hid (WrS wr w1.heap.size pP nP) ∧ Hid (Below w1.heap.size w1 wr)) (fun i _ => nP - (intOf i).toNat)
  case atStart => exact ⟨0, by omega, rfl, HW, HZ⟩
  case round =>
    obtain ⟨k, hk, rfl, HP, HBr⟩ := hrel
    clear HW HZ
    by_cases hkn : k < nP
    · rcases HP.out with h | ⟨g, rfl, hbg, -, hw⟩
      · omega
      · obtain ⟨c, hc, hfr⟩ := hw k hkn
        obtain ⟨d, hd⟩ := flip_byte c
        have hidx := idx_b (some ⟨g, 0, none⟩) g 0 nP cP k rfl hkn
        rw [Nat.zero_add] at hidx
        have HPn := Lib.hid (HP.out.set g k d)
        have HBn := Lib.hid (set_below (i := k) HBr.out hbg (byteV d))
        clear hw hbg
        go_wp2_with fail
        go_roundw
        case rel => exact ⟨k + 1, by omega, by go_num, HPn, HBn⟩
        case measure => simp [intOf]; omega
    · have hke : k = nP := by omega
      subst hke
      have hB9 := then_ HB1.out HBr.out
      have c1 := conv_bs (HO1.out.below HBr.out).bs 9 Tryd.underlying9
      have c2 := conv_bs (HB.out.below hB9) 9 Tryd.underlying9
      generalize (⟨L.toArray⟩ : ByteArray) = sL at c1 c2
      have HB9 := Lib.hid hB9
      have HWK := Lib.hid (wakes_any _ (HE.out.below hB9))
      clear hB9
      go_wp2_with fail
      refine HWK.out.mono ?_
      rintro e w7 ⟨rfl, b7⟩
      have HB7 := Lib.hid (then_ HB9.out b7)
      clear b7
      go_wp2_with fail
      go_ret
      exact ⟨rfl, HB7.out⟩
end Go.Proofs.YtnhdnmlclnndoaaDoor.Crc
