/- The document's Take. -/
import Derived.Test.YthoccemfdndkhaaDoorYh
import Derived.Test.YthoccemfdndkhaaDoorGc
set_option linter.unusedSimpArgs false
set_option linter.unusedVariables false
namespace Go.Proofs.YthoccemfdndkhaaDoor.Crc
open Go Go.RowKit Gm
attribute [local go_sem ↓] Go.wp_at_zero Go.wp_at_succ

theorem str_ne (A B : List UInt8) : ((⟨A.toArray⟩ : ByteArray).toList == (⟨B.toArray⟩ : ByteArray).toList) = decide (A = B) := by
  rw [ByteArray.toList_eq, ByteArray.toList_eq, Bool.eq_iff_iff]
  simp
theorem put_split (H : List UInt8) (a b c d : UInt8) : decide (putL H = H ++ [a, b, c, d]) = decide (le4 (sumL H) = [a, b, c, d]) := by
  unfold putL
  rw [decide_eq_decide]
  simp
set_option maxHeartbeats 2000000 in
set_option maxRecDepth 100000 in
theorem rtake_any (v : Value) (L : List UInt8) (w : World) (hB : Bs w v L) (hl : L.length ≤ maxIn) : Calls Tryd.prog 17 #[v] w (TakeR L w) := by
  by_cases h4 : L.length < 4
  · obtain ⟨e1, e2⟩ := take_short h4
    obtain ⟨p, cap, rfl⟩ := hB.form
    unfold TakeR
    rw [e1, e2]
    obtain ⟨m, hm⟩ : ∃ m, L.length = m := ⟨_, rfl⟩
    rw [hm] at h4 ⊢
    clear hB hm hl e1 e2
    have hn : (m : Int) < 4 := by omega
    go_enter Tryd.func17, Tryd.ntmps17
    go_wp2_with fail
    go_ret2
    exact ⟨_, rfl, OwnB.nil _ _, Below.refl _ _⟩
  · obtain ⟨i0, ii, iz0, iz1, iz2⟩ := info_parts infoB
    obtain ⟨H, a, b, c, d, rfl⟩ := split4 L (by omega)
    have hlen : (H ++ [a, b, c, d]).length = H.length + 4 := by rw [List.length_append]; rfl
    obtain ⟨p, cap, bb, o, rfl, hp, hbl, c0⟩ := bs_at hB (i := H.length) (by rw [hlen]; omega)
    have hcap : H.length + 4 ≤ cap := by
      rcases hB with ⟨h, _⟩ | ⟨a1, cap1, h1, h2, _⟩
      · simp only [Value.slice.injEq] at h; subst hp; cases h.1
      · simp only [Value.slice.injEq] at h1; rw [h1.2.2, ← hlen]; exact h2
    subst hp
    have hH : Bs w (.slice (some ⟨bb, o, none⟩) H.length cap) H := by
      have := Bs.take hB (K := H.length) (by rw [hlen]; omega)
      rwa [List.take_left' rfl] at this
    have hlH : H.length ≤ maxIn := by omega
    have HP := Lib.hid (fun (W : World) (h : Below w.heap.size w W) => rput_any _ H W (hH.below h) hlH)
    have HCV := Lib.hid (fun (W : World) (h : Below w.heap.size w W) => conv_bs (hB.below h) 9 Tryd.underlying9)
    have HS := Lib.hid (fun (W : World) (h : Below w.heap.size w W) => (hH.below h).src)
    unfold TakeR
    rw [takeE_split, takeB_split, hlen]
    have HQ := Lib.hid (str_ne (putL H) (H ++ [a, b, c, d]))
    rw [put_split] at HQ
    have r1 := slice_pre_b (some ⟨bb, o, none⟩) (H.length + 4) cap H.length (by omega) hcap (by intro h; cases h)
    rw [hlen] at HCV
    obtain ⟨h, hh⟩ : ∃ h, H.length = h := ⟨_, rfl⟩
    obtain ⟨m, hm⟩ : ∃ m, h + 4 = m := ⟨_, rfl⟩
    have hm63 : m ≤ 140737488351232 := by rw [← hm, ← hh, ← hlen]; exact hl
    rw [hh] at HS HP r1
    rw [hh, hm] at HCV
    rw [hh, hm]
    rw [hm] at r1
    have HH := Lib.hid hh
    have hm4 : (m : Int) - 4 = (h : Int) := by omega
    have hmn : ¬ ((m : Int) < 4) := by omega
    have hm0 : ¬ ((h : Int) < 0) := by omega
    have hlp : (putL H).length = h + 4 := by rw [putL_length, hh]
    have HLP := Lib.hid hlp
    obtain ⟨sA, hsA⟩ : ∃ sA : ByteArray, (⟨(putL H).toArray⟩ : ByteArray) = sA := ⟨_, rfl⟩
    obtain ⟨sB, hsB⟩ : ∃ sB : ByteArray, (⟨(H ++ [a, b, c, d]).toArray⟩ : ByteArray) = sB := ⟨_, rfl⟩
    rw [hsA, hsB] at HQ
    rw [hsB] at HCV
    have HSA := Lib.hid hsA
    have hD := HCV.out _ (Below.refl _ _).drew
    have HN := Lib.hid (fun (W : World) => World.ownsRow_nil W w.heap.size 5 1)
    clear hB hl h4 hlen hbl c0 hcap hH hlH hh hm hsA hsB hlp
    by_cases hd : le4 (sumL H) = [a, b, c, d]
    · rw [if_pos hd, if_pos hd]
      have hq : (sA.toList == sB.toList) = true := by rw [HQ.out]; simpa using hd
      clear hd HQ
      go_enter Tryd.func17, Tryd.ntmps17
      go_wp2_with fail
      go_region_law (first | (go_simp; go_at_call 18; refine (HP.out _ (Below.refl _ _).drew).mono ?_; rintro e w2 ⟨vr, rfl, ho, b2⟩; have hB2 : Below w.heap.size w w2 := ((Below.refl _ w).drew).trans (b2.mono (by simp)); have HB2 := Lib.hid hB2; have c1 := HCV.out _ hB2; have c2 := conv_bs ho.bs 9 Tryd.underlying9; rw [HSA.out] at c2; obtain ⟨pr, cr, rfl⟩ := ho.form; clear ho b2 hB2; try go_wp2_with fail))
      all_goals
        clear c1 c2 hq hD
        go_wp2_with (at_builtin; (refine wpList_append_src rfl _ _ 22 (by rfl) w.heap.size 5 i0 (.int .u8 0) 1 1 Tryd.underlying22 ii iz0 iz1 iz2 rfl (by decide) _ _ _ (by rfl) (HN.out w2) _ h (cellsB H) (by rfl) (HS.out _ HB2.out) h (by simp) (by unfold maxLen; omega) (by omega) HB2.out.size ?_; intro pA capA w3 hown3 hgrow3; have HO3 := Lib.hid hown3; have HB3 := Lib.hid (HB2.out.grown hgrow3 HB2.out.size (fun j hj => (World.ownsRow.lt (HN.out w2) j hj).1)); clear hown3 hgrow3))
        go_ret2
        exact ⟨_, rfl, ownB_app (L := []) (by simpa [cellsB] using HO3.out) (by rw [HH.out]; simp), HB3.out⟩
    · rw [if_neg hd, if_neg hd]
      have hq : (sA.toList == sB.toList) = false := by rw [HQ.out]; simpa using hd
      clear hd HQ
      go_enter Tryd.func17, Tryd.ntmps17
      go_wp2_with fail
      go_region_law (first | (go_simp; go_at_call 18; refine (HP.out _ (Below.refl _ _).drew).mono ?_; rintro e w2 ⟨vr, rfl, ho, b2⟩; have hB2 : Below w.heap.size w w2 := ((Below.refl _ w).drew).trans (b2.mono (by simp)); have HB2 := Lib.hid hB2; have c1 := HCV.out _ hB2; have c2 := conv_bs ho.bs 9 Tryd.underlying9; rw [HSA.out] at c2; obtain ⟨pr, cr, rfl⟩ := ho.form; clear ho b2 hB2; try go_wp2_with fail))
      all_goals
        clear c1 c2 hq hD
        go_wp2_with fail
        go_ret2
        exact ⟨_, rfl, OwnB.nil _ _, HB2.out⟩
end Go.Proofs.YthoccemfdndkhaaDoor.Crc
