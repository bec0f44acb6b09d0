/- The walk of CrcSums. -/
import Derived.Test.YthoccemfdndkhaaDoorYj
set_option linter.unusedSimpArgs false
set_option linter.unusedVariables false
namespace Go.Proofs.YthoccemfdndkhaaDoor.Crc
open Go Go.RowKit Gm
attribute [local go_sem ↓] Go.wp_at_zero Go.wp_at_succ

theorem ow_of {w : World} {base : Nat} {p : Option Addr} {n c : Nat} {L : List UInt8} (h : w.ownsRow base 5 1 (.slice p n c) n ([] ++ cellsB L)) (hn : L.length = n) : OwnB w base (.slice p n c) L := by
  subst hn
  rw [List.nil_append] at h
  exact h
theorem maxIn_B {n : Nat} (h : n ≤ maxIn) : n ≤ maxB := Nat.le_trans h (by decide)
set_option maxHeartbeats 4000000 in
set_option maxRecDepth 100000 in
theorem law_csums (v : Value) (L : List UInt8) (sum : BitVec 32) (W : World) (hE : Env W) (hB : Bs W v L) (hl : L.length ≤ maxIn) : Calls Tryd.prog 3 #[v, u32V sum] W (Gives (.bool true) W) := by
  obtain ⟨i0, ii, iz0, iz1, iz2⟩ := info_parts infoB
  obtain ⟨p, cap, rfl⟩ := hB.form
  have HS := Lib.hid hB.src
  have HB := Lib.hid hB
  have HE := Lib.hid hE
  have HL := Lib.hid hl
  obtain ⟨m, hm⟩ : ∃ m, L.length = m := ⟨_, rfl⟩
  have HM := Lib.hid hm
  have hm7 : m ≤ 140737488351232 := by rw [← hm]; exact hl
  rw [hm] at HS HB ⊢
  have HN := Lib.hid (World.ownsRow_nil W W.heap.size 5 1)
  clear hB hE hl hm
  go_enter Tryd.func3, Tryd.ntmps3
  go_wp2_with (at_builtin; refine wpList_append_src rfl _ _ 22 (by rfl) W.heap.size 5 i0 (.int .u8 0) 1 1 Tryd.underlying22 ii iz0 iz1 iz2 rfl (by decide) _ _ _ (by rfl) HN.out _ m (cellsB L) (by rfl) HS.out m (by simp) (by unfold maxLen; omega) (by omega) (Nat.le_refl _) ?_; intro pA capA w1 hown3 hgrow3; have HO1 := Lib.hid (ow_of hown3 HM.out); have HB1 := Lib.hid ((Below.refl W.heap.size W).grown hgrow3 (Nat.le_refl _) (fun j hj => (World.ownsRow.lt HN.out j hj).1)); clear hown3 hgrow3)
  refine (sum_any _ L _ (HE.out.below HB1.out) HO1.out.bs (maxIn_B HL.out)).mono ?_
  rintro e w2 ⟨rfl, b2⟩
  have HB2 := Lib.hid (then_ HB1.out b2)
  have HO2 := Lib.hid (HO1.out.below b2)
  clear b2
  go_wp2_with fail
  refine (rsum_any _ L _ (HB.out.below HB2.out) (maxIn_B HL.out)).mono ?_
  rintro e w3 ⟨rfl, rfl⟩
  go_wp2_with fail
  refine (extend_any sum _ L _ (HE.out.below HB2.out) HO2.out.bs (maxIn_B HL.out)).mono ?_
  rintro e w4 ⟨rfl, b4⟩
  have HB4 := Lib.hid (then_ HB2.out b4)
  have HO4 := Lib.hid (HO2.out.below b4)
  clear b4
  go_wp2_with fail
  refine (rextend_any sum _ L _ (HB.out.below HB4.out) (maxIn_B HL.out)).mono ?_
  rintro e w5 ⟨rfl, rfl⟩
  have c1 := conv_bs HO4.out.bs 9 Tryd.underlying9
  have c2 := conv_bs (HB.out.below HB4.out) 9 Tryd.underlying9
  generalize (⟨L.toArray⟩ : ByteArray) = sL at c1 c2
  go_wp2_with fail
  refine (wakes_any _ (HE.out.below HB4.out)).mono ?_
  rintro e w6 ⟨rfl, b6⟩
  have HB6 := Lib.hid (then_ HB4.out b6)
  clear b6
  go_wp2_with fail
  go_ret
  exact ⟨rfl, HB6.out⟩
end Go.Proofs.YthoccemfdndkhaaDoor.Crc
