/- The chapter's rows that each statement asks first: wakes. -/
import Derived.Test.YthoccemfdndkhaaDoorYi
import Derived.Test.YthoccemfdndkhaaDoorGd
set_option linter.unusedSimpArgs false
set_option linter.unusedVariables false
namespace Go.Proofs.YthoccemfdndkhaaDoor.Crc
open Go Go.RowKit Gm
attribute [local go_sem ↓] Go.wp_at_zero Go.wp_at_succ

def nine : List UInt8 := [49, 50, 51, 52, 53, 54, 55, 56, 57]
def fr1 : List UInt8 := [49, 50, 51, 52, 53, 54, 55, 56, 57, 131, 146, 6, 227]
def fr2 : List UInt8 := [97, 98, 99]
def fr3 : List UInt8 := [49, 50, 51, 52, 53, 54, 55, 56, 57, 131, 146, 6, 226]
theorem t1e : takeE fr1 = 0 := by decide +kernel
theorem t1b : takeB fr1 = nine := by decide +kernel
theorem t2e : takeE fr2 = 4 := by decide +kernel
theorem t3e : takeE fr3 = 5 := by decide +kernel
theorem s9 : ((sumL nine).toNat : Int) = 3808858755 := by decide +kernel
theorem s0 : ((sumL []).toNat : Int) = 0 := by decide +kernel
theorem short_le {L : List UInt8} (h : L.length ≤ 100) : L.length ≤ maxTk := Nat.le_trans h (by decide)
theorem TakeR.is {L : List UInt8} {w : World} {e : Ending} {w' : World} (h : TakeR L w e w') {r : Int} (hr : takeE L = r) : ∃ p n c, e = .returned (.tuple #[.slice p n c, .int .i64 r]) ∧ OwnB w' w.heap.size (.slice p n c) (takeB L) ∧ Below w.heap.size w w' := by
  obtain ⟨v, rfl, ho, hb⟩ := h
  obtain ⟨p, c, rfl⟩ := ho.form
  exact ⟨p, _, c, by rw [hr], ho, hb⟩
set_option maxHeartbeats 4000000 in
set_option maxRecDepth 100000 in
theorem wakes_any (w : World) (hE : Env w) : Calls Tryd.prog 14 #[] w (Gives (.bool true) w) := by
  have hcs := conv_const
  have hnine : (⟨nine.toArray⟩ : ByteArray) = ⟨#[49, 50, 51, 52, 53, 54, 55, 56, 57]⟩ := rfl
  have HNI := Lib.hid hnine
  clear hnine
  have HE := Lib.hid hE
  clear hE
  go_enter Tryd.func14, Tryd.ntmps14
  go_wp2_with fail
  have B1 := below_one w (.cells (cellsB fr1).toArray 5 (13, 14))
  refine (take_any _ fr1 _ (HE.out.below B1) (bs_const w fr1 _ 13 (13, 14) rfl rfl) (short_le (by decide))).mono ?_
  intro e w1 h
  obtain ⟨p1, n1, c1, rfl, ho1, b1⟩ := h.is t1e
  rw [t1b] at ho1
  have HO1 := Lib.hid ho1
  have HB1 := Lib.hid (then_ B1 b1)
  clear h ho1 b1 B1
  go_wp2_with fail
  have B2 := below_one w1 (.cells (cellsB fr2).toArray 5 (3, 4))
  refine (take_any _ fr2 _ ((HE.out.below HB1.out).below B2) (bs_const w1 fr2 _ 3 (3, 4) rfl rfl) (short_le (by decide))).mono ?_
  intro e w2 h
  obtain ⟨p2, n2, c2, rfl, -, b2⟩ := h.is t2e
  have HB2 := Lib.hid (then_ B2 b2)
  clear h b2 B2
  go_wp2_with fail
  have B3 := below_one w2 (.cells (cellsB fr3).toArray 5 (13, 14))
  refine (take_any _ fr3 _ (((HE.out.below HB1.out).below HB2.out).below B3) (bs_const w2 fr3 _ 13 (13, 14) rfl rfl) (short_le (by decide))).mono ?_
  intro e w3 h
  obtain ⟨p3, n3, c3, rfl, -, b3⟩ := h.is t3e
  have HB3 := Lib.hid (then_ (then_ HB1.out (then_ HB2.out B3)) b3)
  have HO3 := Lib.hid (((HO1.out.below HB2.out).below B3).below b3)
  clear h b3 B3
  go_wp2_with fail
  refine (sum_any _ [] _ (HE.out.below HB3.out) (Bs.nil _) (by decide)).mono ?_
  rintro e w4 ⟨rfl, b4⟩
  have z0 := s0
  have B4 := below_one w4 (.cells (cellsB nine).toArray 5 (9, 10))
  have HB4 := Lib.hid (then_ (then_ HB3.out b4) B4)
  have HO4 := Lib.hid ((HO3.out.below b4).below B4)
  clear b4 B4
  go_wp2_with fail
  refine (sum_any _ nine _ (HE.out.below HB4.out) (bs_const w4 nine _ 9 (9, 10) rfl rfl) (by decide)).mono ?_
  rintro e w5 ⟨rfl, b5⟩
  have z9 := s9
  have HB5 := Lib.hid (then_ HB4.out b5)
  have HO5 := Lib.hid (HO4.out.below b5)
  clear b5
  go_wp2_with fail
  refine (put_any _ [] _ (HE.out.below HB5.out) (Bs.nil _) (by decide)).mono ?_
  rintro e w6 ⟨v6, rfl, ho6, b6⟩
  have HB6 := Lib.hid (then_ HB5.out b6)
  have cv := conv_bs ((HO5.out.below b6).bs) 9 Tryd.underlying9
  rw [HNI.out] at cv
  obtain ⟨p6, c6, rfl⟩ := ho6.form
  rw [show (putL []).length = 4 from rfl]
  clear b6 ho6
  go_wp2_with fail
  go_ret
  exact ⟨rfl, HB6.out⟩
end Go.Proofs.YthoccemfdndkhaaDoor.Crc
