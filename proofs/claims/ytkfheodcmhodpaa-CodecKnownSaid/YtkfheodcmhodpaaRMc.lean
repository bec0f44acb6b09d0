/- The contracts of the document's Compare and Same of predicates. -/
import Derived.Test.YtkfheodcmhodpaaRMb
set_option linter.unusedSimpArgs false
set_option linter.unusedVariables false
namespace Go.Proofs.Ytkfheodcmhodpaa.Gm
open Go Go.RowKit
attribute [local go_sem ↓] Go.wp_at_zero Go.wp_at_succ

set_option maxHeartbeats 8000000 in
set_option maxRecDepth 100000 in
theorem rcompare_any (va vb : Value) (a b : List Cn) (w : World) (hA : Cs w va a) (hB : Cs w vb b) : Calls Try.prog 57 #[va, vb] w (Gives (.int .i64 (cmpL cmpC a b)) w) := by
  obtain ⟨p, cap, rfl⟩ := hA.1.form
  obtain ⟨p', cap', rfl⟩ := hB.1.form
  have hla := hA.2.1
  have hlb := hB.2.1
  have HA := Lib.hid hA
  have HB := Lib.hid hB
  clear hA hB
  go_enter Try.func57, Try.ntmps57
  go_wp2
  go_loopw [5, 6] (fun i _ wr => ∃ k : Nat, k ≤ a.length ∧ k ≤ b.length ∧ i = .int .i64 k ∧ cmpL cmpC (a.drop k) (b.drop k) = cmpL cmpC a b ∧ Hid (Below w.heap.size w wr)) (fun i _ _ => a.length - (intOf i).toNat)
  case atStart => exact ⟨0, Nat.zero_le _, Nat.zero_le _, rfl, rfl, Lib.hid (Below.refl _ _)⟩
  case round =>
    obtain ⟨k, hk, hk', rfl, hor, HBel⟩ := hrel
    have HO := Lib.hid hor
    clear hor
    by_cases hka : k < a.length
    · by_cases hkb : k < b.length
      · obtain ⟨p1, cap1, ba, oa, hv, hpa, hba, h4⟩ := seven_at (HA.out.later HBel.out).1 hka
        simp only [Value.slice.injEq] at hv
        obtain ⟨rfl, _, rfl⟩ := hv
        have hidx := idx_c3 p ba oa a.length cap k hpa hka
        clear hpa
        obtain ⟨p2, cap2, bb, ob, hv, hpb, hbb, h5⟩ := seven_at (HB.out.later HBel.out).1 hkb
        simp only [Value.slice.injEq] at hv
        obtain ⟨rfl, _, rfl⟩ := hv
        have hidx' := idx_c3 p' bb ob b.length cap' k hpb hkb
        clear hpb
        have HS := Lib.hid (cmpL_step (f := cmpC) hka hkb)
        have HSa := Lib.hid ((HA.out.at hka).later HBel.out)
        have HSb := Lib.hid ((HB.out.at hkb).later HBel.out)
        obtain ⟨x, hx⟩ : ∃ x, a.getD k default = x := ⟨_, rfl⟩
        obtain ⟨y, hy⟩ : ∃ y, b.getD k default = y := ⟨_, rfl⟩
        rw [hx] at h4 HS HSa
        rw [hy] at h5 HS HSb
        have HC := Lib.hid (fun W (h : Below wr.heap.size wr W) => order_any x y W (HSa.out.later h) (HSb.out.later h))
        obtain ⟨r, hr⟩ : ∃ r, cmpC x y = r := ⟨_, rfl⟩
        rw [hr] at HC HS
        clear hx hy hr hba hbb HSa HSb
        have c0 := fun (z : Later wr) => Later.cell h4.1 z
        have c1 := fun (z : Later wr) => Later.cell h4.2.1 z
        have c2 := fun (z : Later wr) => Later.cell h4.2.2.1 z
        have c3 := fun (z : Later wr) => Later.cell h4.2.2.2.1 z
        have c4 := fun (z : Later wr) => Later.cell h4.2.2.2.2.1 z
        have c5 := fun (z : Later wr) => Later.cell h4.2.2.2.2.2.1 z
        have c6 := fun (z : Later wr) => Later.cell h4.2.2.2.2.2.2 z
        have d0 := fun (z : Later wr) => Later.cell h5.1 z
        have d1 := fun (z : Later wr) => Later.cell h5.2.1 z
        have d2 := fun (z : Later wr) => Later.cell h5.2.2.1 z
        have d3 := fun (z : Later wr) => Later.cell h5.2.2.2.1 z
        have d4 := fun (z : Later wr) => Later.cell h5.2.2.2.2.1 z
        have d5 := fun (z : Later wr) => Later.cell h5.2.2.2.2.2.1 z
        have d6 := fun (z : Later wr) => Later.cell h5.2.2.2.2.2.2 z
        clear h4 h5
        by_cases hz : r = 0
        · have HE : Hid (cmpL cmpC (a.drop (k + 1)) (b.drop (k + 1)) = cmpL cmpC a b) := Lib.hid (by rw [← HO.out, HS.out, if_pos hz])
          have e3 : (r == 0) = true := by simpa using hz
          have e4 : (r != 0) = false := by simpa using hz
          clear hz
          go_wp2_with fail
          refine wp_region_later (by kernel_rfl) (by kernel_rfl) ?_
          repeat (quiet_step ((first | (go_at_call 98; exact later_call _ (HC.out _ (Later.bel _))))))
          refine wpQuiet_nil ?_
          intro wz hw'
          obtain ⟨⟨_, hbz⟩, rfl⟩ := hw'
          have HBz := Lib.hid (then_ HBel.out hbz)
          clear hbz c0 c1 c2 c3 c4 c5 c6 d0 d1 d2 d3 d4 d5 d6
          go_wp2_with fail
          go_roundw
          case rel => exact ⟨k + 1, by omega, by omega, by simp, HE.out, HBz⟩
          case measure => simp [intOf]; omega
        · have HE : Hid (cmpL cmpC a b = r) := Lib.hid (by rw [← HO.out, HS.out, if_neg hz])
          have e3 : (r == 0) = false := by simpa using hz
          have e4 : (r != 0) = true := by simpa using hz
          clear hz
          go_wp2_with fail
          refine wp_region_later (by kernel_rfl) (by kernel_rfl) ?_
          repeat (quiet_step ((first | (go_at_call 98; exact later_call _ (HC.out _ (Later.bel _))))))
          refine wpQuiet_nil ?_
          intro wz hw'
          obtain ⟨⟨_, hbz⟩, rfl⟩ := hw'
          have HBz := Lib.hid (then_ HBel.out hbz)
          clear hbz c0 c1 c2 c3 c4 c5 c6 d0 d1 d2 d3 d4 d5 d6
          go_wp2_with fail
          go_ret
          exact ⟨ret_int HE.out.symm, HBz.out⟩
      · have HE : Hid (cmpL cmpC a b = 1) := Lib.hid (by rw [← HO.out, cmpL_over hka (by omega)])
        have hke : k = b.length := by omega
        subst hke
        have hlt : ¬ a.length < b.length := by omega
        go_wp2_with fail
        go_ret
        exact ⟨ret_int HE.out.symm, HBel.out⟩
    · have hke : k = a.length := by omega
      have HD := Lib.hid (cmpL_done (f := cmpC) (a := a) (b := b) (k := k) (by omega))
      subst hke
      by_cases hlt : a.length < b.length
      · have HE : Hid (cmpL cmpC a b = -1) := Lib.hid (by rw [← HO.out, HD.out, if_pos hlt])
        go_wp2_with fail
        go_ret
        exact ⟨ret_int HE.out.symm, HBel.out⟩
      · have HE : Hid (cmpL cmpC a b = 0) := Lib.hid (by rw [← HO.out, HD.out, if_neg hlt])
        have heq : b.length = a.length := by omega
        have hd : decide (a.length < b.length) = false := by simpa using hlt
        go_wp2_with fail
        go_ret
        exact ⟨ret_int HE.out.symm, HBel.out⟩
theorem rsame_any (va vb : Value) (a b : List Cn) (w : World) (hA : Cs w va a) (hB : Cs w vb b) : Calls Try.prog 22 #[va, vb] w (Gives (.bool (decide (cmpL cmpC a b = 0))) w) := by
  have HC := Lib.hid (rcompare_any va vb a b w hA hB)
  obtain ⟨p, cap, rfl⟩ := hA.1.form
  obtain ⟨p', cap', rfl⟩ := hB.1.form
  generalize cmpL cmpC a b = R at HC ⊢
  have e : (R == 0) = decide (R = 0) := by by_cases h : R = 0 <;> simp [h]
  generalize decide (R = 0) = d at e ⊢
  clear hA hB
  go_enter Try.func22, Try.ntmps22
  go_wp2_with fail
  refine HC.out.mono ?_; rintro e w1 ⟨rfl, b1⟩
  go_wp2_with fail
  go_ret
  exact ⟨rfl, b1⟩
end Go.Proofs.Ytkfheodcmhodpaa.Gm
