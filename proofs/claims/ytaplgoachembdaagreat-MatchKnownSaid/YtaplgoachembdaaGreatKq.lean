/- The contracts of package pred's Compare and Same. -/
import Derived.Test.YtaplgoachembdaaGreatKh
import Derived.Test.YtaplgoachembdaaGreatKqa
/- The contract of slices.CompareFunc at constraints: one by one, the shorter one first. -/
set_option linter.unusedSimpArgs false
set_option linter.unusedVariables false
namespace Go.Proofs.YtaplgoachembdaaGreat.Gm
open Go Go.RowKit
attribute [local go_sem ↓] Go.wp_at_zero Go.wp_at_succ

set_option maxHeartbeats 4000000 in
set_option maxRecDepth 20000 in
theorem cmpf_c (va vb : Value) (a b : List Cn) (w : World) (hA : Cs w va a) (hB : Cs w vb b) :
    Calls Tryz.prog 56 #[va, vb, .func (.func 57) #[] #[]] w (Gives (.int .i64 (cmpL cmpC a b)) w) := by
  obtain ⟨p, cap, rfl⟩ := hA.1.form
  obtain ⟨p', cap', rfl⟩ := hB.1.form
  have hla : a.length ≤ 3518437208883 := by have := hA.2; omega
  have hlb : b.length ≤ 3518437208883 := by have := hB.2; omega
  have HA := Lib.hid hA
  have HB := Lib.hid hB
  clear hA hB
  go_enter Tryz.func56, Tryz.ntmps56
  go_wp2
  go_loopw [13] (fun i wr => ∃ k : Nat, k ≤ a.length ∧ k ≤ b.length ∧ i = .int .i64 k ∧ cmpL cmpC (a.drop k) (b.drop k) = cmpL cmpC a b ∧ Below w.heap.size w wr) (fun i _ => a.length - (intOf i).toNat)
  case atStart => exact ⟨0, Nat.zero_le _, Nat.zero_le _, rfl, rfl, Below.refl _ _⟩
  case round =>
    obtain ⟨k, hk, hk', rfl, hor, hbel⟩ := hrel
    have HO := Lib.hid hor
    have HBel := Lib.hid hbel
    clear hor hbel
    by_cases hka : k < a.length
    · obtain ⟨p1, cap1, ba, oa, hv, hpa, hba, h4⟩ := seven_at HA.out.1 hka
      simp only [Value.slice.injEq] at hv
      obtain ⟨rfl, _, rfl⟩ := hv
      have hidx := idx_c3 p ba oa a.length cap k hpa hka
      clear hpa
      obtain ⟨c0, c1, c2, c3, c4, c5, c6⟩ := h4.later HBel.out
      by_cases hkb : k < b.length
      · obtain ⟨p2, cap2, bb, ob, hv, hpb, hbb, h5⟩ := seven_at HB.out.1 hkb
        simp only [Value.slice.injEq] at hv
        obtain ⟨rfl, _, rfl⟩ := hv
        have hidx' := idx_c3 p' bb ob b.length cap' k hpb hkb
        clear hpb
        obtain ⟨d0, d1, d2, d3, d4, d5, d6⟩ := h5.later HBel.out
        have HS := Lib.hid (cmpL_step (f := cmpC) hka hkb)

        have hsa := ((HA.out.at hka).later HBel.out)
        have hsb := ((HB.out.at hkb).later HBel.out)

        obtain ⟨x, hx⟩ : ∃ x, a.getD k default = x := ⟨_, rfl⟩
        obtain ⟨y, hy⟩ : ∃ y, b.getD k default = y := ⟨_, rfl⟩
        rw [hx] at c0 c1 c2 c3 c4 c5 c6 HS hsa
        rw [hy] at d0 d1 d2 d3 d4 d5 d6 HS hsb

        have HSa := Lib.hid hsa
        have HSb := Lib.hid hsb
        clear hsa hsb

        have HBa := Lib.hid hba
        have HBb := Lib.hid hbb
        have hsz := HBel.out.size
        have hba' : ba < wr.heap.size := by omega
        have hbb' : bb < wr.heap.size := by omega
        clear hx hy h4 h5 hba hbb
        go_wp2_with fail
        refine (cmpcons_any x y _ (HSa.out.later (((Below.refl _ wr).alloc (Nat.le_refl _) _).alloc (by simp) _)) (HSb.out.later (((Below.refl _ wr).alloc (Nat.le_refl _) _).alloc (by simp) _))).mono ?_
        rintro e w1 ⟨rfl, b1⟩
        have hB1 : Below w.heap.size w w1 := then_ ((HBel.out.alloc HBel.out.size _).alloc (by simp; omega) _) b1
        have HB1 := Lib.hid hB1
        clear b1 hB1
        by_cases hz : cmpC x y = 0
        · have HE : Hid (cmpL cmpC (a.drop (k + 1)) (b.drop (k + 1)) = cmpL cmpC a b) := Lib.hid (by rw [← HO.out, HS.out, if_pos hz])
          have e1 : (cmpC x y != 0) = false := by simp [hz]
          clear hz
          go_wp2_with fail
          go_roundw
          case rel => exact ⟨k + 1, by omega, by omega, by simp, HE.out, HB1.out⟩
          case measure => simp [intOf]; omega
        · have HE : Hid (cmpL cmpC a b = cmpC x y) := Lib.hid (by rw [← HO.out, HS.out, if_neg hz])
          have e1 : (cmpC x y != 0) = true := by simpa using hz
          clear hz
          go_wp2_with fail
          go_ret
          exact ⟨ret_int HE.out.symm, HB1.out⟩
      · have HE : Hid (cmpL cmpC a b = 1) := Lib.hid (by rw [← HO.out, cmpL_over hka (by omega)])
        have hge : b.length ≤ k := by omega
        obtain ⟨x, hx⟩ : ∃ x, a.getD k default = x := ⟨_, rfl⟩
        rw [hx] at c0 c1 c2 c3 c4 c5 c6
        clear hx h4 hkb
        go_wp2_with fail
        go_ret
        exact ⟨ret_int HE.out.symm, HBel.out.alloc HBel.out.size _⟩
    · have hke : k = a.length := by omega
      have HD := Lib.hid (cmpL_done (f := cmpC) (a := a) (b := b) (k := k) (by omega))
      subst hke
      by_cases hlt : a.length < b.length
      · have HE : Hid (cmpL cmpC a b = -1) := Lib.hid (by rw [← HO.out, HD.out, if_pos hlt])
        go_wp2
        go_ret
        exact ⟨ret_int HE.out.symm, HBel.out⟩
      · have HE : Hid (cmpL cmpC a b = 0) := Lib.hid (by rw [← HO.out, HD.out, if_neg hlt])
        have hd : decide (a.length < b.length) = false := by simpa using hlt
        go_wp2
        go_ret
        exact ⟨ret_int HE.out.symm, HBel.out⟩
end Go.Proofs.YtaplgoachembdaaGreat.Gm
set_option linter.unusedSimpArgs false
set_option linter.unusedVariables false
namespace Go.Proofs.YtaplgoachembdaaGreat.Gm
open Go Go.RowKit
attribute [local go_sem ↓] Go.wp_at_zero Go.wp_at_succ

theorem pcompare_any (va vb : Value) (a b : List Cn) (w : World) (hA : Cs w va a) (hB : Cs w vb b) : Calls Tryz.prog 40 #[va, vb] w (Gives (.int .i64 (cmpL cmpC a b)) w) := by
  have HC := Lib.hid (cmpf_c va vb a b w hA hB)
  obtain ⟨p, cap, rfl⟩ := hA.1.form
  obtain ⟨p', cap', rfl⟩ := hB.1.form
  generalize cmpL cmpC a b = R at HC ⊢
  clear hA hB
  go_enter Tryz.func40, Tryz.ntmps40
  go_wp2_with fail
  refine HC.out.mono ?_; rintro e w1 ⟨rfl, b1⟩
  go_wp2_with fail
  go_ret
  exact ⟨rfl, b1⟩
theorem psame_any (va vb : Value) (a b : List Cn) (w : World) (hA : Cs w va a) (hB : Cs w vb b) : Calls Tryz.prog 20 #[va, vb] w (Gives (.bool (decide (cmpL cmpC a b = 0))) w) := by
  have HC := Lib.hid (pcompare_any va vb a b w hA hB)
  obtain ⟨p, cap, rfl⟩ := hA.1.form
  obtain ⟨p', cap', rfl⟩ := hB.1.form
  generalize cmpL cmpC a b = R at HC ⊢
  have e : (R == 0) = decide (R = 0) := by by_cases h : R = 0 <;> simp [h]
  generalize decide (R = 0) = d at e ⊢
  clear hA hB
  go_enter Tryz.func20, Tryz.ntmps20
  go_wp2_with fail
  refine HC.out.mono ?_; rintro e w1 ⟨rfl, b1⟩
  go_wp2_with fail
  go_ret
  exact ⟨rfl, b1⟩
end Go.Proofs.YtaplgoachembdaaGreat.Gm
