/- The contract of the statements' first question in layer 4, walked. -/
import Derived.Test.YtpdlgkneeilclaaKy
set_option linter.unusedSimpArgs false
set_option linter.unusedVariables false
namespace Go.Proofs.Ytpdlgkneeilclaa.Gm
open Go Go.RowKit
attribute [local go_sem ↓] Go.wp_at_zero Go.wp_at_succ
set_option maxHeartbeats 4000000 in
set_option maxRecDepth 100000 in
theorem awake_any (w : World) : Calls Try.prog 21 #[] w (Gives (.bool true) w) := by
  go_enter Try.func21, Try.ntmps21
  go_wp2_with fail
  refine (n_any 5 _).mono ?_; rintro e w1 ⟨rfl, b1⟩
  go_wp2_with fail
  refine (n_any 9 _).mono ?_; rintro e w2 ⟨rfl, b2⟩
  have HB := Lib.hid (then_ b1 b2)
  have HP := Lib.hid (exP_new w2)
  clear b1 b2
  obtain ⟨gp, hgp⟩ : ∃ g, g = w2.heap.size := ⟨_, rfl⟩
  go_wp2_with fail
  refine (n_any 2 _).mono ?_; rintro e w3 ⟨rfl, b3⟩
  have HP3 : Hid (Cs w3 (.slice (some ⟨gp, 0, none⟩) 2 2) exP) := Lib.hid (by rw [hgp]; exact HP.out.later b3)
  have HB3 := Lib.hid (then_ (HB.out.alloc HB.out.size _) b3)
  rw [← hgp]
  clear b3 HP HB hgp
  go_wp2_with fail
  refine (n_any 1 _).mono ?_; rintro e w4 ⟨rfl, b4⟩
  go_wp2_with fail
  refine (n_any 2 _).mono ?_; rintro e w5 ⟨rfl, b5⟩
  have HP5 := Lib.hid (HP3.out.later (then_ b4 b5))
  have HB5 := Lib.hid (then_ HB3.out (then_ b4 b5))
  have HV5 := Lib.hid (vals_new [nv 2, nv 1, nv 2] (by decide) w5)
  have HQ := Lib.hid (exQ_new w5.heap.size (w5.heap.size + 1) _ (by simp) HV5.out)
  clear b4 b5 HP3 HB3
  go_wp2_with fail
  refine (normal_yes _ _ _ HQ.out (exQ_may _)).mono ?_; rintro e w6 ⟨pq, cq, r, rfl, hN⟩
  have HP6 := Lib.hid ((HP5.out.later (((Below.refl _ w5).alloc (Nat.le_refl _) _).alloc (by simp) _)).later hN.bel)
  have HB6 := Lib.hid (then_ ((HB5.out.alloc HB5.out.size _).alloc (by have := HB5.out.size; simp; omega) _) hN.bel)
  have HR6 := Lib.hid (hN.own.cs (by have := hN.len; simp [exQ] at this; omega) (fun d hd => by have := hN.sets d hd; omega))
  have HI6 := Lib.hid (hN.is.trans (exQ_norm w5.heap.size 0))
  clear hN HQ HV5 HP5 HB5
  go_wp2_with fail
  refine (n_any 5 _).mono ?_; rintro e w7 ⟨rfl, b7⟩
  go_wp2_with fail
  refine (a_any sA (nv 5) _).mono ?_; rintro e w8 ⟨rfl, b8⟩
  have HE8 := Lib.hid (es_new ⟨sA, nv 5⟩ w8)
  have HB8 := Lib.hid ((then_ b7 b8).alloc (then_ b7 b8).size (.cells #[.string sA, .int .i64 (nv 5 : Vl).k, .int .i64 (nv 5 : Vl).n, .string (nv 5 : Vl).s, .bool (nv 5 : Vl).b] 56))
  clear b7 b8
  go_wp2_with fail
  refine (e_any _ _ _ _).mono ?_; rintro e w9 ⟨rfl, b9⟩
  have HE9 := Lib.hid (HE8.out.later b9)
  have HC9 := Lib.hid (then_ HB8.out b9)
  have HM9 := matches_any _ _ ⟨#[]⟩ _ _ w9 (HP6.out.later HC9.out) HE9.out
  rw [m_is exP_1] at HM9
  have HM9 := Lib.hid HM9
  clear b9 HE8 HB8
  go_wp2_with fail
  refine HM9.out.mono ?_; rintro e w10 ⟨rfl, b10⟩
  have HP10 := Lib.hid (HP6.out.later (then_ HC9.out b10))
  have HR10 := Lib.hid (HR6.out.later (then_ HC9.out b10))
  have HB10 := Lib.hid (then_ HB6.out (then_ HC9.out b10))
  clear b10 HM9 HE9 HC9 HP6 HR6 HB6
  go_wp2_with fail
  refine (n_any 9 _).mono ?_; rintro e w11 ⟨rfl, b11⟩
  go_wp2_with fail
  refine (a_any sA (nv 9) _).mono ?_; rintro e w12 ⟨rfl, b12⟩
  have HE12 := Lib.hid (es_new ⟨sA, nv 9⟩ w12)
  have HB12 := Lib.hid ((then_ b11 b12).alloc (then_ b11 b12).size (.cells #[.string sA, .int .i64 (nv 9 : Vl).k, .int .i64 (nv 9 : Vl).n, .string (nv 9 : Vl).s, .bool (nv 9 : Vl).b] 56))
  clear b11 b12
  go_wp2_with fail
  refine (e_any _ _ _ _).mono ?_; rintro e w13 ⟨rfl, b13⟩
  have HE13 := Lib.hid (HE12.out.later b13)
  have HC13 := Lib.hid (then_ HB12.out b13)
  have HM13 := matches_any _ _ ⟨#[]⟩ _ _ w13 (HP10.out.later HC13.out) HE13.out
  rw [m_is exP_2] at HM13
  have HM13 := Lib.hid HM13
  clear b13 HE12 HB12
  go_wp2_with fail
  refine HM13.out.mono ?_; rintro e w14 ⟨rfl, b14⟩
  have HP14 := Lib.hid (HP10.out.later (then_ HC13.out b14))
  have HR14 := Lib.hid (HR10.out.later (then_ HC13.out b14))
  have HB14 := Lib.hid (then_ HB10.out (then_ HC13.out b14))
  clear b14 HM13 HE13 HC13 HP10 HR10 HB10
  go_wp2_with fail
  refine (s_any ⟨#[53]⟩ _).mono ?_; rintro e w15 ⟨rfl, b15⟩
  go_wp2_with fail
  refine (a_any sA (tv ⟨#[53]⟩) _).mono ?_; rintro e w16 ⟨rfl, b16⟩
  have HE16 := Lib.hid (es_new ⟨sA, tv ⟨#[53]⟩⟩ w16)
  have HB16 := Lib.hid ((then_ b15 b16).alloc (then_ b15 b16).size (.cells #[.string sA, .int .i64 (tv ⟨#[53]⟩ : Vl).k, .int .i64 (tv ⟨#[53]⟩ : Vl).n, .string (tv ⟨#[53]⟩ : Vl).s, .bool (tv ⟨#[53]⟩ : Vl).b] 56))
  clear b15 b16
  go_wp2_with fail
  refine (e_any _ _ _ _).mono ?_; rintro e w17 ⟨rfl, b17⟩
  have HE17 := Lib.hid (HE16.out.later b17)
  have HC17 := Lib.hid (then_ HB16.out b17)
  have HM17 := matches_any _ _ ⟨#[]⟩ _ _ w17 (HP14.out.later HC17.out) HE17.out
  rw [m_is exP_3] at HM17
  have HM17 := Lib.hid HM17
  clear b17 HE16 HB16
  go_wp2_with fail
  refine HM17.out.mono ?_; rintro e w18 ⟨rfl, b18⟩
  have HP18 := Lib.hid (HP14.out.later (then_ HC17.out b18))
  have HR18 := Lib.hid (HR14.out.later (then_ HC17.out b18))
  have HB18 := Lib.hid (then_ HB14.out (then_ HC17.out b18))
  clear b18 HM17 HE17 HC17 HP14 HR14 HB14
  go_wp2_with fail
  refine (e_any _ _ _ _).mono ?_; rintro e w19 ⟨rfl, b19⟩
  have HM19 := matches_any _ _ ⟨#[]⟩ _ _ w19 (HP18.out.later b19) (es_nil w19)
  rw [m_is exP_4] at HM19
  have HM19 := Lib.hid HM19
  have HC19 := Lib.hid b19
  clear b19
  go_wp2_with fail
  refine HM19.out.mono ?_; rintro e w20 ⟨rfl, b20⟩
  have HR20 := Lib.hid (HR18.out.later (then_ HC19.out b20))
  have HB20 := Lib.hid (then_ HB18.out (then_ HC19.out b20))
  clear b20 HM19 HC19 HP18 HR18 HB18
  go_wp2_with fail
  refine (n_any 1 _).mono ?_; rintro e w21 ⟨rfl, b21⟩
  go_wp2_with fail
  refine (n_any 2 _).mono ?_; rintro e w22 ⟨rfl, b22⟩
  have HR22 := Lib.hid (HR20.out.later (then_ b21 b22))
  have HB22 := Lib.hid (then_ HB20.out (then_ b21 b22))
  have HV22 := Lib.hid (vals_new [nv 1, nv 2] (by decide) w22)
  have HQ22 := Lib.hid (exR_new w22.heap.size (w22.heap.size + 1) _ (by simp) HV22.out)
  have HS := psame_any _ _ _ _ _ (HR22.out.later (((Below.refl _ w22).alloc (Nat.le_refl _) (.cells ([nv 1, nv 2].flatMap encV).toArray 34)).alloc (by simp) (.cells ((exR w22.heap.size).flatMap encC).toArray 37))) HQ22.out
  rw [same_bare (b := exR w22.heap.size) (HI6.out.trans rfl), decide_eq_true rfl] at HS
  have HS := Lib.hid HS
  clear b21 b22 HR20 HB20 HV22
  go_wp2_with fail
  refine HS.out.mono ?_; rintro e w23 ⟨rfl, b23⟩
  have HB23 := Lib.hid (then_ ((HB22.out.alloc HB22.out.size _).alloc (by have := HB22.out.size; simp; omega) _) b23)
  clear b23
  go_wp2_with fail
  go_ret
  exact ⟨rfl, HB23.out⟩
end Go.Proofs.Ytpdlgkneeilclaa.Gm
