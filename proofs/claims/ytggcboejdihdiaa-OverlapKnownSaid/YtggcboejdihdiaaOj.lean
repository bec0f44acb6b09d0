/- OverlapKnown, walked: the chapter's rows, the ends. -/
import Derived.Test.YtggcboejdihdiaaOi
set_option linter.unusedSimpArgs false
set_option linter.unusedVariables false
namespace Go.Proofs.Ytggcboejdihdiaa.Gm
open Go Go.RowKit
attribute [local go_sem ↓] Go.wp_at_zero Go.wp_at_succ

def kb : List Cn := [cv cA 10 default]
def kg : List Cn := [cv cA 6 (strV sX)]
def kl : List Cn := [cv cA 4 (strV sX0)]
def kt : List Cn := [cv cA 6 (booV true)]
def km : List Cn := [cv cA 7 (numV 9223372036854775807)]
def k5 : List Cn := [cv cA 3 (numV 5)]
def kn : List Cn := [cv cA 3 (numV 9223372036854775807)]
theorem r_kb : ∀ c ∈ kb, RvC c := all_1 (rvc_cv rv_def)
theorem r_kg : ∀ c ∈ kg, RvC c := all_1 (rvc_cv (rv_str _))
theorem r_kl : ∀ c ∈ kl, RvC c := all_1 (rvc_cv (rv_str _))
theorem r_kt : ∀ c ∈ kt, RvC c := all_1 (rvc_cv (rv_boo _))
theorem r_km : ∀ c ∈ km, RvC c := all_1 (rvc_cv (rv_num (by decide)))
theorem r_k5 : ∀ c ∈ k5, RvC c := all_1 (rvc_cv (rv_num (by decide)))
theorem r_kn : ∀ c ∈ kn, RvC c := all_1 (rvc_cv (rv_num (by decide)))
theorem may_kb : mayPr kb = false := by simp [kb, mayPr, mayCn, mayOp]
theorem may_kg : mayPr kg = true := may_p1 (may_cv (by decide) (by decide) (by decide) (may_str _ (by decide)))
theorem may_kl : mayPr kl = true := may_p1 (may_cv (by decide) (by decide) (by decide) (may_str _ (by decide)))
theorem may_kt : mayPr kt = true := may_p1 (may_cv (by decide) (by decide) (by decide) (may_boo _))
theorem may_km : mayPr km = true := may_p1 (may_cv (by decide) (by decide) (by decide) (may_num _))
theorem may_k5 : mayPr k5 = true := may_p1 (may_cv (by decide) (by decide) (by decide) (may_num _))
theorem may_kn : mayPr kn = true := may_p1 (may_cv (by decide) (by decide) (by decide) (may_num _))
theorem k_1 : overB kb [] = false := by unfold overB; rw [may_kb]; rfl
theorem k_2 : overB kg kl = false := over_eval may_kg may_kl (names_two _ _ rfl) (by kernel_rfl)
theorem k_3 : overB kt [] = false := over_eval may_kt rfl (names_one _) (by kernel_rfl)
theorem k_4 : overB km k5 = true := over_eval may_km may_k5 (names_two _ _ rfl) (by kernel_rfl)
theorem k_5 : overB km kn = false := over_eval may_km may_kn (names_two _ _ rfl) (by kernel_rfl)
theorem k_6 : overB [] [] = true := over_eval rfl rfl names_none rfl
theorem ex_none (w : World) : Calls Try.prog 17 #[.slice none 0 0, .slice none 0 0] w fun e w' => ∃ p c, e = .returned (.tuple #[.agg #[.string ⟨#[]⟩, .slice p 0 c], .bool true]) ∧ Below w.heap.size w w' :=
  (example_any _ _ [] [] w (cs_nil w) (cs_nil w) rv_nil rv_nil).mono fun e w' ⟨u, h1, h2, h3⟩ => by
    have hx : exL [] [] = [] := by unfold exL; rw [k_6, if_pos rfl]; exact names_none
    rw [hx] at h2
    rw [k_6] at h1
    obtain ⟨p, c, rfl⟩ := own_shape h2
    exact ⟨p, c, h1, h3⟩
set_option maxHeartbeats 16000000 in
set_option maxRecDepth 100000 in
theorem oknown_any (w : World) : Calls Try.prog 5 #[] w (Gives (.bool true) w) := by
  have HB0 := Lib.hid (Below.refl w.heap.size w)
  have HL0 := Lib.hid (Prs.nil w)
  have HM0 := Lib.hid (Cls.nil w)
  go_enter Try.func5, Try.ntmps5
  have HB1 : Hid (Below w.heap.size w (w.alloc (.cells ([cv cA 10 (default)].flatMap encC).toArray 34))) := Lib.hid (HB0.out.alloc HB0.out.size _)
  have HL1 : Hid (Prs (w.alloc (.cells ([cv cA 10 (default)].flatMap encC).toArray 34)) _) := Lib.hid (HL0.out.push (below_one _ _) (pr_new [cv cA 10 (default)] (s_1 _ _ _) (by simp) _ (w.heap.size) (by simp)))
  have HM1 : Hid (Cls (w.alloc (.cells ([cv cA 10 (default)].flatMap encC).toArray 34)) _) := Lib.hid (HM0.out.later (below_one _ _))
  clear HB0 HL0 HM0
  go_wp2_with fail
  refine (strc_any cA 6 sX _).mono ?_; rintro e w2 ⟨rfl, b2⟩
  have HB2 := Lib.hid (then_ HB1.out b2)
  have HL2 := Lib.hid (HL1.out.later b2)
  have HM2 := Lib.hid (HM1.out.later b2)
  clear b2 HB1 HL1 HM1
  have HB3 : Hid (Below w.heap.size w (w2.alloc (.cells ([cv cA 6 (strV sX)].flatMap encC).toArray 34))) := Lib.hid (HB2.out.alloc HB2.out.size _)
  have HL3 : Hid (Prs (w2.alloc (.cells ([cv cA 6 (strV sX)].flatMap encC).toArray 34)) _) := Lib.hid (HL2.out.push (below_one _ _) (pr_new [cv cA 6 (strV sX)] (s_1 _ _ _) (by simp) _ (w2.heap.size) (by simp)))
  have HM3 : Hid (Cls (w2.alloc (.cells ([cv cA 6 (strV sX)].flatMap encC).toArray 34)) _) := Lib.hid (HM2.out.later (below_one _ _))
  clear HB2 HL2 HM2
  go_wp2_with fail
  refine (strc_any cA 4 sX0 _).mono ?_; rintro e w4 ⟨rfl, b4⟩
  have HB4 := Lib.hid (then_ HB3.out b4)
  have HL4 := Lib.hid (HL3.out.later b4)
  have HM4 := Lib.hid (HM3.out.later b4)
  clear b4 HB3 HL3 HM3
  have HB5 : Hid (Below w.heap.size w (w4.alloc (.cells ([cv cA 4 (strV sX0)].flatMap encC).toArray 34))) := Lib.hid (HB4.out.alloc HB4.out.size _)
  have HL5 : Hid (Prs (w4.alloc (.cells ([cv cA 4 (strV sX0)].flatMap encC).toArray 34)) _) := Lib.hid (HL4.out.push (below_one _ _) (pr_new [cv cA 4 (strV sX0)] (s_1 _ _ _) (by simp) _ (w4.heap.size) (by simp)))
  have HM5 : Hid (Cls (w4.alloc (.cells ([cv cA 4 (strV sX0)].flatMap encC).toArray 34)) _) := Lib.hid (HM4.out.later (below_one _ _))
  clear HB4 HL4 HM4
  have HB6 : Hid (Below w.heap.size w ((w4.alloc (.cells ([cv cA 4 (strV sX0)].flatMap encC).toArray 34)).alloc (.cells ([cv cA 6 (booV true)].flatMap encC).toArray 34))) := Lib.hid (HB5.out.alloc HB5.out.size _)
  have HL6 : Hid (Prs ((w4.alloc (.cells ([cv cA 4 (strV sX0)].flatMap encC).toArray 34)).alloc (.cells ([cv cA 6 (booV true)].flatMap encC).toArray 34)) _) := Lib.hid (HL5.out.push (below_one _ _) (pr_new [cv cA 6 (booV true)] (s_1 _ _ _) (by simp) _ (w4.heap.size + 1) (by simp)))
  have HM6 : Hid (Cls ((w4.alloc (.cells ([cv cA 4 (strV sX0)].flatMap encC).toArray 34)).alloc (.cells ([cv cA 6 (booV true)].flatMap encC).toArray 34)) _) := Lib.hid (HM5.out.later (below_one _ _))
  clear HB5 HL5 HM5
  go_wp2_with fail
  refine (ex_none _).mono ?_; rintro e w7 ⟨p1, c1, rfl, b7⟩
  have HB7 := Lib.hid (then_ HB6.out b7)
  have HL7 := Lib.hid (HL6.out.later b7)
  have HM7 := Lib.hid (HM6.out.later b7)
  clear b7 HB6 HL6 HM6
  have HB8 : Hid (Below w.heap.size w (w7.alloc (.cells #[.string ⟨#[]⟩, .slice p1 0 c1] 47))) := Lib.hid (HB7.out.alloc HB7.out.size _)
  have HL8 : Hid (Prs (w7.alloc (.cells #[.string ⟨#[]⟩, .slice p1 0 c1] 47)) _) := Lib.hid (HL7.out.later (below_one _ _))
  have HM8 : Hid (Cls (w7.alloc (.cells #[.string ⟨#[]⟩, .slice p1 0 c1] 47)) _) := Lib.hid (HM7.out.later (below_one _ _))
  clear HB7 HL7 HM7
  have HM9 := Lib.hid (HM8.out.push (Below.refl _ _) (show (w7.alloc (.cells #[.string ⟨#[]⟩, .slice p1 0 c1] 47)).cell? ⟨w7.heap.size, 1, none⟩ = some _ from (Blk.new w7 47 #[.string ⟨#[]⟩, .slice p1 0 c1]).cell 1 (u := .slice p1 0 c1) rfl))
  clear HM8
  go_wp2_with fail
  refine (over_no _ _ kb [] _ (HL8.out.get 3 rfl) (cs_nil _) r_kb rv_nil k_1).mono ?_; rintro e w10 ⟨rfl, b10⟩
  have HB10 := Lib.hid (then_ HB8.out b10)
  have HL10 := Lib.hid (HL8.out.later b10)
  have HM10 := Lib.hid (HM9.out.later b10)
  clear b10 HB8 HL8 HM9
  go_wp2_with fail
  refine (anyo_no _ kb _ (HL10.out.get 3 rfl) r_kb k_1).mono ?_; rintro e w11 ⟨rfl, b11⟩
  have HB11 := Lib.hid (then_ HB10.out b11)
  have HL11 := Lib.hid (HL10.out.later b11)
  have HM11 := Lib.hid (HM10.out.later b11)
  clear b11 HB10 HL10 HM10
  go_wp2_with fail
  refine (over_no _ _ kg kl _ (HL11.out.get 2 rfl) (HL11.out.get 1 rfl) r_kg r_kl k_2).mono ?_; rintro e w12 ⟨rfl, b12⟩
  have HB12 := Lib.hid (then_ HB11.out b12)
  have HL12 := Lib.hid (HL11.out.later b12)
  have HM12 := Lib.hid (HM11.out.later b12)
  clear b12 HB11 HL11 HM11
  go_wp2_with fail
  refine (anyo_no _ kt _ (HL12.out.get 0 rfl) r_kt k_3).mono ?_; rintro e w13 ⟨rfl, b13⟩
  have HB13 := Lib.hid (then_ HB12.out b13)
  have HL13 := Lib.hid (HL12.out.later b13)
  have HM13 := Lib.hid (HM12.out.later b13)
  clear b13 HB12 HL12 HM12
  have d1 := HM13.out.get 0 rfl
  go_wp2_with fail
  refine (con_any cA 7 9223372036854775807 _).mono ?_; rintro e w14 ⟨rfl, b14⟩
  have HB14 := Lib.hid (then_ HB13.out b14)
  have HL14 := Lib.hid (HL13.out.later b14)
  have HM14 := Lib.hid (HM13.out.later b14)
  clear b14 HB13 HL13 HM13
  have HB15 : Hid (Below w.heap.size w (w14.alloc (.cells ([cv cA 7 (numV 9223372036854775807)].flatMap encC).toArray 34))) := Lib.hid (HB14.out.alloc HB14.out.size _)
  have HL15 : Hid (Prs (w14.alloc (.cells ([cv cA 7 (numV 9223372036854775807)].flatMap encC).toArray 34)) _) := Lib.hid (HL14.out.push (below_one _ _) (pr_new [cv cA 7 (numV 9223372036854775807)] (s_1 _ _ _) (by simp) _ (w14.heap.size) (by simp)))
  have HM15 : Hid (Cls (w14.alloc (.cells ([cv cA 7 (numV 9223372036854775807)].flatMap encC).toArray 34)) _) := Lib.hid (HM14.out.later (below_one _ _))
  clear HB14 HL14 HM14
  go_wp2_with fail
  refine (con_any cA 3 5 _).mono ?_; rintro e w16 ⟨rfl, b16⟩
  have HB16 := Lib.hid (then_ HB15.out b16)
  have HL16 := Lib.hid (HL15.out.later b16)
  have HM16 := Lib.hid (HM15.out.later b16)
  clear b16 HB15 HL15 HM15
  have HB17 : Hid (Below w.heap.size w (w16.alloc (.cells ([cv cA 3 (numV 5)].flatMap encC).toArray 34))) := Lib.hid (HB16.out.alloc HB16.out.size _)
  have HL17 : Hid (Prs (w16.alloc (.cells ([cv cA 3 (numV 5)].flatMap encC).toArray 34)) _) := Lib.hid (HL16.out.push (below_one _ _) (pr_new [cv cA 3 (numV 5)] (s_1 _ _ _) (by simp) _ (w16.heap.size) (by simp)))
  have HM17 : Hid (Cls (w16.alloc (.cells ([cv cA 3 (numV 5)].flatMap encC).toArray 34)) _) := Lib.hid (HM16.out.later (below_one _ _))
  clear HB16 HL16 HM16
  go_wp2_with fail
  refine (over_yes _ _ km k5 _ (HL17.out.get 1 rfl) (HL17.out.get 0 rfl) r_km r_k5 k_4).mono ?_; rintro e w18 ⟨rfl, b18⟩
  have HB18 := Lib.hid (then_ HB17.out b18)
  have HL18 := Lib.hid (HL17.out.later b18)
  have HM18 := Lib.hid (HM17.out.later b18)
  clear b18 HB17 HL17 HM17
  go_wp2_with fail
  refine (con_any cA 7 9223372036854775807 _).mono ?_; rintro e w19 ⟨rfl, b19⟩
  have HB19 := Lib.hid (then_ HB18.out b19)
  have HL19 := Lib.hid (HL18.out.later b19)
  have HM19 := Lib.hid (HM18.out.later b19)
  clear b19 HB18 HL18 HM18
  have HB20 : Hid (Below w.heap.size w (w19.alloc (.cells ([cv cA 7 (numV 9223372036854775807)].flatMap encC).toArray 34))) := Lib.hid (HB19.out.alloc HB19.out.size _)
  have HL20 : Hid (Prs (w19.alloc (.cells ([cv cA 7 (numV 9223372036854775807)].flatMap encC).toArray 34)) _) := Lib.hid (HL19.out.push (below_one _ _) (pr_new [cv cA 7 (numV 9223372036854775807)] (s_1 _ _ _) (by simp) _ (w19.heap.size) (by simp)))
  have HM20 : Hid (Cls (w19.alloc (.cells ([cv cA 7 (numV 9223372036854775807)].flatMap encC).toArray 34)) _) := Lib.hid (HM19.out.later (below_one _ _))
  clear HB19 HL19 HM19
  go_wp2_with fail
  refine (con_any cA 3 9223372036854775807 _).mono ?_; rintro e w21 ⟨rfl, b21⟩
  have HB21 := Lib.hid (then_ HB20.out b21)
  have HL21 := Lib.hid (HL20.out.later b21)
  have HM21 := Lib.hid (HM20.out.later b21)
  clear b21 HB20 HL20 HM20
  have HB22 : Hid (Below w.heap.size w (w21.alloc (.cells ([cv cA 3 (numV 9223372036854775807)].flatMap encC).toArray 34))) := Lib.hid (HB21.out.alloc HB21.out.size _)
  have HL22 : Hid (Prs (w21.alloc (.cells ([cv cA 3 (numV 9223372036854775807)].flatMap encC).toArray 34)) _) := Lib.hid (HL21.out.push (below_one _ _) (pr_new [cv cA 3 (numV 9223372036854775807)] (s_1 _ _ _) (by simp) _ (w21.heap.size) (by simp)))
  have HM22 : Hid (Cls (w21.alloc (.cells ([cv cA 3 (numV 9223372036854775807)].flatMap encC).toArray 34)) _) := Lib.hid (HM21.out.later (below_one _ _))
  clear HB21 HL21 HM21
  go_wp2_with fail
  refine (over_no _ _ km kn _ (HL22.out.get 1 rfl) (HL22.out.get 0 rfl) r_km r_kn k_5).mono ?_; rintro e w23 ⟨rfl, b23⟩
  have HB23 := Lib.hid (then_ HB22.out b23)
  have HL23 := Lib.hid (HL22.out.later b23)
  have HM23 := Lib.hid (HM22.out.later b23)
  clear b23 HB22 HL22 HM22
  go_wp2_with fail
  refine (wakes_any _).mono ?_; rintro e w24 ⟨rfl, b24⟩
  have HB24 := Lib.hid (then_ HB23.out b24)
  have HL24 := Lib.hid (HL23.out.later b24)
  have HM24 := Lib.hid (HM23.out.later b24)
  clear b24 HB23 HL23 HM23
  go_wp2_with fail
  go_ret
  exact ⟨rfl, HB24.out⟩
end Go.Proofs.Ytggcboejdihdiaa.Gm
