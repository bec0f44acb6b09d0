/- The contract of the statements' first question in layer 5, walked. -/
import Derived.Test.YtfjfdajachcnjaaCy
set_option linter.unusedSimpArgs false
set_option linter.unusedVariables false
namespace Go.Proofs.Ytfjfdajachcnjaa.Gm
open Go Go.RowKit
attribute [local go_sem ↓] Go.wp_at_zero Go.wp_at_succ

set_option maxHeartbeats 16000000 in
set_option maxRecDepth 100000 in
theorem wakes_any (w : World) : Calls Try.prog 6 #[] w (Gives (.bool true) w) := by
  have HB0 := Lib.hid (Below.refl w.heap.size w)
  have HL0 := Lib.hid (Prs.nil w)
  have HM0 := Lib.hid (Cls.nil w)
  obtain ⟨⟨xk, xn, xs, xb⟩, hx0, hs0⟩ := v_6
  have hs1 : xs = sX0 := hs0
  subst hs1
  have HOf := Lib.hid (fun W => of_yes (cv cA 6 (strV sX)) (rvc_cv (rv_str _)) v_3 W (vs_nil _))
  have HSo := Lib.hid (fun W m (h : RgIn W m (regC (cv cA 6 (strV sX)))) => some_any m _ W h)
  rw [hx0] at HSo
  clear hx0 hs0
  generalize regC (cv cA 6 (strV sX)) = r0 at HOf HSo
  go_enter Try.func6, Try.ntmps6
  go_wp2_with fail
  refine (con_any cA 6 5 _).mono ?_; rintro e w1 ⟨rfl, b1⟩
  have HB1 := Lib.hid (then_ HB0.out b1)
  have HL1 := Lib.hid (HL0.out.later b1)
  have HM1 := Lib.hid (HM0.out.later b1)
  clear b1 HB0 HL0 HM0
  have HB2 : Hid (Below w.heap.size w (w1.alloc (.cells ([cv cA 6 (numV 5)].flatMap encC).toArray 43))) := Lib.hid (HB1.out.alloc HB1.out.size _)
  have HL2 : Hid (Prs (w1.alloc (.cells ([cv cA 6 (numV 5)].flatMap encC).toArray 43)) _) := Lib.hid (HL1.out.push (below_one _ _) (pr_new [cv cA 6 (numV 5)] (s_1 _ _ _) (by simp) _ (w1.heap.size) (by simp)))
  have HM2 : Hid (Cls (w1.alloc (.cells ([cv cA 6 (numV 5)].flatMap encC).toArray 43)) _) := Lib.hid (HM1.out.later (below_one _ _))
  clear HB1 HL1 HM1
  go_wp2_with fail
  refine (con_any cA 6 7 _).mono ?_; rintro e w3 ⟨rfl, b3⟩
  have HB3 := Lib.hid (then_ HB2.out b3)
  have HL3 := Lib.hid (HL2.out.later b3)
  have HM3 := Lib.hid (HM2.out.later b3)
  clear b3 HB2 HL2 HM2
  have HB4 : Hid (Below w.heap.size w (w3.alloc (.cells ([cv cA 6 (numV 7)].flatMap encC).toArray 43))) := Lib.hid (HB3.out.alloc HB3.out.size _)
  have HL4 : Hid (Prs (w3.alloc (.cells ([cv cA 6 (numV 7)].flatMap encC).toArray 43)) _) := Lib.hid (HL3.out.push (below_one _ _) (pr_new [cv cA 6 (numV 7)] (s_1 _ _ _) (by simp) _ (w3.heap.size) (by simp)))
  have HM4 : Hid (Cls (w3.alloc (.cells ([cv cA 6 (numV 7)].flatMap encC).toArray 43)) _) := Lib.hid (HM3.out.later (below_one _ _))
  clear HB3 HL3 HM3
  go_wp2_with fail
  refine (num_any 6 _).mono ?_; rintro e w5 ⟨rfl, b5⟩
  have HB5 := Lib.hid (then_ HB4.out b5)
  have HL5 := Lib.hid (HL4.out.later b5)
  have HM5 := Lib.hid (HM4.out.later b5)
  clear b5 HB4 HL4 HM4
  go_wp2_with fail
  refine (num_any 8 _).mono ?_; rintro e w6 ⟨rfl, b6⟩
  have HB6 := Lib.hid (then_ HB5.out b6)
  have HL6 := Lib.hid (HL5.out.later b6)
  have HM6 := Lib.hid (HM5.out.later b6)
  clear b6 HB5 HL5 HM5
  have HV7 := Lib.hid (vals_new [numV 6, numV 8] (by simp) w6)
  have HB8 : Hid (Below w.heap.size w (w6.alloc (.cells ([numV 6, numV 8].flatMap encV).toArray 25))) := Lib.hid (HB6.out.alloc HB6.out.size _)
  have HL8 : Hid (Prs (w6.alloc (.cells ([numV 6, numV 8].flatMap encV).toArray 25)) _) := Lib.hid (HL6.out.later (below_one _ _))
  have HM8 : Hid (Cls (w6.alloc (.cells ([numV 6, numV 8].flatMap encV).toArray 25)) _) := Lib.hid (HM6.out.later (below_one _ _))
  clear HB6 HL6 HM6
  have HB9 : Hid (Below w.heap.size w ((w6.alloc (.cells ([numV 6, numV 8].flatMap encV).toArray 25)).alloc (.cells ([(⟨cA, 9, default, some ⟨w6.heap.size, 0, none⟩, 2, [numV 6, numV 8]⟩ : Cn)].flatMap encC).toArray 43))) := Lib.hid (HB8.out.alloc HB8.out.size _)
  have HL9 : Hid (Prs ((w6.alloc (.cells ([numV 6, numV 8].flatMap encV).toArray 25)).alloc (.cells ([(⟨cA, 9, default, some ⟨w6.heap.size, 0, none⟩, 2, [numV 6, numV 8]⟩ : Cn)].flatMap encC).toArray 43)) _) := Lib.hid (HL8.out.push (below_one _ _) (pr_set cA 9 default (some ⟨w6.heap.size, 0, none⟩) 2 [numV 6, numV 8] _ HV7.out (w6.heap.size + 1) (by simp)))
  have HM9 : Hid (Cls ((w6.alloc (.cells ([numV 6, numV 8].flatMap encV).toArray 25)).alloc (.cells ([(⟨cA, 9, default, some ⟨w6.heap.size, 0, none⟩, 2, [numV 6, numV 8]⟩ : Cn)].flatMap encC).toArray 43)) _) := Lib.hid (HM8.out.later (below_one _ _))
  clear HB8 HL8 HM8
  clear HV7
  go_wp2_with fail
  refine (strc_any cS 8 sAb _).mono ?_; rintro e w10 ⟨rfl, b10⟩
  have HB10 := Lib.hid (then_ HB9.out b10)
  have HL10 := Lib.hid (HL9.out.later b10)
  have HM10 := Lib.hid (HM9.out.later b10)
  clear b10 HB9 HL9 HM9
  have HB11 : Hid (Below w.heap.size w (w10.alloc (.cells ([cv cS 8 (strV sAb)].flatMap encC).toArray 43))) := Lib.hid (HB10.out.alloc HB10.out.size _)
  have HL11 : Hid (Prs (w10.alloc (.cells ([cv cS 8 (strV sAb)].flatMap encC).toArray 43)) _) := Lib.hid (HL10.out.push (below_one _ _) (pr_new [cv cS 8 (strV sAb)] (s_1 _ _ _) (by simp) _ (w10.heap.size) (by simp)))
  have HM11 : Hid (Cls (w10.alloc (.cells ([cv cS 8 (strV sAb)].flatMap encC).toArray 43)) _) := Lib.hid (HM10.out.later (below_one _ _))
  clear HB10 HL10 HM10
  go_wp2_with fail
  refine (strc_any cS 7 sAb _).mono ?_; rintro e w12 ⟨rfl, b12⟩
  have HB12 := Lib.hid (then_ HB11.out b12)
  have HL12 := Lib.hid (HL11.out.later b12)
  have HM12 := Lib.hid (HM11.out.later b12)
  clear b12 HB11 HL11 HM11
  go_wp2_with fail
  refine (strc_any cS 4 sAc _).mono ?_; rintro e w13 ⟨rfl, b13⟩
  have HB13 := Lib.hid (then_ HB12.out b13)
  have HL13 := Lib.hid (HL12.out.later b13)
  have HM13 := Lib.hid (HM12.out.later b13)
  clear b13 HB12 HL12 HM12
  have HB14 : Hid (Below w.heap.size w (w13.alloc (.cells ([cv cS 7 (strV sAb), cv cS 4 (strV sAc)].flatMap encC).toArray 43))) := Lib.hid (HB13.out.alloc HB13.out.size _)
  have HL14 : Hid (Prs (w13.alloc (.cells ([cv cS 7 (strV sAb), cv cS 4 (strV sAc)].flatMap encC).toArray 43)) _) := Lib.hid (HL13.out.push (below_one _ _) (pr_new [cv cS 7 (strV sAb), cv cS 4 (strV sAc)] (s_2 _ _ _ _ _ _) (by simp) _ (w13.heap.size) (by simp)))
  have HM14 : Hid (Cls (w13.alloc (.cells ([cv cS 7 (strV sAb), cv cS 4 (strV sAc)].flatMap encC).toArray 43)) _) := Lib.hid (HM13.out.later (below_one _ _))
  clear HB13 HL13 HM13
  go_wp2_with fail
  refine (con_any cA 2 1 _).mono ?_; rintro e w15 ⟨rfl, b15⟩
  have HB15 := Lib.hid (then_ HB14.out b15)
  have HL15 := Lib.hid (HL14.out.later b15)
  have HM15 := Lib.hid (HM14.out.later b15)
  clear b15 HB14 HL14 HM14
  go_wp2_with fail
  refine (con_any cA 2 2 _).mono ?_; rintro e w16 ⟨rfl, b16⟩
  have HB16 := Lib.hid (then_ HB15.out b16)
  have HL16 := Lib.hid (HL15.out.later b16)
  have HM16 := Lib.hid (HM15.out.later b16)
  clear b16 HB15 HL15 HM15
  have HB17 : Hid (Below w.heap.size w (w16.alloc (.cells ([cv cA 2 (numV 1), cv cA 2 (numV 2)].flatMap encC).toArray 43))) := Lib.hid (HB16.out.alloc HB16.out.size _)
  have HL17 : Hid (Prs (w16.alloc (.cells ([cv cA 2 (numV 1), cv cA 2 (numV 2)].flatMap encC).toArray 43)) _) := Lib.hid (HL16.out.push (below_one _ _) (pr_new [cv cA 2 (numV 1), cv cA 2 (numV 2)] (s_2 _ _ _ _ _ _) (by simp) _ (w16.heap.size) (by simp)))
  have HM17 : Hid (Cls (w16.alloc (.cells ([cv cA 2 (numV 1), cv cA 2 (numV 2)].flatMap encC).toArray 43)) _) := Lib.hid (HM16.out.later (below_one _ _))
  clear HB16 HL16 HM16
  go_wp2_with fail
  refine (counter_one _ _ seven five cA _ (HL17.out.get 4 rfl) (HL17.out.get 5 rfl) r_seven r_five m_seven m_five x_2 n_five (numV 6) v_1.symm).mono ?_; rintro e w18 ⟨g1, c1, ⟨rfl, b18⟩, ho1⟩
  have HB18 := Lib.hid (then_ HB17.out b18)
  have HL18 := Lib.hid (HL17.out.later b18)
  have HM18 := Lib.hid (HM17.out.later b18)
  have HO18 := Lib.hid ho1
  clear ho1
  clear b18 HB17 HL17 HM17
  have HM19 := Lib.hid (HM18.out.push (Below.refl _ _) (show w18.cell? ⟨g1, 2, none⟩ = some _ from own_cell HO18.out 2 (by decide) rfl))
  clear HM18
  have HB20 : Hid (Below w.heap.size w (w18.alloc (.cells #[.string ⟨#[]⟩, .slice (some ⟨g1, 0, none⟩) 1 c1] 50))) := Lib.hid (HB18.out.alloc HB18.out.size _)
  have HL20 : Hid (Prs (w18.alloc (.cells #[.string ⟨#[]⟩, .slice (some ⟨g1, 0, none⟩) 1 c1] 50)) _) := Lib.hid (HL18.out.later (below_one _ _))
  have HM20 : Hid (Cls (w18.alloc (.cells #[.string ⟨#[]⟩, .slice (some ⟨g1, 0, none⟩) 1 c1] 50)) _) := Lib.hid (HM19.out.later (below_one _ _))
  clear HB18 HL18 HM19
  have HM21 := Lib.hid (HM20.out.push (Below.refl _ _) (show (w18.alloc (.cells #[.string ⟨#[]⟩, .slice (some ⟨g1, 0, none⟩) 1 c1] 50)).cell? ⟨w18.heap.size, 1, none⟩ = some _ from (Blk.new w18 50 #[.string ⟨#[]⟩, .slice (some ⟨g1, 0, none⟩) 1 c1]).cell 1 (u := .slice (some ⟨g1, 0, none⟩) 1 c1) rfl))
  clear HM20
  have HB22 : Hid (Below w.heap.size w ((w18.alloc (.cells #[.string ⟨#[]⟩, .slice (some ⟨g1, 0, none⟩) 1 c1] 50)).alloc (.cells ([cv cB 1 (default)].flatMap encC).toArray 43))) := Lib.hid (HB20.out.alloc HB20.out.size _)
  have HL22 : Hid (Prs ((w18.alloc (.cells #[.string ⟨#[]⟩, .slice (some ⟨g1, 0, none⟩) 1 c1] 50)).alloc (.cells ([cv cB 1 (default)].flatMap encC).toArray 43)) _) := Lib.hid (HL20.out.push (below_one _ _) (pr_new [cv cB 1 (default)] (s_1 _ _ _) (by simp) _ (w18.heap.size + 1) (by simp)))
  have HM22 : Hid (Cls ((w18.alloc (.cells #[.string ⟨#[]⟩, .slice (some ⟨g1, 0, none⟩) 1 c1] 50)).alloc (.cells ([cv cB 1 (default)].flatMap encC).toArray 43)) _) := Lib.hid (HM21.out.later (below_one _ _))
  clear HB20 HL20 HM21
  go_wp2_with fail
  refine (con_any cA 2 1 _).mono ?_; rintro e w23 ⟨rfl, b23⟩
  have HB23 := Lib.hid (then_ HB22.out b23)
  have HL23 := Lib.hid (HL22.out.later b23)
  have HM23 := Lib.hid (HM22.out.later b23)
  clear b23 HB22 HL22 HM22
  have HB24 : Hid (Below w.heap.size w (w23.alloc (.cells ([cv cA 2 (numV 1)].flatMap encC).toArray 43))) := Lib.hid (HB23.out.alloc HB23.out.size _)
  have HL24 : Hid (Prs (w23.alloc (.cells ([cv cA 2 (numV 1)].flatMap encC).toArray 43)) _) := Lib.hid (HL23.out.push (below_one _ _) (pr_new [cv cA 2 (numV 1)] (s_1 _ _ _) (by simp) _ (w23.heap.size) (by simp)))
  have HM24 : Hid (Cls (w23.alloc (.cells ([cv cA 2 (numV 1)].flatMap encC).toArray 43)) _) := Lib.hid (HM23.out.later (below_one _ _))
  clear HB23 HL23 HM23
  go_wp2_with fail
  refine (counter_one _ _ hasB' eqA1 cA _ (HL24.out.get 1 rfl) (HL24.out.get 0 rfl) r_hasB r_eqA1 m_hasB m_eqA1 x_9 n_eqA1 (numV 1) v_2.symm).mono ?_; rintro e w25 ⟨g2, c2, ⟨rfl, b25⟩, ho2⟩
  have HB25 := Lib.hid (then_ HB24.out b25)
  have HL25 := Lib.hid (HL24.out.later b25)
  have HM25 := Lib.hid (HM24.out.later b25)
  have HO25 := Lib.hid ho2
  clear ho2
  clear b25 HB24 HL24 HM24
  have HM26 := Lib.hid (HM25.out.push (Below.refl _ _) (show w25.cell? ⟨g2, 2, none⟩ = some _ from own_cell HO25.out 2 (by decide) rfl))
  clear HM25
  have HB27 : Hid (Below w.heap.size w (w25.alloc (.cells #[.string ⟨#[]⟩, .slice (some ⟨g2, 0, none⟩) 1 c2] 50))) := Lib.hid (HB25.out.alloc HB25.out.size _)
  have HL27 : Hid (Prs (w25.alloc (.cells #[.string ⟨#[]⟩, .slice (some ⟨g2, 0, none⟩) 1 c2] 50)) _) := Lib.hid (HL25.out.later (below_one _ _))
  have HM27 : Hid (Cls (w25.alloc (.cells #[.string ⟨#[]⟩, .slice (some ⟨g2, 0, none⟩) 1 c2] 50)) _) := Lib.hid (HM26.out.later (below_one _ _))
  clear HB25 HL25 HM26
  have HM28 := Lib.hid (HM27.out.push (Below.refl _ _) (show (w25.alloc (.cells #[.string ⟨#[]⟩, .slice (some ⟨g2, 0, none⟩) 1 c2] 50)).cell? ⟨w25.heap.size, 1, none⟩ = some _ from (Blk.new w25 50 #[.string ⟨#[]⟩, .slice (some ⟨g2, 0, none⟩) 1 c2]).cell 1 (u := .slice (some ⟨g2, 0, none⟩) 1 c2) rfl))
  clear HM27
  go_wp2_with fail
  refine (strc_any cA 6 sX _).mono ?_; rintro e w29 ⟨rfl, b29⟩
  have HB29 := Lib.hid (then_ HB27.out b29)
  have HL29 := Lib.hid (HL27.out.later b29)
  have HM29 := Lib.hid (HM28.out.later b29)
  clear b29 HB27 HL27 HM28
  go_wp2_with fail
  refine (HOf.out _).mono ?_; rintro e w30 ⟨m1, rfl, hr1, b30⟩
  have HB30 := Lib.hid (then_ HB29.out b30)
  have HL30 := Lib.hid (HL29.out.later b30)
  have HM30 := Lib.hid (HM29.out.later b30)
  have HR30 := Lib.hid hr1
  clear hr1
  clear b30 HB29 HL29 HM29
  have HB31 : Hid (Below w.heap.size w (w30.alloc (.cells (rgc m1 r0) 29))) := Lib.hid (HB30.out.alloc HB30.out.size _)
  have HL31 : Hid (Prs (w30.alloc (.cells (rgc m1 r0) 29)) _) := Lib.hid (HL30.out.later (below_one _ _))
  have HM31 : Hid (Cls (w30.alloc (.cells (rgc m1 r0) 29)) _) := Lib.hid (HM30.out.later (below_one _ _))
  clear HB30 HL30 HM30
  have HR32 := Lib.hid (HR30.out.later (below_one _ (.cells (rgc m1 r0) 29)))
  go_wp2_with fail
  refine (HSo.out _ m1 HR32.out).mono ?_; rintro e w33 ⟨rfl, b33⟩
  have HB33 := Lib.hid (then_ HB31.out b33)
  have HL33 := Lib.hid (HL31.out.later b33)
  have HM33 := Lib.hid (HM31.out.later b33)
  clear b33 HB31 HL31 HM31
  have HB34 : Hid (Below w.heap.size w (w33.alloc (.cells #[.int .i64 xk, .int .i64 xn, .string sX0, .bool xb] 25))) := Lib.hid (HB33.out.alloc HB33.out.size _)
  have HL34 : Hid (Prs (w33.alloc (.cells #[.int .i64 xk, .int .i64 xn, .string sX0, .bool xb] 25)) _) := Lib.hid (HL33.out.later (below_one _ _))
  have HM34 : Hid (Cls (w33.alloc (.cells #[.int .i64 xk, .int .i64 xn, .string sX0, .bool xb] 25)) _) := Lib.hid (HM33.out.later (below_one _ _))
  clear HB33 HL33 HM33
  have HM35 := Lib.hid (HM34.out.push (Below.refl _ _) (show (w33.alloc (.cells #[.int .i64 xk, .int .i64 xn, .string sX0, .bool xb] 25)).cell? ⟨w33.heap.size, 2, none⟩ = some _ from (Blk.new w33 25 #[.int .i64 xk, .int .i64 xn, .string sX0, .bool xb]).cell 2 (u := .string sX0) rfl))
  clear HM34
  go_wp2_with fail
  refine (covers_yes _ _ five seven _ (HL34.out.get 7 rfl) (HL34.out.get 6 rfl) r_five r_seven x_1).mono ?_; rintro e w36 ⟨rfl, b36⟩
  have HB36 := Lib.hid (then_ HB34.out b36)
  have HL36 := Lib.hid (HL34.out.later b36)
  have HM36 := Lib.hid (HM35.out.later b36)
  clear b36 HB34 HL34 HM35
  go_wp2_with fail
  refine (covers_no _ _ seven five _ (HL36.out.get 6 rfl) (HL36.out.get 7 rfl) r_seven r_five x_2).mono ?_; rintro e w37 ⟨rfl, b37⟩
  have HB37 := Lib.hid (then_ HB36.out b37)
  have HL37 := Lib.hid (HL36.out.later b37)
  have HM37 := Lib.hid (HM36.out.later b37)
  clear b37 HB36 HL36 HM36
  go_wp2_with fail
  refine (covers_yes _ _ five (setP _) _ (HL37.out.get 7 rfl) (HL37.out.get 5 rfl) r_five (r_set _) (x_3 _)).mono ?_; rintro e w38 ⟨rfl, b38⟩
  have HB38 := Lib.hid (then_ HB37.out b38)
  have HL38 := Lib.hid (HL37.out.later b38)
  have HM38 := Lib.hid (HM37.out.later b38)
  clear b38 HB37 HL37 HM37
  have HB39 : Hid (Below w.heap.size w (w38.alloc (.cells ([cv cA 1 (default)].flatMap encC).toArray 43))) := Lib.hid (HB38.out.alloc HB38.out.size _)
  have HL39 : Hid (Prs (w38.alloc (.cells ([cv cA 1 (default)].flatMap encC).toArray 43)) _) := Lib.hid (HL38.out.push (below_one _ _) (pr_new [cv cA 1 (default)] (s_1 _ _ _) (by simp) _ (w38.heap.size) (by simp)))
  have HM39 : Hid (Cls (w38.alloc (.cells ([cv cA 1 (default)].flatMap encC).toArray 43)) _) := Lib.hid (HM38.out.later (below_one _ _))
  clear HB38 HL38 HM38
  go_wp2_with fail
  refine (con_any cB 2 1 _).mono ?_; rintro e w40 ⟨rfl, b40⟩
  have HB40 := Lib.hid (then_ HB39.out b40)
  have HL40 := Lib.hid (HL39.out.later b40)
  have HM40 := Lib.hid (HM39.out.later b40)
  clear b40 HB39 HL39 HM39
  have HB41 : Hid (Below w.heap.size w (w40.alloc (.cells ([cv cB 2 (numV 1)].flatMap encC).toArray 43))) := Lib.hid (HB40.out.alloc HB40.out.size _)
  have HL41 : Hid (Prs (w40.alloc (.cells ([cv cB 2 (numV 1)].flatMap encC).toArray 43)) _) := Lib.hid (HL40.out.push (below_one _ _) (pr_new [cv cB 2 (numV 1)] (s_1 _ _ _) (by simp) _ (w40.heap.size) (by simp)))
  have HM41 : Hid (Cls (w40.alloc (.cells ([cv cB 2 (numV 1)].flatMap encC).toArray 43)) _) := Lib.hid (HM40.out.later (below_one _ _))
  clear HB40 HL40 HM40
  go_wp2_with fail
  refine (covers_no _ _ hasA' eqB1 _ (HL41.out.get 1 rfl) (HL41.out.get 0 rfl) r_hasA r_eqB1 x_4).mono ?_; rintro e w42 ⟨rfl, b42⟩
  have HB42 := Lib.hid (then_ HB41.out b42)
  have HL42 := Lib.hid (HL41.out.later b42)
  have HM42 := Lib.hid (HM41.out.later b42)
  clear b42 HB41 HL41 HM41
  go_wp2_with fail
  refine (covers_yes _ _ preP wideP _ (HL42.out.get 6 rfl) (HL42.out.get 5 rfl) r_pre r_wide x_5).mono ?_; rintro e w43 ⟨rfl, b43⟩
  have HB43 := Lib.hid (then_ HB42.out b43)
  have HL43 := Lib.hid (HL42.out.later b43)
  have HM43 := Lib.hid (HM42.out.later b43)
  clear b43 HB42 HL42 HM42
  go_wp2_with fail
  refine (covers_yes _ _ wideP preP _ (HL43.out.get 5 rfl) (HL43.out.get 6 rfl) r_wide r_pre x_6).mono ?_; rintro e w44 ⟨rfl, b44⟩
  have HB44 := Lib.hid (then_ HB43.out b44)
  have HL44 := Lib.hid (HL43.out.later b44)
  have HM44 := Lib.hid (HM43.out.later b44)
  clear b44 HB43 HL43 HM43
  go_wp2_with fail
  refine (covers_yes _ _ seven neverP _ (HL44.out.get 8 rfl) (HL44.out.get 4 rfl) r_seven r_never x_7).mono ?_; rintro e w45 ⟨rfl, b45⟩
  have HB45 := Lib.hid (then_ HB44.out b45)
  have HL45 := Lib.hid (HL44.out.later b45)
  have HM45 := Lib.hid (HM44.out.later b45)
  clear b45 HB44 HL44 HM44
  go_wp2_with fail
  refine (covers_yes _ _ [] five _ (cs_nil _) (HL45.out.get 9 rfl) r_none r_five x_8).mono ?_; rintro e w46 ⟨rfl, b46⟩
  have HB46 := Lib.hid (then_ HB45.out b46)
  have HL46 := Lib.hid (HL45.out.later b46)
  have HM46 := Lib.hid (HM45.out.later b46)
  clear b46 HB45 HL45 HM45
  have d1 := HM46.out.get 0 rfl
  have d2 := HM46.out.get 1 rfl
  have d3 := HM46.out.get 2 rfl
  have d4 := HM46.out.get 3 rfl
  have d5 := HM46.out.get 4 rfl
  go_wp2_with fail
  go_ret
  exact ⟨rfl, HB46.out⟩
end Go.Proofs.Ytfjfdajachcnjaa.Gm
