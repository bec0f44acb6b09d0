/- Small functions of layer 6's statements; their first question, walked. -/
import Derived.Test.YtggcboejdihdiaaOh
set_option linter.unusedSimpArgs false
set_option linter.unusedVariables false
namespace Go.Proofs.Ytggcboejdihdiaa.Gm
open Go Go.RowKit
attribute [local go_sem ↓] Go.wp_at_zero Go.wp_at_succ

set_option maxHeartbeats 4000000 in
set_option maxRecDepth 20000 in
theorem con_any (nm : ByteArray) (op : Int) (n : Int) (w : World) : Calls Try.prog 18 #[.string nm, .int .i64 op, .int .i64 n] w (Gives (cc (cv nm op (numV n))) w) := by
  have HZ := Lib.hid (Blk.new w 34 zCn)
  have HB0 := Lib.hid (below_one w (.cells zCn 34))
  go_enter Try.func18, Try.ntmps18
  go_wp2_with fail
  refine (num_any n _).mono ?_; rintro e w1 ⟨rfl, b1⟩
  have HZ1 := Lib.hid (HZ.out.later b1)
  have HB1 := Lib.hid (then_ HB0.out b1)
  clear b1
  have z0 := HZ1.out.cell 0 rfl
  have z1 := HZ1.out.cell 1 rfl
  have z2 := HZ1.out.cell 2 rfl
  have z3 := HZ1.out.cell 3 rfl
  have z4 := HZ1.out.cell 4 rfl
  have z5 := HZ1.out.cell 5 rfl
  have z6 := HZ1.out.cell 6 rfl
  have f0 := HZ1.out.free 0
  have f1 := HZ1.out.free 1
  have f2 := HZ1.out.free 2
  have f3 := HZ1.out.free 3
  have f4 := HZ1.out.free 4
  have f5 := HZ1.out.free 5
  have f6 := HZ1.out.free 6
  go_wp2_with fail
  exact post_cn (c := cv nm op (numV n)) HZ1.out (fun W hW => by have e0 := hW.cell 0 rfl; have e1 := hW.cell 1 rfl; have e2 := hW.cell 2 rfl; have e3 := hW.cell 3 rfl; have e4 := hW.cell 4 rfl; have e5 := hW.cell 5 rfl; have e6 := hW.cell 6 rfl; clear HZ HB0 HZ1 HB1 z0 f0 z1 f1 z2 f2 z3 f3 z4 f4 z5 f5 z6 f6; simp [results, Try.results18, go_sem, e0, e1, e2, e3, e4, e5, e6]) rfl ⟨rfl, (same7 _ _ _).below HB1.out HB1.out.size (Nat.le_refl _)⟩
set_option maxHeartbeats 4000000 in
set_option maxRecDepth 20000 in
theorem strc_any (nm : ByteArray) (op : Int) (s : ByteArray) (w : World) : Calls Try.prog 16 #[.string nm, .int .i64 op, .string s] w (Gives (cc (cv nm op (strV s))) w) := by
  have HZ := Lib.hid (Blk.new w 34 zCn)
  have HB0 := Lib.hid (below_one w (.cells zCn 34))
  go_enter Try.func16, Try.ntmps16
  go_wp2_with fail
  refine (str_any s _).mono ?_; rintro e w1 ⟨rfl, b1⟩
  have HZ1 := Lib.hid (HZ.out.later b1)
  have HB1 := Lib.hid (then_ HB0.out b1)
  clear b1
  have z0 := HZ1.out.cell 0 rfl
  have z1 := HZ1.out.cell 1 rfl
  have z2 := HZ1.out.cell 2 rfl
  have z3 := HZ1.out.cell 3 rfl
  have z4 := HZ1.out.cell 4 rfl
  have z5 := HZ1.out.cell 5 rfl
  have z6 := HZ1.out.cell 6 rfl
  have f0 := HZ1.out.free 0
  have f1 := HZ1.out.free 1
  have f2 := HZ1.out.free 2
  have f3 := HZ1.out.free 3
  have f4 := HZ1.out.free 4
  have f5 := HZ1.out.free 5
  have f6 := HZ1.out.free 6
  go_wp2_with fail
  exact post_cn (c := cv nm op (strV s)) HZ1.out (fun W hW => by have e0 := hW.cell 0 rfl; have e1 := hW.cell 1 rfl; have e2 := hW.cell 2 rfl; have e3 := hW.cell 3 rfl; have e4 := hW.cell 4 rfl; have e5 := hW.cell 5 rfl; have e6 := hW.cell 6 rfl; clear HZ HB0 HZ1 HB1 z0 f0 z1 f1 z2 f2 z3 f3 z4 f4 z5 f5 z6 f6; simp [results, Try.results16, go_sem, e0, e1, e2, e3, e4, e5, e6]) rfl ⟨rfl, (same7 _ _ _).below HB1.out HB1.out.size (Nat.le_refl _)⟩
theorem over_yes (v v' : Value) (p q : List Cn) (w : World) (hP : Cs w v p) (hQ : Cs w v' q) (rp : ∀ c ∈ p, RvC c) (rq : ∀ c ∈ q, RvC c) (h : overB p q = true) : Calls Try.prog 6 #[v, v'] w (Gives (.bool true) w) := by have := overlaps_any v v' p q w hP hQ rp rq; rwa [h] at this
theorem over_no (v v' : Value) (p q : List Cn) (w : World) (hP : Cs w v p) (hQ : Cs w v' q) (rp : ∀ c ∈ p, RvC c) (rq : ∀ c ∈ q, RvC c) (h : overB p q = false) : Calls Try.prog 6 #[v, v'] w (Gives (.bool false) w) := by have := overlaps_any v v' p q w hP hQ rp rq; rwa [h] at this
theorem anyo_yes (v : Value) (p : List Cn) (w : World) (hP : Cs w v p) (rp : ∀ c ∈ p, RvC c) (h : overB p [] = true) : Calls Try.prog 8 #[v] w (Gives (.bool true) w) := by have := any_any v p w hP rp; rwa [h] at this
theorem anyo_no (v : Value) (p : List Cn) (w : World) (hP : Cs w v p) (rp : ∀ c ∈ p, RvC c) (h : overB p [] = false) : Calls Try.prog 8 #[v] w (Gives (.bool false) w) := by have := any_any v p w hP rp; rwa [h] at this
theorem r_o5 : ∀ c ∈ o5, RvC c := all_1 (rvc_cv (rv_num (by decide)))
theorem r_o7 : ∀ c ∈ o7, RvC c := all_1 (rvc_cv (rv_num (by decide)))
theorem r_o6 : ∀ c ∈ o6, RvC c := all_1 (rvc_cv (rv_num (by decide)))
theorem r_oe : ∀ c ∈ oe, RvC c := all_1 (rvc_cv (rv_num (by decide)))
theorem r_oh : ∀ c ∈ oh, RvC c := all_1 (rvc_cv rv_def)
theorem r_ox : ∀ c ∈ ox, RvC c := all_1 (rvc_cv (rv_str _))
theorem r_op : ∀ c ∈ op, RvC c := all_1 (rvc_cv (rv_str _))
theorem r_ol : ∀ c ∈ ol, RvC c := all_1 (rvc_cv (rv_str _))
theorem r_oc : ∀ c ∈ oc, RvC c := all_1 (rvc_cv (rv_str _))
theorem r_ob : ∀ c ∈ ob, RvC c := all_1 (rvc_cv (rv_str _))
theorem r_on : ∀ c ∈ on, RvC c := all_2 (rvc_cv (rv_num (by decide))) (rvc_cv (rv_num (by decide)))
theorem r_oA : ∀ c ∈ oA, RvC c := all_2 (rvc_cv (rv_num (by decide))) (rvc_cv rv_def)
theorem r_oB : ∀ c ∈ oB, RvC c := all_2 (rvc_cv (rv_num (by decide))) (rvc_cv (rv_num (by decide)))
/-- The example's two attributes. -/
theorem ex_cells : ∃ L : List Value, (exL o5 ob).flatMap (encX o5 ob) = L ∧ L[2]? = some (.int .i64 6) ∧ L[8]? = some (.string sX) := by
  refine ⟨_, rfl, ?_, ?_⟩
  · rw [y_ex]
    show some (Value.int .i64 (someR (bothR o5 ob lA)).1.n) = _
    rw [y_a]; rfl
  · rw [y_ex]
    show some (Value.string (someR (bothR o5 ob lB)).1.s) = _
    rw [bytes_eq (b := sX) y_b]
theorem ex_ob (v v' : Value) (w : World) (hP : Cs w v o5) (hQ : Cs w v' ob) : Calls Try.prog 17 #[v, v'] w fun e w' => ∃ g c, e = .returned (.tuple #[.agg #[.string ⟨#[]⟩, .slice (some ⟨g, 0, none⟩) 2 c], .bool true]) ∧ Below w.heap.size w w' ∧ w'.cell? ⟨g, 2, none⟩ = some (.int .i64 6) ∧ w'.cell? ⟨g, 8, none⟩ = some (.string sX) :=
  (example_any v v' o5 ob w hP hQ r_o5 r_ob).mono fun e w' ⟨u, h1, h2, h3⟩ => by
    obtain ⟨L, hL, h4, h5⟩ := ex_cells
    rw [hL, y_ex] at h2
    rw [y_9] at h1
    obtain ⟨g, c, rfl⟩ := ownsRow_succ (k := 1) h2
    exact ⟨g, c, h1, h3, own_cell h2 2 (by decide) h4, own_cell h2 8 (by decide) h5⟩
theorem ap_ab (v v' : Value) (w : World) (hP : Cs w v oA) (hQ : Cs w v' oB) : Calls Try.prog 11 #[v, v'] w (Gives (.tuple #[.string cA, .bool true]) w) := by
  have := apart_any v v' oA oB w hP hQ r_oA r_oB
  rw [y_ap] at this
  exact this
set_option maxHeartbeats 16000000 in
set_option maxRecDepth 100000 in
theorem wakes_any (w : World) : Calls Try.prog 10 #[] w (Gives (.bool true) w) := by
  have HB0 := Lib.hid (Below.refl w.heap.size w)
  have HL0 := Lib.hid (Prs.nil w)
  have HM0 := Lib.hid (Cls.nil w)
  go_enter Try.func10, Try.ntmps10
  go_wp2_with fail
  refine (con_any cA 6 5 _).mono ?_; rintro e w1 ⟨rfl, b1⟩
  have HB1 := Lib.hid (then_ HB0.out b1)
  have HL1 := Lib.hid (HL0.out.later b1)
  have HM1 := Lib.hid (HM0.out.later b1)
  clear b1 HB0 HL0 HM0
  have HB2 : Hid (Below w.heap.size w (w1.alloc (.cells ([cv cA 6 (numV 5)].flatMap encC).toArray 34))) := Lib.hid (HB1.out.alloc HB1.out.size _)
  have HL2 : Hid (Prs (w1.alloc (.cells ([cv cA 6 (numV 5)].flatMap encC).toArray 34)) _) := Lib.hid (HL1.out.push (below_one _ _) (pr_new [cv cA 6 (numV 5)] (s_1 _ _ _) (by simp) _ (w1.heap.size) (by simp)))
  have HM2 : Hid (Cls (w1.alloc (.cells ([cv cA 6 (numV 5)].flatMap encC).toArray 34)) _) := Lib.hid (HM1.out.later (below_one _ _))
  clear HB1 HL1 HM1
  go_wp2_with fail
  refine (strc_any cS 8 sAb _).mono ?_; rintro e w3 ⟨rfl, b3⟩
  have HB3 := Lib.hid (then_ HB2.out b3)
  have HL3 := Lib.hid (HL2.out.later b3)
  have HM3 := Lib.hid (HM2.out.later b3)
  clear b3 HB2 HL2 HM2
  have HB4 : Hid (Below w.heap.size w (w3.alloc (.cells ([cv cS 8 (strV sAb)].flatMap encC).toArray 34))) := Lib.hid (HB3.out.alloc HB3.out.size _)
  have HL4 : Hid (Prs (w3.alloc (.cells ([cv cS 8 (strV sAb)].flatMap encC).toArray 34)) _) := Lib.hid (HL3.out.push (below_one _ _) (pr_new [cv cS 8 (strV sAb)] (s_1 _ _ _) (by simp) _ (w3.heap.size) (by simp)))
  have HM4 : Hid (Cls (w3.alloc (.cells ([cv cS 8 (strV sAb)].flatMap encC).toArray 34)) _) := Lib.hid (HM3.out.later (below_one _ _))
  clear HB3 HL3 HM3
  go_wp2_with fail
  refine (strc_any cB 8 sX _).mono ?_; rintro e w5 ⟨rfl, b5⟩
  have HB5 := Lib.hid (then_ HB4.out b5)
  have HL5 := Lib.hid (HL4.out.later b5)
  have HM5 := Lib.hid (HM4.out.later b5)
  clear b5 HB4 HL4 HM4
  have HB6 : Hid (Below w.heap.size w (w5.alloc (.cells ([cv cB 8 (strV sX)].flatMap encC).toArray 34))) := Lib.hid (HB5.out.alloc HB5.out.size _)
  have HL6 : Hid (Prs (w5.alloc (.cells ([cv cB 8 (strV sX)].flatMap encC).toArray 34)) _) := Lib.hid (HL5.out.push (below_one _ _) (pr_new [cv cB 8 (strV sX)] (s_1 _ _ _) (by simp) _ (w5.heap.size) (by simp)))
  have HM6 : Hid (Cls (w5.alloc (.cells ([cv cB 8 (strV sX)].flatMap encC).toArray 34)) _) := Lib.hid (HM5.out.later (below_one _ _))
  clear HB5 HL5 HM5
  go_wp2_with fail
  refine (ex_ob _ _ _ (HL6.out.get 2 rfl) (HL6.out.get 0 rfl)).mono ?_; rintro e w7 ⟨g1, c1, rfl, b7, ha1, ha2⟩
  have HB7 := Lib.hid (then_ HB6.out b7)
  have HL7 := Lib.hid (HL6.out.later b7)
  have HM7 := Lib.hid (HM6.out.later b7)
  clear b7 HB6 HL6 HM6
  have HM8 := Lib.hid (HM7.out.push (Below.refl _ _) (show w7.cell? ⟨g1, 2, none⟩ = some _ from ha1))
  clear HM7
  have HM9 := Lib.hid (HM8.out.push (Below.refl _ _) (show w7.cell? ⟨g1, 8, none⟩ = some _ from ha2))
  clear HM8
  clear ha1 ha2
  have HB10 : Hid (Below w.heap.size w (w7.alloc (.cells #[.string ⟨#[]⟩, .slice (some ⟨g1, 0, none⟩) 2 c1] 47))) := Lib.hid (HB7.out.alloc HB7.out.size _)
  have HL10 : Hid (Prs (w7.alloc (.cells #[.string ⟨#[]⟩, .slice (some ⟨g1, 0, none⟩) 2 c1] 47)) _) := Lib.hid (HL7.out.later (below_one _ _))
  have HM10 : Hid (Cls (w7.alloc (.cells #[.string ⟨#[]⟩, .slice (some ⟨g1, 0, none⟩) 2 c1] 47)) _) := Lib.hid (HM9.out.later (below_one _ _))
  clear HB7 HL7 HM9
  have HM11 := Lib.hid (HM10.out.push (Below.refl _ _) (show (w7.alloc (.cells #[.string ⟨#[]⟩, .slice (some ⟨g1, 0, none⟩) 2 c1] 47)).cell? ⟨w7.heap.size, 1, none⟩ = some _ from (Blk.new w7 47 #[.string ⟨#[]⟩, .slice (some ⟨g1, 0, none⟩) 2 c1]).cell 1 (u := .slice (some ⟨g1, 0, none⟩) 2 c1) rfl))
  clear HM10
  go_wp2_with fail
  refine (con_any cA 6 5 _).mono ?_; rintro e w12 ⟨rfl, b12⟩
  have HB12 := Lib.hid (then_ HB10.out b12)
  have HL12 := Lib.hid (HL10.out.later b12)
  have HM12 := Lib.hid (HM11.out.later b12)
  clear b12 HB10 HL10 HM11
  have HB13 : Hid (Below w.heap.size w (w12.alloc (.cells ([cv cA 6 (numV 5), cv cB 1 (default)].flatMap encC).toArray 34))) := Lib.hid (HB12.out.alloc HB12.out.size _)
  have HL13 : Hid (Prs (w12.alloc (.cells ([cv cA 6 (numV 5), cv cB 1 (default)].flatMap encC).toArray 34)) _) := Lib.hid (HL12.out.push (below_one _ _) (pr_new [cv cA 6 (numV 5), cv cB 1 (default)] (s_2 _ _ _ _ _ _) (by simp) _ (w12.heap.size) (by simp)))
  have HM13 : Hid (Cls (w12.alloc (.cells ([cv cA 6 (numV 5), cv cB 1 (default)].flatMap encC).toArray 34)) _) := Lib.hid (HM12.out.later (below_one _ _))
  clear HB12 HL12 HM12
  go_wp2_with fail
  refine (con_any cB 2 1 _).mono ?_; rintro e w14 ⟨rfl, b14⟩
  have HB14 := Lib.hid (then_ HB13.out b14)
  have HL14 := Lib.hid (HL13.out.later b14)
  have HM14 := Lib.hid (HM13.out.later b14)
  clear b14 HB13 HL13 HM13
  go_wp2_with fail
  refine (con_any cA 4 3 _).mono ?_; rintro e w15 ⟨rfl, b15⟩
  have HB15 := Lib.hid (then_ HB14.out b15)
  have HL15 := Lib.hid (HL14.out.later b15)
  have HM15 := Lib.hid (HM14.out.later b15)
  clear b15 HB14 HL14 HM14
  have HB16 : Hid (Below w.heap.size w (w15.alloc (.cells ([cv cB 2 (numV 1), cv cA 4 (numV 3)].flatMap encC).toArray 34))) := Lib.hid (HB15.out.alloc HB15.out.size _)
  have HL16 : Hid (Prs (w15.alloc (.cells ([cv cB 2 (numV 1), cv cA 4 (numV 3)].flatMap encC).toArray 34)) _) := Lib.hid (HL15.out.push (below_one _ _) (pr_new [cv cB 2 (numV 1), cv cA 4 (numV 3)] (s_2 _ _ _ _ _ _) (by simp) _ (w15.heap.size) (by simp)))
  have HM16 : Hid (Cls (w15.alloc (.cells ([cv cB 2 (numV 1), cv cA 4 (numV 3)].flatMap encC).toArray 34)) _) := Lib.hid (HM15.out.later (below_one _ _))
  clear HB15 HL15 HM15
  go_wp2_with fail
  refine (ap_ab _ _ _ (HL16.out.get 1 rfl) (HL16.out.get 0 rfl)).mono ?_; rintro e w17 ⟨rfl, b17⟩
  have HB17 := Lib.hid (then_ HB16.out b17)
  have HL17 := Lib.hid (HL16.out.later b17)
  have HM17 := Lib.hid (HM16.out.later b17)
  clear b17 HB16 HL16 HM16
  go_wp2_with fail
  refine (con_any cA 4 7 _).mono ?_; rintro e w18 ⟨rfl, b18⟩
  have HB18 := Lib.hid (then_ HB17.out b18)
  have HL18 := Lib.hid (HL17.out.later b18)
  have HM18 := Lib.hid (HM17.out.later b18)
  clear b18 HB17 HL17 HM17
  have HB19 : Hid (Below w.heap.size w (w18.alloc (.cells ([cv cA 4 (numV 7)].flatMap encC).toArray 34))) := Lib.hid (HB18.out.alloc HB18.out.size _)
  have HL19 : Hid (Prs (w18.alloc (.cells ([cv cA 4 (numV 7)].flatMap encC).toArray 34)) _) := Lib.hid (HL18.out.push (below_one _ _) (pr_new [cv cA 4 (numV 7)] (s_1 _ _ _) (by simp) _ (w18.heap.size) (by simp)))
  have HM19 : Hid (Cls (w18.alloc (.cells ([cv cA 4 (numV 7)].flatMap encC).toArray 34)) _) := Lib.hid (HM18.out.later (below_one _ _))
  clear HB18 HL18 HM18
  go_wp2_with fail
  refine (over_yes _ _ o5 o7 _ (HL19.out.get 5 rfl) (HL19.out.get 0 rfl) r_o5 r_o7 y_1).mono ?_; rintro e w20 ⟨rfl, b20⟩
  have HB20 := Lib.hid (then_ HB19.out b20)
  have HL20 := Lib.hid (HL19.out.later b20)
  have HM20 := Lib.hid (HM19.out.later b20)
  clear b20 HB19 HL19 HM19
  go_wp2_with fail
  refine (con_any cA 4 6 _).mono ?_; rintro e w21 ⟨rfl, b21⟩
  have HB21 := Lib.hid (then_ HB20.out b21)
  have HL21 := Lib.hid (HL20.out.later b21)
  have HM21 := Lib.hid (HM20.out.later b21)
  clear b21 HB20 HL20 HM20
  have HB22 : Hid (Below w.heap.size w (w21.alloc (.cells ([cv cA 4 (numV 6)].flatMap encC).toArray 34))) := Lib.hid (HB21.out.alloc HB21.out.size _)
  have HL22 : Hid (Prs (w21.alloc (.cells ([cv cA 4 (numV 6)].flatMap encC).toArray 34)) _) := Lib.hid (HL21.out.push (below_one _ _) (pr_new [cv cA 4 (numV 6)] (s_1 _ _ _) (by simp) _ (w21.heap.size) (by simp)))
  have HM22 : Hid (Cls (w21.alloc (.cells ([cv cA 4 (numV 6)].flatMap encC).toArray 34)) _) := Lib.hid (HM21.out.later (below_one _ _))
  clear HB21 HL21 HM21
  go_wp2_with fail
  refine (over_no _ _ o5 o6 _ (HL22.out.get 6 rfl) (HL22.out.get 0 rfl) r_o5 r_o6 y_2).mono ?_; rintro e w23 ⟨rfl, b23⟩
  have HB23 := Lib.hid (then_ HB22.out b23)
  have HL23 := Lib.hid (HL22.out.later b23)
  have HM23 := Lib.hid (HM22.out.later b23)
  clear b23 HB22 HL22 HM22
  go_wp2_with fail
  refine (con_any cA 2 1 _).mono ?_; rintro e w24 ⟨rfl, b24⟩
  have HB24 := Lib.hid (then_ HB23.out b24)
  have HL24 := Lib.hid (HL23.out.later b24)
  have HM24 := Lib.hid (HM23.out.later b24)
  clear b24 HB23 HL23 HM23
  have HB25 : Hid (Below w.heap.size w (w24.alloc (.cells ([cv cA 2 (numV 1)].flatMap encC).toArray 34))) := Lib.hid (HB24.out.alloc HB24.out.size _)
  have HL25 : Hid (Prs (w24.alloc (.cells ([cv cA 2 (numV 1)].flatMap encC).toArray 34)) _) := Lib.hid (HL24.out.push (below_one _ _) (pr_new [cv cA 2 (numV 1)] (s_1 _ _ _) (by simp) _ (w24.heap.size) (by simp)))
  have HM25 : Hid (Cls (w24.alloc (.cells ([cv cA 2 (numV 1)].flatMap encC).toArray 34)) _) := Lib.hid (HM24.out.later (below_one _ _))
  clear HB24 HL24 HM24
  go_wp2_with fail
  refine (strc_any cB 2 sX _).mono ?_; rintro e w26 ⟨rfl, b26⟩
  have HB26 := Lib.hid (then_ HB25.out b26)
  have HL26 := Lib.hid (HL25.out.later b26)
  have HM26 := Lib.hid (HM25.out.later b26)
  clear b26 HB25 HL25 HM25
  have HB27 : Hid (Below w.heap.size w (w26.alloc (.cells ([cv cB 2 (strV sX)].flatMap encC).toArray 34))) := Lib.hid (HB26.out.alloc HB26.out.size _)
  have HL27 : Hid (Prs (w26.alloc (.cells ([cv cB 2 (strV sX)].flatMap encC).toArray 34)) _) := Lib.hid (HL26.out.push (below_one _ _) (pr_new [cv cB 2 (strV sX)] (s_1 _ _ _) (by simp) _ (w26.heap.size) (by simp)))
  have HM27 : Hid (Cls (w26.alloc (.cells ([cv cB 2 (strV sX)].flatMap encC).toArray 34)) _) := Lib.hid (HM26.out.later (below_one _ _))
  clear HB26 HL26 HM26
  go_wp2_with fail
  refine (over_yes _ _ oe ox _ (HL27.out.get 1 rfl) (HL27.out.get 0 rfl) r_oe r_ox y_3).mono ?_; rintro e w28 ⟨rfl, b28⟩
  have HB28 := Lib.hid (then_ HB27.out b28)
  have HL28 := Lib.hid (HL27.out.later b28)
  have HM28 := Lib.hid (HM27.out.later b28)
  clear b28 HB27 HL27 HM27
  go_wp2_with fail
  refine (con_any cA 2 1 _).mono ?_; rintro e w29 ⟨rfl, b29⟩
  have HB29 := Lib.hid (then_ HB28.out b29)
  have HL29 := Lib.hid (HL28.out.later b29)
  have HM29 := Lib.hid (HM28.out.later b29)
  clear b29 HB28 HL28 HM28
  have HB30 : Hid (Below w.heap.size w (w29.alloc (.cells ([cv cA 2 (numV 1)].flatMap encC).toArray 34))) := Lib.hid (HB29.out.alloc HB29.out.size _)
  have HL30 : Hid (Prs (w29.alloc (.cells ([cv cA 2 (numV 1)].flatMap encC).toArray 34)) _) := Lib.hid (HL29.out.push (below_one _ _) (pr_new [cv cA 2 (numV 1)] (s_1 _ _ _) (by simp) _ (w29.heap.size) (by simp)))
  have HM30 : Hid (Cls (w29.alloc (.cells ([cv cA 2 (numV 1)].flatMap encC).toArray 34)) _) := Lib.hid (HM29.out.later (below_one _ _))
  clear HB29 HL29 HM29
  have HB31 : Hid (Below w.heap.size w ((w29.alloc (.cells ([cv cA 2 (numV 1)].flatMap encC).toArray 34)).alloc (.cells ([cv cA 1 (default)].flatMap encC).toArray 34))) := Lib.hid (HB30.out.alloc HB30.out.size _)
  have HL31 : Hid (Prs ((w29.alloc (.cells ([cv cA 2 (numV 1)].flatMap encC).toArray 34)).alloc (.cells ([cv cA 1 (default)].flatMap encC).toArray 34)) _) := Lib.hid (HL30.out.push (below_one _ _) (pr_new [cv cA 1 (default)] (s_1 _ _ _) (by simp) _ (w29.heap.size + 1) (by simp)))
  have HM31 : Hid (Cls ((w29.alloc (.cells ([cv cA 2 (numV 1)].flatMap encC).toArray 34)).alloc (.cells ([cv cA 1 (default)].flatMap encC).toArray 34)) _) := Lib.hid (HM30.out.later (below_one _ _))
  clear HB30 HL30 HM30
  go_wp2_with fail
  refine (over_yes _ _ oe oh _ (HL31.out.get 1 rfl) (HL31.out.get 0 rfl) r_oe r_oh y_4).mono ?_; rintro e w32 ⟨rfl, b32⟩
  have HB32 := Lib.hid (then_ HB31.out b32)
  have HL32 := Lib.hid (HL31.out.later b32)
  have HM32 := Lib.hid (HM31.out.later b32)
  clear b32 HB31 HL31 HM31
  go_wp2_with fail
  refine (strc_any cS 4 sAb _).mono ?_; rintro e w33 ⟨rfl, b33⟩
  have HB33 := Lib.hid (then_ HB32.out b33)
  have HL33 := Lib.hid (HL32.out.later b33)
  have HM33 := Lib.hid (HM32.out.later b33)
  clear b33 HB32 HL32 HM32
  have HB34 : Hid (Below w.heap.size w (w33.alloc (.cells ([cv cS 4 (strV sAb)].flatMap encC).toArray 34))) := Lib.hid (HB33.out.alloc HB33.out.size _)
  have HL34 : Hid (Prs (w33.alloc (.cells ([cv cS 4 (strV sAb)].flatMap encC).toArray 34)) _) := Lib.hid (HL33.out.push (below_one _ _) (pr_new [cv cS 4 (strV sAb)] (s_1 _ _ _) (by simp) _ (w33.heap.size) (by simp)))
  have HM34 : Hid (Cls (w33.alloc (.cells ([cv cS 4 (strV sAb)].flatMap encC).toArray 34)) _) := Lib.hid (HM33.out.later (below_one _ _))
  clear HB33 HL33 HM33
  go_wp2_with fail
  refine (over_no _ _ op ol _ (HL34.out.get 10 rfl) (HL34.out.get 0 rfl) r_op r_ol y_5).mono ?_; rintro e w35 ⟨rfl, b35⟩
  have HB35 := Lib.hid (then_ HB34.out b35)
  have HL35 := Lib.hid (HL34.out.later b35)
  have HM35 := Lib.hid (HM34.out.later b35)
  clear b35 HB34 HL34 HM34
  go_wp2_with fail
  refine (strc_any cS 8 ⟨#[97, 98, 99]⟩ _).mono ?_; rintro e w36 ⟨rfl, b36⟩
  have HB36 := Lib.hid (then_ HB35.out b36)
  have HL36 := Lib.hid (HL35.out.later b36)
  have HM36 := Lib.hid (HM35.out.later b36)
  clear b36 HB35 HL35 HM35
  have HB37 : Hid (Below w.heap.size w (w36.alloc (.cells ([cv cS 8 (strV ⟨#[97, 98, 99]⟩)].flatMap encC).toArray 34))) := Lib.hid (HB36.out.alloc HB36.out.size _)
  have HL37 : Hid (Prs (w36.alloc (.cells ([cv cS 8 (strV ⟨#[97, 98, 99]⟩)].flatMap encC).toArray 34)) _) := Lib.hid (HL36.out.push (below_one _ _) (pr_new [cv cS 8 (strV ⟨#[97, 98, 99]⟩)] (s_1 _ _ _) (by simp) _ (w36.heap.size) (by simp)))
  have HM37 : Hid (Cls (w36.alloc (.cells ([cv cS 8 (strV ⟨#[97, 98, 99]⟩)].flatMap encC).toArray 34)) _) := Lib.hid (HM36.out.later (below_one _ _))
  clear HB36 HL36 HM36
  go_wp2_with fail
  refine (over_yes _ _ op oc _ (HL37.out.get 11 rfl) (HL37.out.get 0 rfl) r_op r_oc y_6).mono ?_; rintro e w38 ⟨rfl, b38⟩
  have HB38 := Lib.hid (then_ HB37.out b38)
  have HL38 := Lib.hid (HL37.out.later b38)
  have HM38 := Lib.hid (HM37.out.later b38)
  clear b38 HB37 HL37 HM37
  have d1 := HM38.out.get 0 rfl
  have d2 := HM38.out.get 1 rfl
  have d3 := HM38.out.get 2 rfl
  go_wp2_with fail
  refine (anyo_yes _ o5 _ (HL38.out.get 12 rfl) r_o5 y_7).mono ?_; rintro e w39 ⟨rfl, b39⟩
  have HB39 := Lib.hid (then_ HB38.out b39)
  have HL39 := Lib.hid (HL38.out.later b39)
  have HM39 := Lib.hid (HM38.out.later b39)
  clear b39 HB38 HL38 HM38
  go_wp2_with fail
  refine (con_any cA 2 1 _).mono ?_; rintro e w40 ⟨rfl, b40⟩
  have HB40 := Lib.hid (then_ HB39.out b40)
  have HL40 := Lib.hid (HL39.out.later b40)
  have HM40 := Lib.hid (HM39.out.later b40)
  clear b40 HB39 HL39 HM39
  go_wp2_with fail
  refine (con_any cA 2 2 _).mono ?_; rintro e w41 ⟨rfl, b41⟩
  have HB41 := Lib.hid (then_ HB40.out b41)
  have HL41 := Lib.hid (HL40.out.later b41)
  have HM41 := Lib.hid (HM40.out.later b41)
  clear b41 HB40 HL40 HM40
  have HB42 : Hid (Below w.heap.size w (w41.alloc (.cells ([cv cA 2 (numV 1), cv cA 2 (numV 2)].flatMap encC).toArray 34))) := Lib.hid (HB41.out.alloc HB41.out.size _)
  have HL42 : Hid (Prs (w41.alloc (.cells ([cv cA 2 (numV 1), cv cA 2 (numV 2)].flatMap encC).toArray 34)) _) := Lib.hid (HL41.out.push (below_one _ _) (pr_new [cv cA 2 (numV 1), cv cA 2 (numV 2)] (s_2 _ _ _ _ _ _) (by simp) _ (w41.heap.size) (by simp)))
  have HM42 : Hid (Cls (w41.alloc (.cells ([cv cA 2 (numV 1), cv cA 2 (numV 2)].flatMap encC).toArray 34)) _) := Lib.hid (HM41.out.later (below_one _ _))
  clear HB41 HL41 HM41
  go_wp2_with fail
  refine (anyo_no _ on _ (HL42.out.get 0 rfl) r_on y_8).mono ?_; rintro e w43 ⟨rfl, b43⟩
  have HB43 := Lib.hid (then_ HB42.out b43)
  have HL43 := Lib.hid (HL42.out.later b43)
  have HM43 := Lib.hid (HM42.out.later b43)
  clear b43 HB42 HL42 HM42
  go_wp2_with fail
  go_ret
  exact ⟨rfl, HB43.out⟩
end Go.Proofs.Ytggcboejdihdiaa.Gm
