/- CoverKnown, walked. -/
import Derived.Test.YtfjfdajachcnjaaCz
import Derived.Test.YtfjfdajachcnjaaCj
set_option linter.unusedSimpArgs false
set_option linter.unusedVariables false
namespace Go.Proofs.Ytfjfdajachcnjaa.Gm
open Go Go.RowKit
attribute [local go_sem ↓] Go.wp_at_zero Go.wp_at_succ

/-- Blocks in memory; regions in memory. -/
def Bks (w : World) (M : List (Nat × TypeId × Array Value)) : Prop := ∀ x ∈ M, Blk w x.1 x.2.1 x.2.2
theorem Bks.nil (w : World) : Bks w [] := fun x hx => by simp at hx
theorem Bks.later {w w' : World} {M : List (Nat × TypeId × Array Value)} (h : Bks w M) (hb : Below w.heap.size w w') : Bks w' M := fun x hx => (h x hx).later hb
theorem Bks.push {w w' : World} {M : List (Nat × TypeId × Array Value)} (h : Bks w M) (hb : Below w.heap.size w w') {g : Nat} {t : TypeId} {cs : Array Value} (k : Blk w' g t cs) : Bks w' ((g, t, cs) :: M) := fun x hx => by
  rcases List.mem_cons.1 hx with rfl | hx
  · exact k
  · exact (h x hx).later hb
theorem Bks.get {w : World} {M : List (Nat × TypeId × Array Value)} (h : Bks w M) (i : Nat) {x : Nat × TypeId × Array Value} (hi : M[i]? = some x) : Blk w x.1 x.2.1 x.2.2 := h x (List.mem_of_getElem? hi)
theorem blk_new (w : World) (t : TypeId) (cs : Array Value) (G : Nat) (hG : w.heap.size = G) : Blk (w.alloc (.cells cs t)) G t cs := hG ▸ Blk.new w t cs
def Rgs (w : World) (M : List (Rm × Rg)) : Prop := ∀ x ∈ M, RgIn w x.1 x.2
theorem Rgs.nil (w : World) : Rgs w [] := fun x hx => by simp at hx
theorem Rgs.later {w w' : World} {M : List (Rm × Rg)} (h : Rgs w M) (hb : Below w.heap.size w w') : Rgs w' M := fun x hx => (h x hx).later hb
theorem Rgs.push {w w' : World} {M : List (Rm × Rg)} (h : Rgs w M) (hb : Below w.heap.size w w') {m : Rm} {r : Rg} (k : RgIn w' m r) : Rgs w' ((m, r) :: M) := fun x hx => by
  rcases List.mem_cons.1 hx with rfl | hx
  · exact k
  · exact (h x hx).later hb
theorem Rgs.get {w : World} {M : List (Rm × Rg)} (h : Rgs w M) (i : Nat) {x : Rm × Rg} (hi : M[i]? = some x) : RgIn w x.1 x.2 := h x (List.mem_of_getElem? hi)
theorem truth_c (b : Bool) (w : World) : Calls Try.prog 17 #[.bool b] w (Gives (vv (booV b)) w) := by
  go_enter Try.func17, Try.ntmps17
  go_wp2
  exact bodyPost_ret (v := vv (booV b)) (by simp [results, Try.results17, go_sem, booV]) rfl ⟨rfl, below_one _ _⟩
abbrev sF : ByteArray := ⟨#[255, 255]⟩
abbrev sFz : ByteArray := ⟨#[255, 255, 122]⟩
abbrev sF1 : ByteArray := ⟨#[255]⟩
def gapP : List Cn := [cv cA 6 (strV sX), cv cA 4 (strV sX0)]
def topP : List Cn := [cv cA 6 (numV 9223372036854775807)]
def leP : List Cn := [cv cA 5 (booV true)]
def booP (g : Nat) : List Cn := [⟨cA, 9, default, some ⟨g, 0, none⟩, 2, [booV false, booV true]⟩]
theorem m_gap : mayPr gapP = true := may_p2 (may_cv (by decide) (by decide) (by decide) (may_str _ (by decide))) (may_cv (by decide) (by decide) (by decide) (may_str _ (by decide)))
theorem m_top : mayPr topP = true := may_p1 (may_cv (by decide) (by decide) (by decide) (may_num _))
theorem m_le : mayPr leP = true := may_p1 (may_cv (by decide) (by decide) (by decide) (may_boo _))
theorem m_boo (g : Nat) : mayPr (booP g) = true := may_p1 (may_c9 (by decide) (by decide) (by simp [maySt, may_boo]))
theorem n_gap : namesP gapP = [lA] := names_two _ _ rfl
theorem n_top : namesP topP = [lA] := names_one _
theorem n_le : namesP leP = [lA] := names_one _
theorem n_boo (g : Nat) : namesP (booP g) = [lA] := names_one _
theorem r_gap : ∀ c ∈ gapP, RvC c := all_2 (rvc_cv (rv_str _)) (rvc_cv (rv_str _))
theorem r_top : ∀ c ∈ topP, RvC c := all_1 (rvc_cv (rv_num (by decide)))
theorem r_le : ∀ c ∈ leP, RvC c := all_1 (rvc_cv (rv_boo _))
theorem r_boo (g : Nat) : ∀ c ∈ booP g, RvC c := all_1 ⟨rv_def, fun x hx => by
  have hx : x ∈ [booV false, booV true] := hx
  simp only [List.mem_cons, List.not_mem_nil, or_false] at hx
  rcases hx with rfl | rfl
  · exact rv_boo _
  · exact rv_boo _⟩
theorem y_1 : coversB [] gapP = true := cov_eval m_none m_gap names_none n_gap (by kernel_rfl)
theorem y_2 : coversB topP gapP = true := cov_eval m_top m_gap n_top n_gap (by kernel_rfl)
theorem y_3 (g : Nat) : coversB (booP g) hasA' = false := cov_eval (m_boo g) m_hasA (n_boo g) n_hasA (by kernel_rfl)
theorem y_4 (g : Nat) : coversB leP (booP g) = true := cov_eval m_le (m_boo g) n_le (n_boo g) (by kernel_rfl)
theorem k_1 : mayCn (cv cA 6 (numV 9223372036854775807)) = true := may_cv (by decide) (by decide) (by decide) (may_num _)
theorem k_2 : mayCn (cv cA 4 (numV (-9223372036854775808))) = true := may_cv (by decide) (by decide) (by decide) (may_num _)
theorem k_3 : mayCn (cv cA 4 (booV false)) = true := may_cv (by decide) (by decide) (by decide) (may_boo _)
theorem k_4 : mayCn (cv cA 4 (strV ⟨#[]⟩)) = true := may_cv (by decide) (by decide) (by decide) (may_str _ (by decide))
theorem k_5 : mayCn (cv cA 8 (strV sF)) = true := may_c8 (by decide) (by decide) (may_str _ (by decide)) rfl
theorem k_6 : mayCn (cv cA 3 (booV false)) = true := may_cv (by decide) (by decide) (by decide) (may_boo _)
theorem k_7 : mayCn (cv cA 7 (numV (-9223372036854775808))) = true := may_cv (by decide) (by decide) (by decide) (may_num _)
theorem k_9 : mayCn (cv cA 10 default) = false := by simp [mayCn, mayOp]
theorem e_1 : emptyR (regC (cv cA 6 (numV 9223372036854775807))) = true := by kernel_rfl
theorem e_2 : emptyR (regC (cv cA 4 (numV (-9223372036854775808)))) = true := by kernel_rfl
theorem e_3 : emptyR (regC (cv cA 4 (booV false))) = true := by kernel_rfl
theorem e_4 : emptyR (regC (cv cA 4 (strV ⟨#[]⟩))) = true := by kernel_rfl
theorem h_5 : hasR (regC (cv cA 8 (strV sF))) (strV sFz) = true := by kernel_rfl
theorem h_5' : hasR (regC (cv cA 8 (strV sF))) (strV sF1) = false := by kernel_rfl
theorem o_6 : ∃ x : Vl × Bool, someR (regC (cv cA 3 (booV false))) = x ∧ x.1.b = true := ⟨_, rfl, by kernel_rfl⟩
theorem o_7 : ∃ x : Vl × Bool, someR (regC (cv cA 7 (numV (-9223372036854775808)))) = x ∧ x.1.n = -9223372036854775808 := ⟨_, rfl, by kernel_rfl⟩
theorem o_8 : ∃ x : Vl × Bool, someR allR = x ∧ x.1.k = 1 := ⟨_, rfl, by kernel_rfl⟩
theorem all_rg (w : World) : Calls Try.prog 13 #[] w fun e w' => ∃ q, e = .returned (rgv q allR) ∧ RgIn w' q allR ∧ Below w.heap.size w w' :=
  (all_r w).mono fun e w' ⟨q, h1, h2, h3⟩ => ⟨q, h1, h2.rg .all (by omega), h3⟩
set_option maxHeartbeats 32000000 in
set_option maxRecDepth 100000 in
theorem known_any (w : World) : Calls Try.prog 4 #[] w (Gives (.bool true) w) := by
  have HB0 := Lib.hid (Below.refl w.heap.size w)
  have HL0 := Lib.hid (Prs.nil w)
  have HK0 := Lib.hid (Bks.nil w)
  have HG0 := Lib.hid (Rgs.nil w)
  have HOf1 := Lib.hid (fun W => of_yes (cv cA 6 (numV 9223372036854775807)) (rvc_cv (rv_num (by decide))) k_1 W (vs_nil _))
  have HOf2 := Lib.hid (fun W => of_yes (cv cA 4 (numV (-9223372036854775808))) (rvc_cv (rv_num (by decide))) k_2 W (vs_nil _))
  have HOf3 := Lib.hid (fun W => of_yes (cv cA 4 (booV false)) (rvc_cv (rv_boo _)) k_3 W (vs_nil _))
  have HOf4 := Lib.hid (fun W => of_yes (cv cA 4 (strV ⟨#[]⟩)) (rvc_cv (rv_str _)) k_4 W (vs_nil _))
  have HOf5 := Lib.hid (fun W => of_yes (cv cA 8 (strV sF)) (rvc_cv (rv_str _)) k_5 W (vs_nil _))
  have HOf6 := Lib.hid (fun W => of_yes (cv cA 3 (booV false)) (rvc_cv (rv_boo _)) k_6 W (vs_nil _))
  have HOf7 := Lib.hid (fun W => of_yes (cv cA 7 (numV (-9223372036854775808))) (rvc_cv (rv_num (by decide))) k_7 W (vs_nil _))
  have HOf9 := Lib.hid (fun W => of_no (cv cA 10 default) (rvc_cv rv_def) k_9 W (vs_nil _))
  have HEm1 := Lib.hid (fun W m (h : RgIn W m (regC (cv cA 6 (numV 9223372036854775807)))) => empty_any m _ W h)
  rw [e_1] at HEm1
  have HEm2 := Lib.hid (fun W m (h : RgIn W m (regC (cv cA 4 (numV (-9223372036854775808))))) => empty_any m _ W h)
  rw [e_2] at HEm2
  have HEm3 := Lib.hid (fun W m (h : RgIn W m (regC (cv cA 4 (booV false)))) => empty_any m _ W h)
  rw [e_3] at HEm3
  have HEm4 := Lib.hid (fun W m (h : RgIn W m (regC (cv cA 4 (strV ⟨#[]⟩)))) => empty_any m _ W h)
  rw [e_4] at HEm4
  have HHa5 := Lib.hid (fun W m (h : RgIn W m (regC (cv cA 8 (strV sF)))) => has_any m _ (strV sFz) W h)
  rw [h_5] at HHa5
  have HHb5 := Lib.hid (fun W m (h : RgIn W m (regC (cv cA 8 (strV sF)))) => has_any m _ (strV sF1) W h)
  rw [h_5'] at HHb5
  obtain ⟨⟨⟨yk, yn, ys, yb⟩, yi⟩, hy, hyb⟩ := o_6
  have hyb1 : yb = true := hyb
  subst hyb1
  have HSo6 := Lib.hid (fun W m (h : RgIn W m (regC (cv cA 3 (booV false)))) => some_any m _ W h)
  rw [hy] at HSo6
  obtain ⟨⟨⟨zk, zn, zs, zb⟩, zi⟩, hz, hzn⟩ := o_7
  have hzn1 : zn = -9223372036854775808 := hzn
  subst hzn1
  have HSo7 := Lib.hid (fun W m (h : RgIn W m (regC (cv cA 7 (numV (-9223372036854775808))))) => some_any m _ W h)
  rw [hz] at HSo7
  obtain ⟨⟨⟨ak, an, at1, ab⟩, ai⟩, ha, hak⟩ := o_8
  have hak1 : ak = 1 := hak
  subst hak1
  have HAll := Lib.hid (fun W => all_rg W)
  have HSo8 := Lib.hid (fun W m (h : RgIn W m allR) => some_any m _ W h)
  rw [ha] at HSo8
  clear hy hyb hz hzn ha hak
  generalize regC (cv cA 6 (numV 9223372036854775807)) = r1 at HOf1 HEm1
  generalize regC (cv cA 4 (numV (-9223372036854775808))) = r2 at HOf2 HEm2
  generalize regC (cv cA 4 (booV false)) = r3 at HOf3 HEm3
  generalize regC (cv cA 4 (strV ⟨#[]⟩)) = r4 at HOf4 HEm4
  generalize regC (cv cA 8 (strV sF)) = r5 at HOf5 HHa5 HHb5
  generalize regC (cv cA 3 (booV false)) = r6 at HOf6 HSo6
  generalize regC (cv cA 7 (numV (-9223372036854775808))) = r7 at HOf7 HSo7
  generalize allR = r8 at HAll HSo8
  go_enter Try.func4, Try.ntmps4
  go_wp2_with fail
  refine (con_any cA 6 9223372036854775807 _).mono ?_; rintro e w1 ⟨rfl, b1⟩
  have HB1 := Lib.hid (then_ HB0.out b1)
  have HL1 := Lib.hid (HL0.out.later b1)
  have HK1 := Lib.hid (HK0.out.later b1)
  have HG1 := Lib.hid (HG0.out.later b1)
  clear b1 HB0 HL0 HK0 HG0 
  go_wp2_with fail
  refine (con_any cA 4 (-9223372036854775808) _).mono ?_; rintro e w2 ⟨rfl, b2⟩
  have HB2 := Lib.hid (then_ HB1.out b2)
  have HL2 := Lib.hid (HL1.out.later b2)
  have HK2 := Lib.hid (HK1.out.later b2)
  have HG2 := Lib.hid (HG1.out.later b2)
  clear b2 HB1 HL1 HK1 HG1 
  have HB3 : Hid (Below w.heap.size w (w2.alloc (.cells (cnc (cv cA 6 (numV 9223372036854775807))) 43))) := Lib.hid (HB2.out.alloc HB2.out.size _)
  have HL3 : Hid (Prs (w2.alloc (.cells (cnc (cv cA 6 (numV 9223372036854775807))) 43)) _) := Lib.hid (HL2.out.later (below_one _ _))
  have HK3 : Hid (Bks (w2.alloc (.cells (cnc (cv cA 6 (numV 9223372036854775807))) 43)) _) := Lib.hid (HK2.out.push (below_one _ _) (blk_new w2 43 (cnc (cv cA 6 (numV 9223372036854775807))) (w2.heap.size) (by simp)))
  have HG3 : Hid (Rgs (w2.alloc (.cells (cnc (cv cA 6 (numV 9223372036854775807))) 43)) _) := Lib.hid (HG2.out.later (below_one _ _))
  clear HB2 HL2 HK2 HG2
  have HB4 : Hid (Below w.heap.size w ((w2.alloc (.cells (cnc (cv cA 6 (numV 9223372036854775807))) 43)).alloc (.cells (cnc (cv cA 4 (numV (-9223372036854775808)))) 43))) := Lib.hid (HB3.out.alloc HB3.out.size _)
  have HL4 : Hid (Prs ((w2.alloc (.cells (cnc (cv cA 6 (numV 9223372036854775807))) 43)).alloc (.cells (cnc (cv cA 4 (numV (-9223372036854775808)))) 43)) _) := Lib.hid (HL3.out.later (below_one _ _))
  have HK4 : Hid (Bks ((w2.alloc (.cells (cnc (cv cA 6 (numV 9223372036854775807))) 43)).alloc (.cells (cnc (cv cA 4 (numV (-9223372036854775808)))) 43)) _) := Lib.hid (HK3.out.push (below_one _ _) (blk_new (w2.alloc (.cells (cnc (cv cA 6 (numV 9223372036854775807))) 43)) 43 (cnc (cv cA 4 (numV (-9223372036854775808)))) (w2.heap.size + 1) (by simp)))
  have HG4 : Hid (Rgs ((w2.alloc (.cells (cnc (cv cA 6 (numV 9223372036854775807))) 43)).alloc (.cells (cnc (cv cA 4 (numV (-9223372036854775808)))) 43)) _) := Lib.hid (HG3.out.later (below_one _ _))
  clear HB3 HL3 HK3 HG3
  have d5_0 := (HK4.out.get 1 rfl).cell 0 rfl
  have d5_1 := (HK4.out.get 1 rfl).cell 1 rfl
  have d5_2 := (HK4.out.get 1 rfl).cell 2 rfl
  have d5_3 := (HK4.out.get 1 rfl).cell 3 rfl
  have d5_4 := (HK4.out.get 1 rfl).cell 4 rfl
  have d5_5 := (HK4.out.get 1 rfl).cell 5 rfl
  have d5_6 := (HK4.out.get 1 rfl).cell 6 rfl
  go_wp2_with fail
  refine (HOf1.out _).mono ?_; rintro e w6 ⟨m1, rfl, hr1, b6⟩
  have HB6 := Lib.hid (then_ HB4.out b6)
  have HL6 := Lib.hid (HL4.out.later b6)
  have HK6 := Lib.hid (HK4.out.later b6)
  have HG6 := Lib.hid (HG4.out.push b6 hr1)
  clear b6 HB4 HL4 HK4 HG4 d5_0 d5_1 d5_2 d5_3 d5_4 d5_5 d5_6 hr1
  have HB7 : Hid (Below w.heap.size w (w6.alloc (.cells (rgc m1 r1) 29))) := Lib.hid (HB6.out.alloc HB6.out.size _)
  have HL7 : Hid (Prs (w6.alloc (.cells (rgc m1 r1) 29)) _) := Lib.hid (HL6.out.later (below_one _ _))
  have HK7 : Hid (Bks (w6.alloc (.cells (rgc m1 r1) 29)) _) := Lib.hid (HK6.out.push (below_one _ _) (blk_new w6 29 (rgc m1 r1) (w6.heap.size) (by simp)))
  have HG7 : Hid (Rgs (w6.alloc (.cells (rgc m1 r1) 29)) _) := Lib.hid (HG6.out.later (below_one _ _))
  clear HB6 HL6 HK6 HG6
  have d8_0 := (HK7.out.get 1 rfl).cell 0 rfl
  have d8_1 := (HK7.out.get 1 rfl).cell 1 rfl
  have d8_2 := (HK7.out.get 1 rfl).cell 2 rfl
  have d8_3 := (HK7.out.get 1 rfl).cell 3 rfl
  have d8_4 := (HK7.out.get 1 rfl).cell 4 rfl
  have d8_5 := (HK7.out.get 1 rfl).cell 5 rfl
  have d8_6 := (HK7.out.get 1 rfl).cell 6 rfl
  go_wp2_with fail
  refine (HOf2.out _).mono ?_; rintro e w9 ⟨m2, rfl, hr1, b9⟩
  have HB9 := Lib.hid (then_ HB7.out b9)
  have HL9 := Lib.hid (HL7.out.later b9)
  have HK9 := Lib.hid (HK7.out.later b9)
  have HG9 := Lib.hid (HG7.out.push b9 hr1)
  clear b9 HB7 HL7 HK7 HG7 d8_0 d8_1 d8_2 d8_3 d8_4 d8_5 d8_6 hr1
  have HB10 : Hid (Below w.heap.size w (w9.alloc (.cells (rgc m2 r2) 29))) := Lib.hid (HB9.out.alloc HB9.out.size _)
  have HL10 : Hid (Prs (w9.alloc (.cells (rgc m2 r2) 29)) _) := Lib.hid (HL9.out.later (below_one _ _))
  have HK10 : Hid (Bks (w9.alloc (.cells (rgc m2 r2) 29)) _) := Lib.hid (HK9.out.push (below_one _ _) (blk_new w9 29 (rgc m2 r2) (w9.heap.size) (by simp)))
  have HG10 : Hid (Rgs (w9.alloc (.cells (rgc m2 r2) 29)) _) := Lib.hid (HG9.out.later (below_one _ _))
  clear HB9 HL9 HK9 HG9
  go_wp2_with fail
  refine (HOf3.out _).mono ?_; rintro e w11 ⟨m3, rfl, hr1, b11⟩
  have HB11 := Lib.hid (then_ HB10.out b11)
  have HL11 := Lib.hid (HL10.out.later b11)
  have HK11 := Lib.hid (HK10.out.later b11)
  have HG11 := Lib.hid (HG10.out.push b11 hr1)
  clear b11 HB10 HL10 HK10 HG10  hr1
  have HB12 : Hid (Below w.heap.size w (w11.alloc (.cells (rgc m3 r3) 29))) := Lib.hid (HB11.out.alloc HB11.out.size _)
  have HL12 : Hid (Prs (w11.alloc (.cells (rgc m3 r3) 29)) _) := Lib.hid (HL11.out.later (below_one _ _))
  have HK12 : Hid (Bks (w11.alloc (.cells (rgc m3 r3) 29)) _) := Lib.hid (HK11.out.push (below_one _ _) (blk_new w11 29 (rgc m3 r3) (w11.heap.size) (by simp)))
  have HG12 : Hid (Rgs (w11.alloc (.cells (rgc m3 r3) 29)) _) := Lib.hid (HG11.out.later (below_one _ _))
  clear HB11 HL11 HK11 HG11
  go_wp2_with fail
  refine (strc_any cA 4 ⟨#[]⟩ _).mono ?_; rintro e w13 ⟨rfl, b13⟩
  have HB13 := Lib.hid (then_ HB12.out b13)
  have HL13 := Lib.hid (HL12.out.later b13)
  have HK13 := Lib.hid (HK12.out.later b13)
  have HG13 := Lib.hid (HG12.out.later b13)
  clear b13 HB12 HL12 HK12 HG12 
  go_wp2_with fail
  refine (HOf4.out _).mono ?_; rintro e w14 ⟨m4, rfl, hr1, b14⟩
  have HB14 := Lib.hid (then_ HB13.out b14)
  have HL14 := Lib.hid (HL13.out.later b14)
  have HK14 := Lib.hid (HK13.out.later b14)
  have HG14 := Lib.hid (HG13.out.push b14 hr1)
  clear b14 HB13 HL13 HK13 HG13  hr1
  have HB15 : Hid (Below w.heap.size w (w14.alloc (.cells (rgc m4 r4) 29))) := Lib.hid (HB14.out.alloc HB14.out.size _)
  have HL15 : Hid (Prs (w14.alloc (.cells (rgc m4 r4) 29)) _) := Lib.hid (HL14.out.later (below_one _ _))
  have HK15 : Hid (Bks (w14.alloc (.cells (rgc m4 r4) 29)) _) := Lib.hid (HK14.out.push (below_one _ _) (blk_new w14 29 (rgc m4 r4) (w14.heap.size) (by simp)))
  have HG15 : Hid (Rgs (w14.alloc (.cells (rgc m4 r4) 29)) _) := Lib.hid (HG14.out.later (below_one _ _))
  clear HB14 HL14 HK14 HG14
  go_wp2_with fail
  refine (strc_any cA 8 sF _).mono ?_; rintro e w16 ⟨rfl, b16⟩
  have HB16 := Lib.hid (then_ HB15.out b16)
  have HL16 := Lib.hid (HL15.out.later b16)
  have HK16 := Lib.hid (HK15.out.later b16)
  have HG16 := Lib.hid (HG15.out.later b16)
  clear b16 HB15 HL15 HK15 HG15 
  go_wp2_with fail
  refine (HOf5.out _).mono ?_; rintro e w17 ⟨m5, rfl, hr1, b17⟩
  have HB17 := Lib.hid (then_ HB16.out b17)
  have HL17 := Lib.hid (HL16.out.later b17)
  have HK17 := Lib.hid (HK16.out.later b17)
  have HG17 := Lib.hid (HG16.out.push b17 hr1)
  clear b17 HB16 HL16 HK16 HG16  hr1
  have HB18 : Hid (Below w.heap.size w (w17.alloc (.cells (rgc m5 r5) 29))) := Lib.hid (HB17.out.alloc HB17.out.size _)
  have HL18 : Hid (Prs (w17.alloc (.cells (rgc m5 r5) 29)) _) := Lib.hid (HL17.out.later (below_one _ _))
  have HK18 : Hid (Bks (w17.alloc (.cells (rgc m5 r5) 29)) _) := Lib.hid (HK17.out.push (below_one _ _) (blk_new w17 29 (rgc m5 r5) (w17.heap.size) (by simp)))
  have HG18 : Hid (Rgs (w17.alloc (.cells (rgc m5 r5) 29)) _) := Lib.hid (HG17.out.later (below_one _ _))
  clear HB17 HL17 HK17 HG17
  go_wp2_with fail
  refine (HOf6.out _).mono ?_; rintro e w19 ⟨m6, rfl, hr1, b19⟩
  have HB19 := Lib.hid (then_ HB18.out b19)
  have HL19 := Lib.hid (HL18.out.later b19)
  have HK19 := Lib.hid (HK18.out.later b19)
  have HG19 := Lib.hid (HG18.out.push b19 hr1)
  clear b19 HB18 HL18 HK18 HG18  hr1
  have HB20 : Hid (Below w.heap.size w (w19.alloc (.cells (rgc m6 r6) 29))) := Lib.hid (HB19.out.alloc HB19.out.size _)
  have HL20 : Hid (Prs (w19.alloc (.cells (rgc m6 r6) 29)) _) := Lib.hid (HL19.out.later (below_one _ _))
  have HK20 : Hid (Bks (w19.alloc (.cells (rgc m6 r6) 29)) _) := Lib.hid (HK19.out.push (below_one _ _) (blk_new w19 29 (rgc m6 r6) (w19.heap.size) (by simp)))
  have HG20 : Hid (Rgs (w19.alloc (.cells (rgc m6 r6) 29)) _) := Lib.hid (HG19.out.later (below_one _ _))
  clear HB19 HL19 HK19 HG19
  go_wp2_with fail
  refine (con_any cA 7 (-9223372036854775808) _).mono ?_; rintro e w21 ⟨rfl, b21⟩
  have HB21 := Lib.hid (then_ HB20.out b21)
  have HL21 := Lib.hid (HL20.out.later b21)
  have HK21 := Lib.hid (HK20.out.later b21)
  have HG21 := Lib.hid (HG20.out.later b21)
  clear b21 HB20 HL20 HK20 HG20 
  go_wp2_with fail
  refine (HOf7.out _).mono ?_; rintro e w22 ⟨m7, rfl, hr1, b22⟩
  have HB22 := Lib.hid (then_ HB21.out b22)
  have HL22 := Lib.hid (HL21.out.later b22)
  have HK22 := Lib.hid (HK21.out.later b22)
  have HG22 := Lib.hid (HG21.out.push b22 hr1)
  clear b22 HB21 HL21 HK21 HG21  hr1
  have HB23 : Hid (Below w.heap.size w (w22.alloc (.cells (rgc m7 r7) 29))) := Lib.hid (HB22.out.alloc HB22.out.size _)
  have HL23 : Hid (Prs (w22.alloc (.cells (rgc m7 r7) 29)) _) := Lib.hid (HL22.out.later (below_one _ _))
  have HK23 : Hid (Bks (w22.alloc (.cells (rgc m7 r7) 29)) _) := Lib.hid (HK22.out.push (below_one _ _) (blk_new w22 29 (rgc m7 r7) (w22.heap.size) (by simp)))
  have HG23 : Hid (Rgs (w22.alloc (.cells (rgc m7 r7) 29)) _) := Lib.hid (HG22.out.later (below_one _ _))
  clear HB22 HL22 HK22 HG22
  have d24_0 := (HK23.out.get 6 rfl).cell 0 rfl
  have d24_1 := (HK23.out.get 6 rfl).cell 1 rfl
  have d24_2 := (HK23.out.get 6 rfl).cell 2 rfl
  have d24_3 := (HK23.out.get 6 rfl).cell 3 rfl
  go_wp2_with fail
  refine (HEm1.out _ _ (HG23.out.get 6 rfl)).mono ?_; rintro e w25 ⟨rfl, b25⟩
  have HB25 := Lib.hid (then_ HB23.out b25)
  have HL25 := Lib.hid (HL23.out.later b25)
  have HK25 := Lib.hid (HK23.out.later b25)
  have HG25 := Lib.hid (HG23.out.later b25)
  clear b25 HB23 HL23 HK23 HG23 d24_0 d24_1 d24_2 d24_3
  have d26_0 := (HK25.out.get 5 rfl).cell 0 rfl
  have d26_1 := (HK25.out.get 5 rfl).cell 1 rfl
  have d26_2 := (HK25.out.get 5 rfl).cell 2 rfl
  have d26_3 := (HK25.out.get 5 rfl).cell 3 rfl
  go_wp2_with fail
  refine (HEm2.out _ _ (HG25.out.get 5 rfl)).mono ?_; rintro e w27 ⟨rfl, b27⟩
  have HB27 := Lib.hid (then_ HB25.out b27)
  have HL27 := Lib.hid (HL25.out.later b27)
  have HK27 := Lib.hid (HK25.out.later b27)
  have HG27 := Lib.hid (HG25.out.later b27)
  clear b27 HB25 HL25 HK25 HG25 d26_0 d26_1 d26_2 d26_3
  have d28_0 := (HK27.out.get 4 rfl).cell 0 rfl
  have d28_1 := (HK27.out.get 4 rfl).cell 1 rfl
  have d28_2 := (HK27.out.get 4 rfl).cell 2 rfl
  have d28_3 := (HK27.out.get 4 rfl).cell 3 rfl
  go_wp2_with fail
  refine (HEm3.out _ _ (HG27.out.get 4 rfl)).mono ?_; rintro e w29 ⟨rfl, b29⟩
  have HB29 := Lib.hid (then_ HB27.out b29)
  have HL29 := Lib.hid (HL27.out.later b29)
  have HK29 := Lib.hid (HK27.out.later b29)
  have HG29 := Lib.hid (HG27.out.later b29)
  clear b29 HB27 HL27 HK27 HG27 d28_0 d28_1 d28_2 d28_3
  have d30_0 := (HK29.out.get 3 rfl).cell 0 rfl
  have d30_1 := (HK29.out.get 3 rfl).cell 1 rfl
  have d30_2 := (HK29.out.get 3 rfl).cell 2 rfl
  have d30_3 := (HK29.out.get 3 rfl).cell 3 rfl
  go_wp2_with fail
  refine (HEm4.out _ _ (HG29.out.get 3 rfl)).mono ?_; rintro e w31 ⟨rfl, b31⟩
  have HB31 := Lib.hid (then_ HB29.out b31)
  have HL31 := Lib.hid (HL29.out.later b31)
  have HK31 := Lib.hid (HK29.out.later b31)
  have HG31 := Lib.hid (HG29.out.later b31)
  clear b31 HB29 HL29 HK29 HG29 d30_0 d30_1 d30_2 d30_3
  have d32_0 := (HK31.out.get 1 rfl).cell 0 rfl
  have d32_1 := (HK31.out.get 1 rfl).cell 1 rfl
  have d32_2 := (HK31.out.get 1 rfl).cell 2 rfl
  have d32_3 := (HK31.out.get 1 rfl).cell 3 rfl
  go_wp2_with fail
  refine (HSo6.out _ _ (HG31.out.get 1 rfl)).mono ?_; rintro e w33 ⟨rfl, b33⟩
  have HB33 := Lib.hid (then_ HB31.out b33)
  have HL33 := Lib.hid (HL31.out.later b33)
  have HK33 := Lib.hid (HK31.out.later b33)
  have HG33 := Lib.hid (HG31.out.later b33)
  clear b33 HB31 HL31 HK31 HG31 d32_0 d32_1 d32_2 d32_3
  have HB34 : Hid (Below w.heap.size w (w33.alloc (.cells #[.int .i64 yk, .int .i64 yn, .string ys, .bool true] 25))) := Lib.hid (HB33.out.alloc HB33.out.size _)
  have HL34 : Hid (Prs (w33.alloc (.cells #[.int .i64 yk, .int .i64 yn, .string ys, .bool true] 25)) _) := Lib.hid (HL33.out.later (below_one _ _))
  have HK34 : Hid (Bks (w33.alloc (.cells #[.int .i64 yk, .int .i64 yn, .string ys, .bool true] 25)) _) := Lib.hid (HK33.out.push (below_one _ _) (blk_new w33 25 #[.int .i64 yk, .int .i64 yn, .string ys, .bool true] (w33.heap.size) (by simp)))
  have HG34 : Hid (Rgs (w33.alloc (.cells #[.int .i64 yk, .int .i64 yn, .string ys, .bool true] 25)) _) := Lib.hid (HG33.out.later (below_one _ _))
  clear HB33 HL33 HK33 HG33
  have d35_0 := (HK34.out.get 1 rfl).cell 0 rfl
  have d35_1 := (HK34.out.get 1 rfl).cell 1 rfl
  have d35_2 := (HK34.out.get 1 rfl).cell 2 rfl
  have d35_3 := (HK34.out.get 1 rfl).cell 3 rfl
  go_wp2_with fail
  refine (HSo7.out _ _ (HG34.out.get 0 rfl)).mono ?_; rintro e w36 ⟨rfl, b36⟩
  have HB36 := Lib.hid (then_ HB34.out b36)
  have HL36 := Lib.hid (HL34.out.later b36)
  have HK36 := Lib.hid (HK34.out.later b36)
  have HG36 := Lib.hid (HG34.out.later b36)
  clear b36 HB34 HL34 HK34 HG34 d35_0 d35_1 d35_2 d35_3
  have HB37 : Hid (Below w.heap.size w (w36.alloc (.cells #[.int .i64 zk, .int .i64 (-9223372036854775808), .string zs, .bool zb] 25))) := Lib.hid (HB36.out.alloc HB36.out.size _)
  have HL37 : Hid (Prs (w36.alloc (.cells #[.int .i64 zk, .int .i64 (-9223372036854775808), .string zs, .bool zb] 25)) _) := Lib.hid (HL36.out.later (below_one _ _))
  have HK37 : Hid (Bks (w36.alloc (.cells #[.int .i64 zk, .int .i64 (-9223372036854775808), .string zs, .bool zb] 25)) _) := Lib.hid (HK36.out.push (below_one _ _) (blk_new w36 25 #[.int .i64 zk, .int .i64 (-9223372036854775808), .string zs, .bool zb] (w36.heap.size) (by simp)))
  have HG37 : Hid (Rgs (w36.alloc (.cells #[.int .i64 zk, .int .i64 (-9223372036854775808), .string zs, .bool zb] 25)) _) := Lib.hid (HG36.out.later (below_one _ _))
  clear HB36 HL36 HK36 HG36
  go_wp2_with fail
  refine (HAll.out _).mono ?_; rintro e w38 ⟨m8, rfl, hr1, b38⟩
  have HB38 := Lib.hid (then_ HB37.out b38)
  have HL38 := Lib.hid (HL37.out.later b38)
  have HK38 := Lib.hid (HK37.out.later b38)
  have HG38 := Lib.hid (HG37.out.push b38 hr1)
  clear b38 HB37 HL37 HK37 HG37  hr1
  go_wp2_with fail
  refine (HSo8.out _ _ (HG38.out.get 0 rfl)).mono ?_; rintro e w39 ⟨rfl, b39⟩
  have HB39 := Lib.hid (then_ HB38.out b39)
  have HL39 := Lib.hid (HL38.out.later b39)
  have HK39 := Lib.hid (HK38.out.later b39)
  have HG39 := Lib.hid (HG38.out.later b39)
  clear b39 HB38 HL38 HK38 HG38 
  have HB40 : Hid (Below w.heap.size w (w39.alloc (.cells #[.int .i64 1, .int .i64 an, .string at1, .bool ab] 25))) := Lib.hid (HB39.out.alloc HB39.out.size _)
  have HL40 : Hid (Prs (w39.alloc (.cells #[.int .i64 1, .int .i64 an, .string at1, .bool ab] 25)) _) := Lib.hid (HL39.out.later (below_one _ _))
  have HK40 : Hid (Bks (w39.alloc (.cells #[.int .i64 1, .int .i64 an, .string at1, .bool ab] 25)) _) := Lib.hid (HK39.out.push (below_one _ _) (blk_new w39 25 #[.int .i64 1, .int .i64 an, .string at1, .bool ab] (w39.heap.size) (by simp)))
  have HG40 : Hid (Rgs (w39.alloc (.cells #[.int .i64 1, .int .i64 an, .string at1, .bool ab] 25)) _) := Lib.hid (HG39.out.later (below_one _ _))
  clear HB39 HL39 HK39 HG39
  go_wp2_with fail
  refine (HOf9.out _).mono ?_; rintro e w41 ⟨m9, rfl, hr1, b41⟩
  have HB41 := Lib.hid (then_ HB40.out b41)
  have HL41 := Lib.hid (HL40.out.later b41)
  have HK41 := Lib.hid (HK40.out.later b41)
  have HG41 := Lib.hid (HG40.out.push b41 hr1)
  clear b41 HB40 HL40 HK40 HG40  hr1
  have HB42 : Hid (Below w.heap.size w (w41.alloc (.cells (rgc m9 zeroR) 29))) := Lib.hid (HB41.out.alloc HB41.out.size _)
  have HL42 : Hid (Prs (w41.alloc (.cells (rgc m9 zeroR) 29)) _) := Lib.hid (HL41.out.later (below_one _ _))
  have HK42 : Hid (Bks (w41.alloc (.cells (rgc m9 zeroR) 29)) _) := Lib.hid (HK41.out.later (below_one _ _))
  have HG42 : Hid (Rgs (w41.alloc (.cells (rgc m9 zeroR) 29)) _) := Lib.hid (HG41.out.later (below_one _ _))
  clear HB41 HL41 HK41 HG41
  go_wp2_with fail
  refine (strc_any cA 6 sX _).mono ?_; rintro e w43 ⟨rfl, b43⟩
  have HB43 := Lib.hid (then_ HB42.out b43)
  have HL43 := Lib.hid (HL42.out.later b43)
  have HK43 := Lib.hid (HK42.out.later b43)
  have HG43 := Lib.hid (HG42.out.later b43)
  clear b43 HB42 HL42 HK42 HG42 
  go_wp2_with fail
  refine (strc_any cA 4 sX0 _).mono ?_; rintro e w44 ⟨rfl, b44⟩
  have HB44 := Lib.hid (then_ HB43.out b44)
  have HL44 := Lib.hid (HL43.out.later b44)
  have HK44 := Lib.hid (HK43.out.later b44)
  have HG44 := Lib.hid (HG43.out.later b44)
  clear b44 HB43 HL43 HK43 HG43 
  have HB45 : Hid (Below w.heap.size w (w44.alloc (.cells ([cv cA 6 (strV sX), cv cA 4 (strV sX0)].flatMap encC).toArray 43))) := Lib.hid (HB44.out.alloc HB44.out.size _)
  have HL45 : Hid (Prs (w44.alloc (.cells ([cv cA 6 (strV sX), cv cA 4 (strV sX0)].flatMap encC).toArray 43)) _) := Lib.hid (HL44.out.push (below_one _ _) (pr_new [cv cA 6 (strV sX), cv cA 4 (strV sX0)] (s_2 _ _ _ _ _ _) (by simp) _ (w44.heap.size) (by simp)))
  have HK45 : Hid (Bks (w44.alloc (.cells ([cv cA 6 (strV sX), cv cA 4 (strV sX0)].flatMap encC).toArray 43)) _) := Lib.hid (HK44.out.later (below_one _ _))
  have HG45 : Hid (Rgs (w44.alloc (.cells ([cv cA 6 (strV sX), cv cA 4 (strV sX0)].flatMap encC).toArray 43)) _) := Lib.hid (HG44.out.later (below_one _ _))
  clear HB44 HL44 HK44 HG44
  go_wp2_with fail
  refine (truth_c false _).mono ?_; rintro e w46 ⟨rfl, b46⟩
  have HB46 := Lib.hid (then_ HB45.out b46)
  have HL46 := Lib.hid (HL45.out.later b46)
  have HK46 := Lib.hid (HK45.out.later b46)
  have HG46 := Lib.hid (HG45.out.later b46)
  clear b46 HB45 HL45 HK45 HG45 
  go_wp2_with fail
  refine (truth_c true _).mono ?_; rintro e w47 ⟨rfl, b47⟩
  have HB47 := Lib.hid (then_ HB46.out b47)
  have HL47 := Lib.hid (HL46.out.later b47)
  have HK47 := Lib.hid (HK46.out.later b47)
  have HG47 := Lib.hid (HG46.out.later b47)
  clear b47 HB46 HL46 HK46 HG46 
  have HV48 := Lib.hid (vals_new [booV false, booV true] (by simp) w47)
  have HB49 : Hid (Below w.heap.size w (w47.alloc (.cells ([booV false, booV true].flatMap encV).toArray 25))) := Lib.hid (HB47.out.alloc HB47.out.size _)
  have HL49 : Hid (Prs (w47.alloc (.cells ([booV false, booV true].flatMap encV).toArray 25)) _) := Lib.hid (HL47.out.later (below_one _ _))
  have HK49 : Hid (Bks (w47.alloc (.cells ([booV false, booV true].flatMap encV).toArray 25)) _) := Lib.hid (HK47.out.later (below_one _ _))
  have HG49 : Hid (Rgs (w47.alloc (.cells ([booV false, booV true].flatMap encV).toArray 25)) _) := Lib.hid (HG47.out.later (below_one _ _))
  clear HB47 HL47 HK47 HG47
  have HB50 : Hid (Below w.heap.size w ((w47.alloc (.cells ([booV false, booV true].flatMap encV).toArray 25)).alloc (.cells ([(⟨cA, 9, default, some ⟨w47.heap.size, 0, none⟩, 2, [booV false, booV true]⟩ : Cn)].flatMap encC).toArray 43))) := Lib.hid (HB49.out.alloc HB49.out.size _)
  have HL50 : Hid (Prs ((w47.alloc (.cells ([booV false, booV true].flatMap encV).toArray 25)).alloc (.cells ([(⟨cA, 9, default, some ⟨w47.heap.size, 0, none⟩, 2, [booV false, booV true]⟩ : Cn)].flatMap encC).toArray 43)) _) := Lib.hid (HL49.out.push (below_one _ _) (pr_set cA 9 default (some ⟨w47.heap.size, 0, none⟩) 2 [booV false, booV true] _ HV48.out (w47.heap.size + 1) (by simp)))
  have HK50 : Hid (Bks ((w47.alloc (.cells ([booV false, booV true].flatMap encV).toArray 25)).alloc (.cells ([(⟨cA, 9, default, some ⟨w47.heap.size, 0, none⟩, 2, [booV false, booV true]⟩ : Cn)].flatMap encC).toArray 43)) _) := Lib.hid (HK49.out.later (below_one _ _))
  have HG50 : Hid (Rgs ((w47.alloc (.cells ([booV false, booV true].flatMap encV).toArray 25)).alloc (.cells ([(⟨cA, 9, default, some ⟨w47.heap.size, 0, none⟩, 2, [booV false, booV true]⟩ : Cn)].flatMap encC).toArray 43)) _) := Lib.hid (HG49.out.later (below_one _ _))
  clear HB49 HL49 HK49 HG49
  clear HV48
  go_wp2_with fail
  refine (counter_no _ _ [] gapP _ (cs_nil _) (HL50.out.get 1 rfl) r_none r_gap m_none m_gap y_1).mono ?_; rintro e w51 ⟨rfl, b51⟩
  have HB51 := Lib.hid (then_ HB50.out b51)
  have HL51 := Lib.hid (HL50.out.later b51)
  have HK51 := Lib.hid (HK50.out.later b51)
  have HG51 := Lib.hid (HG50.out.later b51)
  clear b51 HB50 HL50 HK50 HG50 
  have HB52 : Hid (Below w.heap.size w (w51.alloc (.cells #[.string ⟨#[]⟩, .slice none 0 0] 50))) := Lib.hid (HB51.out.alloc HB51.out.size _)
  have HL52 : Hid (Prs (w51.alloc (.cells #[.string ⟨#[]⟩, .slice none 0 0] 50)) _) := Lib.hid (HL51.out.later (below_one _ _))
  have HK52 : Hid (Bks (w51.alloc (.cells #[.string ⟨#[]⟩, .slice none 0 0] 50)) _) := Lib.hid (HK51.out.later (below_one _ _))
  have HG52 : Hid (Rgs (w51.alloc (.cells #[.string ⟨#[]⟩, .slice none 0 0] 50)) _) := Lib.hid (HG51.out.later (below_one _ _))
  clear HB51 HL51 HK51 HG51
  have d53_0 := (HK52.out.get 5 rfl).cell 0 rfl
  have d53_1 := (HK52.out.get 5 rfl).cell 1 rfl
  have d53_2 := (HK52.out.get 5 rfl).cell 2 rfl
  have d53_3 := (HK52.out.get 5 rfl).cell 3 rfl
  go_wp2_with fail
  refine (HHa5.out _ _ (HG52.out.get 4 rfl)).mono ?_; rintro e w54 ⟨rfl, b54⟩
  have HB54 := Lib.hid (then_ HB52.out b54)
  have HL54 := Lib.hid (HL52.out.later b54)
  have HK54 := Lib.hid (HK52.out.later b54)
  have HG54 := Lib.hid (HG52.out.later b54)
  clear b54 HB52 HL52 HK52 HG52 d53_0 d53_1 d53_2 d53_3
  have d55_0 := (HK54.out.get 5 rfl).cell 0 rfl
  have d55_1 := (HK54.out.get 5 rfl).cell 1 rfl
  have d55_2 := (HK54.out.get 5 rfl).cell 2 rfl
  have d55_3 := (HK54.out.get 5 rfl).cell 3 rfl
  go_wp2_with fail
  refine (HHb5.out _ _ (HG54.out.get 4 rfl)).mono ?_; rintro e w56 ⟨rfl, b56⟩
  have HB56 := Lib.hid (then_ HB54.out b56)
  have HL56 := Lib.hid (HL54.out.later b56)
  have HK56 := Lib.hid (HK54.out.later b56)
  have HG56 := Lib.hid (HG54.out.later b56)
  clear b56 HB54 HL54 HK54 HG54 d55_0 d55_1 d55_2 d55_3
  have d57_0 := (HK56.out.get 2 rfl).cell 0 rfl
  have d57_1 := (HK56.out.get 2 rfl).cell 1 rfl
  have d57_2 := (HK56.out.get 2 rfl).cell 2 rfl
  have d57_3 := (HK56.out.get 2 rfl).cell 3 rfl
  have d58_0 := (HK56.out.get 1 rfl).cell 0 rfl
  have d58_1 := (HK56.out.get 1 rfl).cell 1 rfl
  have d58_2 := (HK56.out.get 1 rfl).cell 2 rfl
  have d58_3 := (HK56.out.get 1 rfl).cell 3 rfl
  have d59_0 := (HK56.out.get 0 rfl).cell 0 rfl
  have d59_1 := (HK56.out.get 0 rfl).cell 1 rfl
  have d59_2 := (HK56.out.get 0 rfl).cell 2 rfl
  have d59_3 := (HK56.out.get 0 rfl).cell 3 rfl
  have d60_0 := (HK56.out.get 11 rfl).cell 0 rfl
  have d60_1 := (HK56.out.get 11 rfl).cell 1 rfl
  have d60_2 := (HK56.out.get 11 rfl).cell 2 rfl
  have d60_3 := (HK56.out.get 11 rfl).cell 3 rfl
  have d60_4 := (HK56.out.get 11 rfl).cell 4 rfl
  have d60_5 := (HK56.out.get 11 rfl).cell 5 rfl
  have d60_6 := (HK56.out.get 11 rfl).cell 6 rfl
  have HB61 : Hid (Below w.heap.size w (w56.alloc (.cells ([cv cA 6 (numV 9223372036854775807)].flatMap encC).toArray 43))) := Lib.hid (HB56.out.alloc HB56.out.size _)
  have HL61 : Hid (Prs (w56.alloc (.cells ([cv cA 6 (numV 9223372036854775807)].flatMap encC).toArray 43)) _) := Lib.hid (HL56.out.push (below_one _ _) (pr_new [cv cA 6 (numV 9223372036854775807)] (s_1 _ _ _) (by simp) _ (w56.heap.size) (by simp)))
  have HK61 : Hid (Bks (w56.alloc (.cells ([cv cA 6 (numV 9223372036854775807)].flatMap encC).toArray 43)) _) := Lib.hid (HK56.out.later (below_one _ _))
  have HG61 : Hid (Rgs (w56.alloc (.cells ([cv cA 6 (numV 9223372036854775807)].flatMap encC).toArray 43)) _) := Lib.hid (HG56.out.later (below_one _ _))
  clear HB56 HL56 HK56 HG56
  go_wp2_with fail
  refine (covers_yes _ _ topP gapP _ (HL61.out.get 0 rfl) (HL61.out.get 2 rfl) r_top r_gap y_2).mono ?_; rintro e w62 ⟨rfl, b62⟩
  have HB62 := Lib.hid (then_ HB61.out b62)
  have HL62 := Lib.hid (HL61.out.later b62)
  have HK62 := Lib.hid (HK61.out.later b62)
  have HG62 := Lib.hid (HG61.out.later b62)
  clear b62 HB61 HL61 HK61 HG61 d57_0 d57_1 d57_2 d57_3 d58_0 d58_1 d58_2 d58_3 d59_0 d59_1 d59_2 d59_3 d60_0 d60_1 d60_2 d60_3 d60_4 d60_5 d60_6
  have HB63 : Hid (Below w.heap.size w (w62.alloc (.cells ([cv cA 1 (default)].flatMap encC).toArray 43))) := Lib.hid (HB62.out.alloc HB62.out.size _)
  have HL63 : Hid (Prs (w62.alloc (.cells ([cv cA 1 (default)].flatMap encC).toArray 43)) _) := Lib.hid (HL62.out.push (below_one _ _) (pr_new [cv cA 1 (default)] (s_1 _ _ _) (by simp) _ (w62.heap.size) (by simp)))
  have HK63 : Hid (Bks (w62.alloc (.cells ([cv cA 1 (default)].flatMap encC).toArray 43)) _) := Lib.hid (HK62.out.later (below_one _ _))
  have HG63 : Hid (Rgs (w62.alloc (.cells ([cv cA 1 (default)].flatMap encC).toArray 43)) _) := Lib.hid (HG62.out.later (below_one _ _))
  clear HB62 HL62 HK62 HG62
  go_wp2_with fail
  refine (covers_no _ _ (booP _) hasA' _ (HL63.out.get 2 rfl) (HL63.out.get 0 rfl) (r_boo _) r_hasA (y_3 _)).mono ?_; rintro e w64 ⟨rfl, b64⟩
  have HB64 := Lib.hid (then_ HB63.out b64)
  have HL64 := Lib.hid (HL63.out.later b64)
  have HK64 := Lib.hid (HK63.out.later b64)
  have HG64 := Lib.hid (HG63.out.later b64)
  clear b64 HB63 HL63 HK63 HG63 
  go_wp2_with fail
  refine (truth_c true _).mono ?_; rintro e w65 ⟨rfl, b65⟩
  have HB65 := Lib.hid (then_ HB64.out b65)
  have HL65 := Lib.hid (HL64.out.later b65)
  have HK65 := Lib.hid (HK64.out.later b65)
  have HG65 := Lib.hid (HG64.out.later b65)
  clear b65 HB64 HL64 HK64 HG64 
  have HB66 : Hid (Below w.heap.size w (w65.alloc (.cells ([cv cA 5 (booV true)].flatMap encC).toArray 43))) := Lib.hid (HB65.out.alloc HB65.out.size _)
  have HL66 : Hid (Prs (w65.alloc (.cells ([cv cA 5 (booV true)].flatMap encC).toArray 43)) _) := Lib.hid (HL65.out.push (below_one _ _) (pr_new [cv cA 5 (booV true)] (s_1 _ _ _) (by simp) _ (w65.heap.size) (by simp)))
  have HK66 : Hid (Bks (w65.alloc (.cells ([cv cA 5 (booV true)].flatMap encC).toArray 43)) _) := Lib.hid (HK65.out.later (below_one _ _))
  have HG66 : Hid (Rgs (w65.alloc (.cells ([cv cA 5 (booV true)].flatMap encC).toArray 43)) _) := Lib.hid (HG65.out.later (below_one _ _))
  clear HB65 HL65 HK65 HG65
  go_wp2_with fail
  refine (covers_yes _ _ leP (booP _) _ (HL66.out.get 0 rfl) (HL66.out.get 3 rfl) r_le (r_boo _) (y_4 _)).mono ?_; rintro e w67 ⟨rfl, b67⟩
  have HB67 := Lib.hid (then_ HB66.out b67)
  have HL67 := Lib.hid (HL66.out.later b67)
  have HK67 := Lib.hid (HK66.out.later b67)
  have HG67 := Lib.hid (HG66.out.later b67)
  clear b67 HB66 HL66 HK66 HG66 
  go_wp2_with fail
  refine (wakes_any _).mono ?_; rintro e w68 ⟨rfl, b68⟩
  have HB68 := Lib.hid (then_ HB67.out b68)
  have HL68 := Lib.hid (HL67.out.later b68)
  have HK68 := Lib.hid (HK67.out.later b68)
  have HG68 := Lib.hid (HG67.out.later b68)
  clear b68 HB67 HL67 HK67 HG67 
  go_wp2_with fail
  go_ret
  exact ⟨rfl, HB68.out⟩
end Go.Proofs.Ytfjfdajachcnjaa.Gm
