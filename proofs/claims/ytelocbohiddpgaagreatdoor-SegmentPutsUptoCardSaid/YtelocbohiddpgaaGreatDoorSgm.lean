/- Layer 12: the chapter's rows that each statement asks first: awake. -/
import Derived.Test.YtelocbohiddpgaaGreatDoorSgk
import Derived.Test.YtelocbohiddpgaaGreatDoorSgh
import Derived.Test.YtelocbohiddpgaaGreatDoorGd
import Derived.Test.YtelocbohiddpgaaGreatDoorWro
set_option linter.unusedSimpArgs false
set_option linter.unusedVariables false
namespace Go.Proofs.YtelocbohiddpgaaGreatDoor.Crc
open Go Go.RowKit Gm
attribute [local go_sem ↓] Go.wp_at_zero Go.wp_at_succ

/-- What the calls ask of the listed variables. -/
def Env12 (w : World) : Prop := Env w ∧ PartsIs w ∧ EnvN w
theorem Env12.below {w w' : World} (h : Env12 w) (hb : Below w.heap.size w w') : Env12 w' := ⟨h.1.below hb, h.2.1.below hb, h.2.2.below hb⟩
theorem SplitS.is {L : List UInt8} {first : Nat} {w : World} {e : Ending} {w' : World} (h : SplitS L first w e w') {l : List Rc} (hl : segL L first = l) : ∃ p c, e = .returned (.tuple #[.slice p l.length c, .int .i64 (wholeS l : Nat)]) ∧ RowS w' (.slice p l.length c) l ∧ Below w.heap.size w w' := by
  obtain ⟨v, ys, rfl, h1, h2, h3, hb⟩ := h
  rw [hl] at h1 ⊢
  obtain ⟨p, c, rfl⟩ := own_shape h2
  have e : ys.length = l.length := by rw [← h1, List.length_map]
  have hr := rowS_own h2 (fun y hy => (h3 y hy).bs)
  rw [h1, e] at hr
  rw [e]
  exact ⟨p, c, rfl, hr, hb⟩
theorem rowS_at {w : World} {p : Option Addr} {n c : Nat} {l : List Rc} (h : RowS w (.slice p n c) l) {k : Nat} (hk : k < l.length) : ∃ b o vj, p = some ⟨b, o, none⟩ ∧ b < w.heap.size ∧ w.cell? ⟨b, o + k * 2, none⟩ = some (.int .u64 ((l.getD k default).n : Int)) ∧ w.cell? ⟨b, o + k * 2 + 1, none⟩ = some vj ∧ Bs w vj (l.getD k default).d := by
  obtain ⟨p1, c1, e, _, h2⟩ := h
  simp only [Value.slice.injEq] at e
  obtain ⟨rfl, _, _⟩ := e
  exact h2 k hk
def r5 : Rc := ⟨5, [97]⟩
def r7 : Rc := ⟨7, [98]⟩
theorem ok5 : okRc r5 = true := by decide
theorem ok7 : okRc r7 = true := by decide
theorem wk_seg : segL (((formR r5) ++ formR r7) ++ [1]) 5 = [r5, r7] := by
  have h := seg_tail (first := 5) (l := [r5, r7]) (t := [1]) (by decide) ⟨ok5, by decide, ok7, by decide, trivial⟩ (by decide)
  have e : forms [r5, r7] = formR r5 ++ formR r7 := by rw [forms_cons, forms_cons, forms_nil, List.append_nil]
  rwa [e] at h
theorem wk_none : segL (formR r5) 6 = [] := by
  have h := split_forms (l := [r5]) (fun r hr => by rw [List.mem_singleton] at hr; subst hr; exact ok5) []
  rw [forms_cons, forms_nil, List.append_nil, List.append_nil, split_none (show oneR [] = none from rfl)] at h
  unfold segL
  rw [if_pos (by decide), h]
  exact segF_low (rec_form ok5) (by decide)
theorem body_5 : bodyL r5 = [5, 97] := by
  show formN 5 ++ [97] = _
  rw [formN_lt (by decide)]
  rfl
theorem body_7 : bodyL r7 = [7, 98] := by
  show formN 7 ++ [98] = _
  rw [formN_lt (by decide)]
  rfl
theorem size_5 : sizeF r5 = 10 := by unfold sizeF; rw [body_5]; rfl
theorem size_7 : sizeF r7 = 10 := by unfold sizeF; rw [body_7]; rfl
theorem nm_17 : nameS 2 17 = ⟨#[115, 50, 45, 48, 48, 48, 48, 48, 48, 48, 48, 48, 48, 48, 49, 55]⟩ := by decide +kernel
theorem nm_17e : nameE 2 17 = 0 := by decide +kernel
theorem pr_17 : parseL [115, 50, 45, 48, 48, 48, 48, 48, 48, 48, 48, 48, 48, 48, 49, 55] = some (2, 17) := by decide +kernel
set_option maxHeartbeats 8000000 in
set_option maxRecDepth 100000 in
theorem awake_any (w : World) (hE : Env12 w) : Calls Tryz.prog 10 #[] w (Gives (.bool true) w) := by
  obtain ⟨i0, ii, iz0, iz1, iz2⟩ := info_parts infoB
  have hcs := conv_const
  have HE := Lib.hid hE
  have HNm := Lib.hid (name_any 2 (by decide) (by decide) 17 (by decide) w hE.2.1 hE.2.2)
  rw [nm_17, nm_17e] at HNm
  clear hE
  go_enter Tryz.func10, Tryz.ntmps10
  go_wp2_with fail
  refine HNm.out.mono ?_; rintro e w1 ⟨rfl, b1⟩
  have HB1 := Lib.hid b1
  clear b1 HNm
  have HPr := Lib.hid (parse_any [115, 50, 45, 48, 48, 48, 48, 48, 48, 48, 48, 48, 48, 48, 49, 55] (by decide) w1 (HE.out.below HB1.out).2.1 (HE.out.below HB1.out).2.2)
  rw [pr_17] at HPr
  go_wp2_with fail
  refine HPr.out.mono ?_; rintro e w2 ⟨rfl, b2⟩
  have HB2 := Lib.hid (then_ HB1.out b2)
  clear b2 HB1 HPr
  simp only [parP, parN, parE]
  go_wp2_with fail
  have B3 := then_ HB2.out (below_one w2 (.cells #[.int .u8 97] 5 (1, 2)))
  refine (sput_any r5 (by decide) _ _ (HE.out.below B3).1 (HE.out.below B3).2.1 (bs_const w2 [97] _ 1 (1, 2) rfl rfl)).mono ?_
  intro e w3 h3
  obtain ⟨p3, c3, rfl, ho3, b3⟩ := h3.good ok5
  have HO3 := Lib.hid ho3
  have HB3 := Lib.hid (then_ B3 b3)
  clear h3 ho3 b3 B3 HB2
  rw [size_5] at HO3 ⊢
  go_wp2_with fail
  have B4 := then_ HB3.out (below_one w3 (.cells #[.int .u8 98] 5 (1, 2)))
  refine (sput_any r7 (by decide) _ _ (HE.out.below B4).1 (HE.out.below B4).2.1 (bs_const w3 [98] _ 1 (1, 2) rfl rfl)).mono ?_
  intro e w4 h4
  obtain ⟨p4, c4, rfl, ho4, b4⟩ := h4.good ok7
  have HO4 := Lib.hid ho4
  have HB4 := Lib.hid (then_ B4 b4)
  have HO3b := Lib.hid (HO3.out.below ((below_one w3 (.cells #[.int .u8 98] 5 (1, 2))).trans (b4.mono (by simp))))
  clear h4 ho4 b4 B4 HB3 HO3
  rw [size_7] at HO4 ⊢
  have hl5 : (formR r5).length = 10 := by rw [formR_length, body_5]; rfl
  have hl7 : (formR r7).length = 10 := by rw [formR_length, body_7]; rfl
  have HL5 := Lib.hid hl5
  have HL7 := Lib.hid hl7
  have HOw := rown_any (.slice p3 10 c3) (formR r5) w4 HO3b.out.bs (by rw [hl5]; decide)
  have HSb := Lib.hid (fun X (h : Below w4.heap.size w4 X) => by have := (HO4.out.bs.below h).src; rw [HL7.out] at this; exact this)
  clear hl5 hl7
  go_wp2_with fail
  refine HOw.mono ?_; rintro e w5 ⟨v5, rfl, ho5, b5⟩
  obtain ⟨p5, c5, rfl⟩ := ho5.form
  rw [HL5.out] at ho5 ⊢
  have HO5 : Hid (w5.ownsRow w4.heap.size 5 1 (.slice p5 10 c5) 10 (cellsB (formR r5))) := Lib.hid (by have := ho5; unfold OwnB at this; rw [HL5.out] at this; exact this)
  have HB5 := Lib.hid b5
  clear ho5 b5 HOw hcs
  go_wp2_with (at_builtin; refine wpList_append_src rfl _ _ 23 (by rfl) w4.heap.size 5 i0 (.int .u8 0) 1 1 Tryz.underlying23 ii iz0 iz1 iz2 rfl (by decide) _ _ _ (by rfl) HO5.out _ 10 (cellsB (formR r7)) (by rfl) (HSb.out _ HB5.out) 20 (by rfl) (by unfold maxLen; omega) (by omega) (HB5.out.size) ?_; intro pA6 capA6 w6 hown6 hgrow6; have HO6 := Lib.hid hown6; have HB6 := Lib.hid (HB5.out.grown hgrow6 (HB5.out.size) (fun j hj => (World.ownsRow.lt HO5.out j hj).1)); clear hown6 hgrow6; go_wp2_with (at_builtin; have HO6w := Lib.hid (own_later11 HO6.out (below_one w6 (.cells #[.int .u8 1] 5))); have HB6w := Lib.hid (HB6.out.trans ((below_one w6 (.cells #[.int .u8 1] 5)).mono HB6.out.size)); refine wpList_append_src rfl _ _ 23 (by rfl) w4.heap.size 5 i0 (.int .u8 0) 1 1 Tryz.underlying23 ii iz0 iz1 iz2 rfl (by decide) _ _ _ (by rfl) HO6w.out _ 1 (cellsB ([1])) (by rfl) (src_b rfl 1 _ rfl) 21 (by rfl) (by unfold maxLen; omega) (by omega) (HB6w.out.size) ?_; intro pA7 capA7 w7 hown7 hgrow7; have HO7 := Lib.hid hown7; have HB7 := Lib.hid (HB6w.out.grown hgrow7 (HB6w.out.size) (fun j hj => (World.ownsRow.lt HO6w.out j hj).1)); clear hown7 hgrow7))
  have hlen : ((formR r5 ++ formR r7) ++ [1]).length = 21 := by rw [List.length_append, List.length_append, HL5.out, HL7.out]; rfl
  have hbs7 : Bs w7 (.slice pA7 21 capA7) ((formR r5 ++ formR r7) ++ [1]) := by
    have h := HO7.out
    rw [← cellsB_append, ← cellsB_append] at h
    have h2 : OwnB w7 w4.heap.size (.slice pA7 21 capA7) ((formR r5 ++ formR r7) ++ [1]) := by unfold OwnB; rw [hlen]; exact h
    exact h2.bs
  have HB7c := Lib.hid (then_ HB4.out HB7.out)
  have HSpl := ssplit_any _ _ 5 (by decide) w7 (HE.out.below HB7c.out).1 (HE.out.below HB7c.out).2.1 hbs7 (by rw [hlen]; decide)
  have HO3c := Lib.hid (HO3b.out.below HB7.out)
  clear hlen hbs7 HO7 HB7 HB6w HO6w HO6 HB6 HO5 HB5 HSb HO3b HO4
  refine HSpl.mono ?_
  intro e w8 h8
  obtain ⟨p8, c8, rfl, hr8, b8⟩ := h8.is wk_seg
  rw [show ([r5, r7] : List Rc).length = 2 from rfl, show wholeS [r5, r7] = 20 by rw [wholeS_cons, wholeS_cons, wholeS_nil, size_5, size_7]] at *
  have HR8 := Lib.hid hr8
  have HB8 := Lib.hid (then_ HB7c.out b8)
  have HO8 := Lib.hid (HO3c.out.below b8)
  clear h8 hr8 b8 HO3c HSpl HB7c
  have HSp2 := Lib.hid (ssplit_any (.slice p3 10 c3) (formR r5) 6 (by decide) w8 (HE.out.below HB8.out).1 (HE.out.below HB8.out).2.1 HO8.out.bs (by rw [HL5.out]; decide))
  go_wp2_with fail
  refine HSp2.out.mono ?_
  intro e w9 h9
  obtain ⟨p9, c9, rfl, -, b9⟩ := h9.is wk_none
  rw [show ([] : List Rc).length = 0 from rfl, show wholeS [] = 0 from rfl]
  have HB9 := Lib.hid (then_ HB8.out b9)
  obtain ⟨g8, o8, vj, rfl, _, q0, q1, t1⟩ := rowS_at (HR8.out.later b9) (k := 1) (by decide)
  rw [show ([r5, r7] : List Rc).getD 1 default = r7 from rfl] at q0 t1
  obtain ⟨pb, cb, rfl⟩ := t1.form
  rw [show r7.n = 7 from rfl] at q0
  have t2 := conv_bs t1 9 Tryz.underlying9
  rw [show (⟨r7.d.toArray⟩ : ByteArray) = ⟨#[98]⟩ from rfl] at t2
  rw [show r7.d.length = 1 from rfl] at *
  have hidx := idx_s (some ⟨g8, o8, none⟩) g8 o8 2 c8 1 rfl (by decide)
  clear h9 b9 HR8 HB8 HO8 HSp2 t1
  go_wp2_with fail
  go_ret
  exact ⟨rfl, HB9.out⟩
end Go.Proofs.YtelocbohiddpgaaGreatDoor.Crc
