/- The walk of EventBack: for any two events and any text the statement's function returns true, and writes nothing that was there. -/
import Derived.Test.YtgjniopcaahgfaaDoorRs
import Derived.Test.YtgjniopcaahgfaaDoorFe
set_option linter.unusedSimpArgs false
set_option linter.unusedVariables false
namespace Go.Proofs.YtgjniopcaahgfaaDoor
open Go.RowKit
attribute [local go_sem ↓] Go.wp_at_zero Go.wp_at_succ

/-- What holds at a point of the walk: the two events lie where they were put; nothing that was there has changed. -/
structure Ctx2 (w W : World) (k1 : ByteArray) (v1 : Value) (l1 : List Attr) (k2 : ByteArray) (v2 : Value) (l2 : List Attr) : Prop where
  bel : Below w.heap.size w W
  env : Env W
  b1 : Blk W w.heap.size 24 #[.string k1, v1]
  b2 : Blk W (w.heap.size + 1) 24 #[.string k2, v2]
  s1 : Sl W v1 l1
  s2 : Sl W v2 l2
theorem Ctx2.below {w W W' : World} {k1 k2 : ByteArray} {v1 v2 : Value} {l1 l2 : List Attr} (h : Ctx2 w W k1 v1 l1 k2 v2 l2) (b : Below W.heap.size W W') : Ctx2 w W' k1 v1 l1 k2 v2 l2 :=
  ⟨then_ h.bel b, h.env.below b, h.b1.below b h.b1.lt, h.b2.below b h.b2.lt, h.s1.below b, h.s2.below b⟩
theorem Ctx2.alloc {w W : World} {k1 k2 : ByteArray} {v1 v2 : Value} {l1 l2 : List Attr} (h : Ctx2 w W k1 v1 l1 k2 v2 l2) (o : Obj) : Ctx2 w (W.alloc o) k1 v1 l1 k2 v2 l2 :=
  h.below ((Below.refl _ W).alloc (Nat.le_refl _) o)
theorem sl_form {w : World} {v : Value} {l : List Attr} (h : Sl w v l) : ∃ p cap, v = .slice p l.length cap := by
  obtain ⟨p, cap, _, _, h1, _⟩ := h; exact ⟨p, cap, h1⟩
theorem sl_nil (w : World) : Sl w (.slice none 0 0) [] := ⟨none, 0, 0, 0, rfl, fun h => absurd rfl h, fun i hi => by simp at hi, by simp⟩
theorem rsame_nil (w : World) : Calls Tryd.prog 9 #[.agg #[.string ⟨#[]⟩, .slice none 0 0], .agg #[.string ⟨#[]⟩, .slice none 0 0]] w (Gives (.bool true) w) := by
  have h := rsame_any ⟨#[]⟩ ⟨#[]⟩ (.slice none 0 0) (.slice none 0 0) [] [] w (sl_nil w) (sl_nil w)
  rwa [(sameB_iff ⟨#[]⟩ [] ⟨#[]⟩ []).2 ⟨rfl, rfl⟩] at h
theorem room_ev {s key : ByteArray} {l : List Attr} (h : IsEv s key l) : Room l := by
  intro a ha
  refine ⟨h.2.1 a ha, ?_⟩
  have := (ok_parts (ok_of_rise (rise_of_may h.1) a ha)).1
  simp only [nameB, Bool.and_eq_true, decide_eq_true_eq] at this
  omega
theorem ev_or (s : ByteArray) : (∃ key l, IsEv s key l) ∨ (∀ key l, ¬ IsEv s key l) := by
  by_cases h : ∃ key l, IsEv s key l
  · exact .inl h
  · exact .inr fun key l hk => h ⟨key, l, hk⟩
theorem txtE_size {key : ByteArray} {l : List Attr} (h : mayE key l = true) (hf : FitsA l) : (⟨(txtE key l).toArray⟩ : ByteArray).size ≤ 140737488351232 := by
  rw [arr_size, txtE, List.length_append]
  have h1 := flat_size h hf l.length
  rw [List.take_of_length_le (Nat.le_refl _)] at h1
  have h2 := txt_length (may_key h) (n := 0) ⟨by decide, by decide⟩
  omega
theorem same_txt {k1 k2 : ByteArray} {l1 l2 : List Attr} (h1 : mayE k1 l1 = true) (f1 : FitsA l1) (h2 : mayE k2 l2 = true) (f2 : FitsA l2) : (txtE k1 l1 == txtE k2 l2) = sameB k1 l1 k2 l2 := by
  rw [Bool.eq_iff_iff, beq_iff_eq, sameB_iff]
  constructor
  · intro h
    exact isEv_unique (s := ⟨(txtE k1 l1).toArray⟩) ⟨h1, f1, by simp⟩ ⟨h2, f2, by rw [h]⟩
  · rintro ⟨rfl, rfl⟩; rfl

set_option maxHeartbeats 8000000 in
set_option maxRecDepth 100000 in
theorem law_eback (k1 : ByteArray) (v1 : Value) (l1 : List Attr) (k2 : ByteArray) (v2 : Value) (l2 : List Attr) (s : ByteArray) (w : World) (hE : Env w) (hS1 : Sl w v1 l1) (hR1 : Room l1) (hS2 : Sl w v2 l2) (hR2 : Room l2) (hs : s.size ≤ 140737488351232) :
    Calls Tryd.prog 4 #[.agg #[.string k1, v1], .agg #[.string k2, v2], .string s] w (Gives (.bool true) w) := by
  have HSz := Lib.hid hs
  have HQ := Lib.hid (ev_or s)
  have HR1 := Lib.hid hR1
  have HR2 := Lib.hid hR2
  have C0 : Ctx2 w ((w.alloc (.cells #[.string k1, v1] 24)).alloc (.cells #[.string k2, v2] 24)) k1 v1 l1 k2 v2 l2 := by
    have B2 : Below w.heap.size w ((w.alloc (.cells #[.string k1, v1] 24)).alloc (.cells #[.string k2, v2] 24)) := ((Below.refl _ w).alloc (Nat.le_refl _) _).alloc (by simp) _
    refine ⟨B2, hE.below B2, (Blk.new _ _ _).alloc _, ?_, hS1.below B2, hS2.below B2⟩
    have := Blk.new (w.alloc (.cells #[.string k1, v1] 24)) 24 #[.string k2, v2]
    simpa using this
  obtain ⟨p1, cap1, rfl⟩ := sl_form hS1
  obtain ⟨p2, cap2, rfl⟩ := sl_form hS2
  clear hs hR1 hR2 hE hS1 hS2
  cases hm1 : mayE k1 l1 with
  | false =>
    have HM1 := Lib.hid hm1
    clear hm1
    go_enter Tryd.func4, Tryd.ntmps4
    go_wp2_with fail
    refine (etext_no k1 _ l1 _ C0.s1 HR1.out HM1.out).mono ?_; rintro e w1 ⟨rfl, b1⟩
    have C1 := C0.below b1
    have a0 := C1.b1.cell 0 (u := .string k1) rfl
    have a1 := C1.b1.cell 1 (u := .slice p1 l1.length cap1) rfl
    clear C0 b1
    go_wp2_with fail
    have hmy := emay_any k1 _ l1 _ C1.s1 HR1.out
    rw [HM1.out] at hmy
    refine hmy.mono ?_; rintro e w2 ⟨rfl, b2⟩
    have C2 := C1.below b2
    clear C1 b2 a0 a1 hmy
    go_wp2_with fail
    rcases HQ.out with ⟨k3, l3, hI⟩ | hno
    · have HI := Lib.hid hI
      have HR3 := Lib.hid (room_ev hI)
      have H8 : Hid (l3.length ≤ 140737488355328) := Lib.hid (by have := hI.1; simp only [mayE, Bool.and_eq_true, decide_eq_true_eq] at this; omega)
      have hte : (txtE k3 l3 == s.toList) = true := by rw [toList_data, beq_iff_eq]; exact hI.2.2
      clear hI
      refine (parse_is C2.env HSz.out HI.out).mono ?_; rintro e wa ⟨sla, rfl, hOa, ba⟩
      obtain ⟨pa, capa, rfl⟩ := own_form hOa
      have Ca := (C2.below ba).alloc (.cells #[.string k3, .slice pa l3.length capa] 24)
      have Ma := Blk.new wa 24 #[.string k3, .slice pa l3.length capa]
      have Sa := (hOa.sl H8.out).below ((Below.refl _ wa).alloc (Nat.le_refl _) (.cells #[.string k3, .slice pa l3.length capa] 24))
      clear C2 hOa ba
      go_wp2_with fail
      refine (etext_yes k3 _ l3 _ Ca.env Sa HR3.out HI.out.1).mono ?_; rintro e wb ⟨rfl, bb⟩
      have Cb := Ca.below bb
      have Mb := Ma.below bb Ma.lt
      have Sb := Sa.below bb
      have m0 := Mb.cell 0 (u := .string k3) rfl
      have m1 := Mb.cell 1 (u := .slice pa l3.length capa) rfl
      clear Ca Ma Sa bb
      go_wp2_with fail
      have hmy := emay_any k3 _ l3 _ Sb HR3.out
      rw [HI.out.1] at hmy
      refine hmy.mono ?_; rintro e wc ⟨rfl, bc⟩
      have Cc := Cb.below bc
      clear Cb Mb Sb m0 m1 bc hmy
      go_wp2_with fail
      refine (wakes_any _ Cc.env).mono ?_; rintro e wd ⟨rfl, bd⟩
      have Cd := Cc.below bd
      clear bd
      go_wp2_with fail
      go_ret
      exact ⟨rfl, Cd.bel⟩
    · have HNo := Lib.hid hno
      clear hno
      refine (parse_no C2.env HSz.out HNo.out).mono ?_; rintro e wa ⟨rfl, ba⟩
      have Ca := (C2.below ba).alloc (.cells #[.string ⟨#[]⟩, .slice none 0 0] 24)
      clear C2
      go_wp2_with fail
      refine (rsame_nil _).mono ?_; rintro e wb ⟨rfl, bb⟩
      have Cb := Ca.below bb
      clear Ca ba bb
      go_wp2_with fail
      refine (wakes_any _ Cb.env).mono ?_; rintro e wc ⟨rfl, bc⟩
      have Cc := Cb.below bc
      clear bc
      go_wp2_with fail
      go_ret
      exact ⟨rfl, Cc.bel⟩
  | true =>
    have HM1 := Lib.hid hm1
    clear hm1
    go_enter Tryd.func4, Tryd.ntmps4
    go_wp2_with fail
    refine (etext_yes k1 _ l1 _ C0.env C0.s1 HR1.out HM1.out).mono ?_; rintro e w1 ⟨rfl, b1⟩
    have C1 := C0.below b1
    have a0 := C1.b1.cell 0 (u := .string k1) rfl
    have a1 := C1.b1.cell 1 (u := .slice p1 l1.length cap1) rfl
    clear C0 b1
    go_wp2_with fail
    have hmy := emay_any k1 _ l1 _ C1.s1 HR1.out
    rw [HM1.out] at hmy
    refine hmy.mono ?_; rintro e w2 ⟨rfl, b2⟩
    have C2 := C1.below b2
    clear C1 b2 a0 a1 hmy
    go_wp2_with fail
    refine (parse_is (s := ⟨(txtE k1 l1).toArray⟩) C2.env (txtE_size HM1.out HR1.out.fits) ⟨HM1.out, HR1.out.fits, by simp⟩).mono ?_; rintro e w3 ⟨sl3, rfl, hO3, b3⟩
    obtain ⟨p3, cap3, rfl⟩ := own_form hO3
    have C3 := (C2.below b3).alloc (.cells #[.string k1, .slice p3 l1.length cap3] 24)
    have c0 := (C2.below b3).b1.cell 0 (u := .string k1) rfl
    have c1 := (C2.below b3).b1.cell 1 (u := .slice p1 l1.length cap1) rfl
    have z1 := (C2.below b3).b1.lt
    have h8 : l1.length ≤ 140737488355328 := by have := HM1.out; simp only [mayE, Bool.and_eq_true, decide_eq_true_eq] at this; omega
    have S3 := Lib.hid ((hO3.sl h8).below ((Below.refl _ w3).alloc (Nat.le_refl _) (.cells #[.string k1, .slice p3 l1.length cap3] 24)))
    clear C2 b3 hO3
    go_wp2_with fail
    have hs3 := rsame_any k1 k1 _ _ l1 l1 _ S3.out C3.s1
    rw [(sameB_iff k1 l1 k1 l1).2 ⟨rfl, rfl⟩] at hs3
    refine hs3.mono ?_; rintro e w4 ⟨rfl, b4⟩
    have C4 := C3.below b4
    have a0 := C4.b2.cell 0 (u := .string k2) rfl
    have a1 := C4.b2.cell 1 (u := .slice p2 l2.length cap2) rfl
    clear C3 b4 hs3 c0 c1 z1 S3 h8
    go_wp2_with fail
    cases hm2 : mayE k2 l2 with
    | false =>
      have HM2 := Lib.hid hm2
      clear hm2
      refine (etext_no k2 _ l2 _ C4.s2 HR2.out HM2.out).mono ?_; rintro e w5 ⟨rfl, b5⟩
      have C5 := C4.below b5
      clear C4 b5 a0 a1
      go_wp2_with fail
      rcases HQ.out with ⟨k3, l3, hI⟩ | hno
      · have HI := Lib.hid hI
        have HR3 := Lib.hid (room_ev hI)
        have H8 : Hid (l3.length ≤ 140737488355328) := Lib.hid (by have := hI.1; simp only [mayE, Bool.and_eq_true, decide_eq_true_eq] at this; omega)
        have hte : (txtE k3 l3 == s.toList) = true := by rw [toList_data, beq_iff_eq]; exact hI.2.2
        clear hI
        refine (parse_is C5.env HSz.out HI.out).mono ?_; rintro e wa ⟨sla, rfl, hOa, ba⟩
        obtain ⟨pa, capa, rfl⟩ := own_form hOa
        have Ca := (C5.below ba).alloc (.cells #[.string k3, .slice pa l3.length capa] 24)
        have Ma := Blk.new wa 24 #[.string k3, .slice pa l3.length capa]
        have Sa := (hOa.sl H8.out).below ((Below.refl _ wa).alloc (Nat.le_refl _) (.cells #[.string k3, .slice pa l3.length capa] 24))
        clear C5 hOa ba
        go_wp2_with fail
        refine (etext_yes k3 _ l3 _ Ca.env Sa HR3.out HI.out.1).mono ?_; rintro e wb ⟨rfl, bb⟩
        have Cb := Ca.below bb
        have Mb := Ma.below bb Ma.lt
        have Sb := Sa.below bb
        have m0 := Mb.cell 0 (u := .string k3) rfl
        have m1 := Mb.cell 1 (u := .slice pa l3.length capa) rfl
        clear Ca Ma Sa bb
        go_wp2_with fail
        have hmy := emay_any k3 _ l3 _ Sb HR3.out
        rw [HI.out.1] at hmy
        refine hmy.mono ?_; rintro e wc ⟨rfl, bc⟩
        have Cc := Cb.below bc
        clear Cb Mb Sb m0 m1 bc hmy
        go_wp2_with fail
        refine (wakes_any _ Cc.env).mono ?_; rintro e wd ⟨rfl, bd⟩
        have Cd := Cc.below bd
        clear bd
        go_wp2_with fail
        go_ret
        exact ⟨rfl, Cd.bel⟩
      · have HNo := Lib.hid hno
        clear hno
        refine (parse_no C5.env HSz.out HNo.out).mono ?_; rintro e wa ⟨rfl, ba⟩
        have Ca := (C5.below ba).alloc (.cells #[.string ⟨#[]⟩, .slice none 0 0] 24)
        clear C5
        go_wp2_with fail
        refine (rsame_nil _).mono ?_; rintro e wb ⟨rfl, bb⟩
        have Cb := Ca.below bb
        clear Ca ba bb
        go_wp2_with fail
        refine (wakes_any _ Cb.env).mono ?_; rintro e wc ⟨rfl, bc⟩
        have Cc := Cb.below bc
        clear bc
        go_wp2_with fail
        go_ret
        exact ⟨rfl, Cc.bel⟩
    | true =>
      have HM2 := Lib.hid hm2
      clear hm2
      refine (etext_yes k2 _ l2 _ C4.env C4.s2 HR2.out HM2.out).mono ?_; rintro e w5 ⟨rfl, b5⟩
      have C5 := C4.below b5
      have he := same_txt HM1.out HR1.out.fits HM2.out HR2.out.fits
      have x0 := C5.b1.cell 0 (u := .string k1) rfl
      have x1 := C5.b1.cell 1 (u := .slice p1 l1.length cap1) rfl
      have x2 := C5.b2.cell 0 (u := .string k2) rfl
      have x3 := C5.b2.cell 1 (u := .slice p2 l2.length cap2) rfl
      have hsm := esame_any k1 k2 _ _ l1 l2 _ C5.s1 C5.s2
      have HSm := Lib.hid hsm
      clear C4 b5 a0 a1 hsm
      cases hb : sameB k1 l1 k2 l2 with
      | true =>
        rw [hb] at he HSm
        clear hb
        go_wp2_with fail
        refine HSm.out.mono ?_; rintro e w6 ⟨rfl, b6⟩
        have C6 := C5.below b6
        clear C5 b6 x0 x1 x2 x3 HSm
        go_wp2_with fail
        rcases HQ.out with ⟨k3, l3, hI⟩ | hno
        · have HI := Lib.hid hI
          have HR3 := Lib.hid (room_ev hI)
          have H8 : Hid (l3.length ≤ 140737488355328) := Lib.hid (by have := hI.1; simp only [mayE, Bool.and_eq_true, decide_eq_true_eq] at this; omega)
          have hte : (txtE k3 l3 == s.toList) = true := by rw [toList_data, beq_iff_eq]; exact hI.2.2
          clear hI
          refine (parse_is C6.env HSz.out HI.out).mono ?_; rintro e wa ⟨sla, rfl, hOa, ba⟩
          obtain ⟨pa, capa, rfl⟩ := own_form hOa
          have Ca := (C6.below ba).alloc (.cells #[.string k3, .slice pa l3.length capa] 24)
          have Ma := Blk.new wa 24 #[.string k3, .slice pa l3.length capa]
          have Sa := (hOa.sl H8.out).below ((Below.refl _ wa).alloc (Nat.le_refl _) (.cells #[.string k3, .slice pa l3.length capa] 24))
          clear C6 hOa ba
          go_wp2_with fail
          refine (etext_yes k3 _ l3 _ Ca.env Sa HR3.out HI.out.1).mono ?_; rintro e wb ⟨rfl, bb⟩
          have Cb := Ca.below bb
          have Mb := Ma.below bb Ma.lt
          have Sb := Sa.below bb
          have m0 := Mb.cell 0 (u := .string k3) rfl
          have m1 := Mb.cell 1 (u := .slice pa l3.length capa) rfl
          clear Ca Ma Sa bb
          go_wp2_with fail
          have hmy := emay_any k3 _ l3 _ Sb HR3.out
          rw [HI.out.1] at hmy
          refine hmy.mono ?_; rintro e wc ⟨rfl, bc⟩
          have Cc := Cb.below bc
          clear Cb Mb Sb m0 m1 bc hmy
          go_wp2_with fail
          refine (wakes_any _ Cc.env).mono ?_; rintro e wd ⟨rfl, bd⟩
          have Cd := Cc.below bd
          clear bd
          go_wp2_with fail
          go_ret
          exact ⟨rfl, Cd.bel⟩
        · have HNo := Lib.hid hno
          clear hno
          refine (parse_no C6.env HSz.out HNo.out).mono ?_; rintro e wa ⟨rfl, ba⟩
          have Ca := (C6.below ba).alloc (.cells #[.string ⟨#[]⟩, .slice none 0 0] 24)
          clear C6
          go_wp2_with fail
          refine (rsame_nil _).mono ?_; rintro e wb ⟨rfl, bb⟩
          have Cb := Ca.below bb
          clear Ca ba bb
          go_wp2_with fail
          refine (wakes_any _ Cb.env).mono ?_; rintro e wc ⟨rfl, bc⟩
          have Cc := Cb.below bc
          clear bc
          go_wp2_with fail
          go_ret
          exact ⟨rfl, Cc.bel⟩
      | false =>
        rw [hb] at he HSm
        clear hb
        go_wp2_with fail
        refine HSm.out.mono ?_; rintro e w6 ⟨rfl, b6⟩
        have C6 := C5.below b6
        clear C5 b6 x0 x1 x2 x3 HSm
        go_wp2_with fail
        rcases HQ.out with ⟨k3, l3, hI⟩ | hno
        · have HI := Lib.hid hI
          have HR3 := Lib.hid (room_ev hI)
          have H8 : Hid (l3.length ≤ 140737488355328) := Lib.hid (by have := hI.1; simp only [mayE, Bool.and_eq_true, decide_eq_true_eq] at this; omega)
          have hte : (txtE k3 l3 == s.toList) = true := by rw [toList_data, beq_iff_eq]; exact hI.2.2
          clear hI
          refine (parse_is C6.env HSz.out HI.out).mono ?_; rintro e wa ⟨sla, rfl, hOa, ba⟩
          obtain ⟨pa, capa, rfl⟩ := own_form hOa
          have Ca := (C6.below ba).alloc (.cells #[.string k3, .slice pa l3.length capa] 24)
          have Ma := Blk.new wa 24 #[.string k3, .slice pa l3.length capa]
          have Sa := (hOa.sl H8.out).below ((Below.refl _ wa).alloc (Nat.le_refl _) (.cells #[.string k3, .slice pa l3.length capa] 24))
          clear C6 hOa ba
          go_wp2_with fail
          refine (etext_yes k3 _ l3 _ Ca.env Sa HR3.out HI.out.1).mono ?_; rintro e wb ⟨rfl, bb⟩
          have Cb := Ca.below bb
          have Mb := Ma.below bb Ma.lt
          have Sb := Sa.below bb
          have m0 := Mb.cell 0 (u := .string k3) rfl
          have m1 := Mb.cell 1 (u := .slice pa l3.length capa) rfl
          clear Ca Ma Sa bb
          go_wp2_with fail
          have hmy := emay_any k3 _ l3 _ Sb HR3.out
          rw [HI.out.1] at hmy
          refine hmy.mono ?_; rintro e wc ⟨rfl, bc⟩
          have Cc := Cb.below bc
          clear Cb Mb Sb m0 m1 bc hmy
          go_wp2_with fail
          refine (wakes_any _ Cc.env).mono ?_; rintro e wd ⟨rfl, bd⟩
          have Cd := Cc.below bd
          clear bd
          go_wp2_with fail
          go_ret
          exact ⟨rfl, Cd.bel⟩
        · have HNo := Lib.hid hno
          clear hno
          refine (parse_no C6.env HSz.out HNo.out).mono ?_; rintro e wa ⟨rfl, ba⟩
          have Ca := (C6.below ba).alloc (.cells #[.string ⟨#[]⟩, .slice none 0 0] 24)
          clear C6
          go_wp2_with fail
          refine (rsame_nil _).mono ?_; rintro e wb ⟨rfl, bb⟩
          have Cb := Ca.below bb
          clear Ca ba bb
          go_wp2_with fail
          refine (wakes_any _ Cb.env).mono ?_; rintro e wc ⟨rfl, bc⟩
          have Cc := Cb.below bc
          clear bc
          go_wp2_with fail
          go_ret
          exact ⟨rfl, Cc.bel⟩
end Go.Proofs.YtgjniopcaahgfaaDoor
