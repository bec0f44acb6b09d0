/- The walk of EventTexts: for any event and any text the statement's function returns true, and writes nothing that was there. -/
import Derived.Test.YtgjniopcaahgfaaGreatDoorRt
import Derived.Test.YtgjniopcaahgfaaGreatDoorRp
import Derived.Test.YtgjniopcaahgfaaGreatDoorRs
import Derived.Test.YtgjniopcaahgfaaGreatDoorFe
import Derived.Test.YtgjniopcaahgfaaGreatDoorLc
set_option linter.unusedSimpArgs false
set_option linter.unusedVariables false
namespace Go.Proofs.YtgjniopcaahgfaaGreatDoor
open Go.RowKit
attribute [local go_sem ↓] Go.wp_at_zero Go.wp_at_succ

theorem slt_form {w : World} {v : Value} {l : List Attr} (h : Sl w v l) : ∃ p cap, v = .slice p l.length cap := by
  obtain ⟨p, cap, _, _, h1, _⟩ := h; exact ⟨p, cap, h1⟩
theorem slt_nil (w : World) : Sl w (.slice none 0 0) [] := ⟨none, 0, 0, 0, rfl, fun h => absurd rfl h, fun i hi => by simp at hi, by simp⟩
/-- Both texts, the program's and the document's, are one. -/
theorem texts_both (key : ByteArray) (l : List Attr) (hR : Room l) : ∃ (ts : ByteArray) (c : Int), (∀ v W, Env W → Sl W v l → Calls Tryz.prog 4 #[.agg #[.string key, v]] W (Gives (.tuple #[.string ts, .int .i64 c]) W)) ∧
    (∀ v W, Sl W v l → Calls Tryz.prog 5 #[.agg #[.string key, v]] W (Gives (.tuple #[.string ts, .int .i64 c]) W)) := by
  cases hm : mayE key l with
  | true => exact ⟨_, 0, fun v W hE hS => etext_yes key v l W hE hS hR hm, fun v W hS => rtext_yes key v l W hS hR hm⟩
  | false => exact ⟨_, 30, fun v W hE hS => etext_no key v l W hS hR hm, fun v W hS => rtext_no key v l W hS hR hm⟩
/-- What both readings leave: this key, these attributes, this number. -/
def Parsd (key : ByteArray) (l : List Attr) (c : Int) (w : World) (e : Ending) (w' : World) : Prop := ∃ sl, e = .returned (.tuple #[.agg #[.string key, sl], .int .i64 c]) ∧ Sl w' sl l ∧ Below w.heap.size w w'
theorem parse_both (s : ByteArray) (hs : s.size ≤ 140737488351232) : ∃ (key : ByteArray) (l : List Attr) (c : Int), (∀ W, Env W → Calls Tryz.prog 6 #[.string s] W (Parsd key l c W)) ∧
    (∀ W, Calls Tryz.prog 7 #[.string s] W (Parsd key l c W)) := by
  by_cases h : ∃ key l, IsEv s key l
  · obtain ⟨key, l, h⟩ := h
    have h8 : l.length ≤ 140737488355328 := by have := h.1; simp only [mayE, Bool.and_eq_true, decide_eq_true_eq] at this; omega
    refine ⟨key, l, 0, fun W hE => (eparse_any s hs W hE).mono fun e w' ⟨hb, h'⟩ => ?_, fun W => (rparse_any s hs W).mono fun e w' ⟨hb, h'⟩ => ?_⟩
    · rcases h' with ⟨key', l', sl, he, _, hO, h2⟩ | ⟨hno, _⟩
      · obtain ⟨rfl, rfl⟩ := isEv_unique he h
        exact ⟨sl, h2, hO.sl h8, hb⟩
      · exact absurd h (hno key l)
    · rcases h' with ⟨key', l', sl, he, hS, h2⟩ | ⟨hno, _⟩
      · obtain ⟨rfl, rfl⟩ := isEv_unique he h
        exact ⟨sl, h2, hS, hb⟩
      · exact absurd h (hno key l)
  · refine ⟨⟨#[]⟩, [], 5, fun W hE => (eparse_any s hs W hE).mono fun e w' ⟨hb, h'⟩ => ?_, fun W => (rparse_any s hs W).mono fun e w' ⟨hb, h'⟩ => ?_⟩
    · rcases h' with ⟨key', l', sl, he, _⟩ | ⟨_, h2⟩
      · exact absurd ⟨key', l', he⟩ h
      · exact ⟨_, h2, slt_nil _, hb⟩
    · rcases h' with ⟨key', l', sl, he, _⟩ | ⟨_, h2⟩
      · exact absurd ⟨key', l', he⟩ h
      · exact ⟨_, h2, slt_nil _, hb⟩
/-- What holds at a point of the walk: the event lies where it was put. -/
structure CtxT (w W : World) (k1 : ByteArray) (v1 : Value) (l1 : List Attr) : Prop where
  bel : Below w.heap.size w W
  env : Env W
  b1 : Blk W w.heap.size 24 #[.string k1, v1]
  s1 : Sl W v1 l1
theorem CtxT.below {w W W' : World} {k1 : ByteArray} {v1 : Value} {l1 : List Attr} (h : CtxT w W k1 v1 l1) (b : Below W.heap.size W W') : CtxT w W' k1 v1 l1 :=
  ⟨then_ h.bel b, h.env.below b, h.b1.below b h.b1.lt, h.s1.below b⟩

set_option maxHeartbeats 8000000 in
set_option maxRecDepth 100000 in
theorem law_etexts (k1 : ByteArray) (v1 : Value) (l1 : List Attr) (s : ByteArray) (w : World) (hE : Env w) (hS1 : Sl w v1 l1) (hR1 : Room l1) (hs : s.size ≤ 140737488351232) :
    Calls Tryz.prog 3 #[.agg #[.string k1, v1], .string s] w (Gives (.bool true) w) := by
  obtain ⟨ts, c, hT1, hT2⟩ := texts_both k1 l1 hR1
  obtain ⟨key, l, d, hP1, hP2⟩ := parse_both s hs
  have HT1 := Lib.hid hT1
  have HT2 := Lib.hid hT2
  have HP1 := Lib.hid hP1
  have HP2 := Lib.hid hP2
  have C0 : CtxT w (w.alloc (.cells #[.string k1, v1] 24)) k1 v1 l1 := by
    have B1 := (Below.refl _ w).alloc (Nat.le_refl _) (.cells #[.string k1, v1] 24)
    exact ⟨B1, hE.below B1, Blk.new _ _ _, hS1.below B1⟩
  have HC0 := Lib.hid C0
  obtain ⟨p1, cap1, rfl⟩ := slt_form hS1
  clear hT1 hT2 hP1 hP2 hE hS1 hR1 hs C0
  go_enter Tryz.func3, Tryz.ntmps3
  go_wp2_with fail
  refine (HT1.out _ _ HC0.out.env HC0.out.s1).mono ?_; rintro e w1 ⟨rfl, b1⟩
  have HC1 := Lib.hid (HC0.out.below b1)
  have a0 := HC1.out.b1.cell 0 (u := .string k1) rfl
  have a1 := HC1.out.b1.cell 1 (u := .slice p1 l1.length cap1) rfl
  clear b1 HC0
  go_wp2_with fail
  refine (HT2.out _ _ HC1.out.s1).mono ?_; rintro e w2 ⟨rfl, b2⟩
  have HC2 := Lib.hid (HC1.out.below b2)
  clear b2 HC1 a0 a1
  go_wp2_with fail
  refine (HP1.out _ HC2.out.env).mono ?_; rintro e w3 ⟨sl3, rfl, hS3, b3⟩
  obtain ⟨p3, cap3, rfl⟩ := slt_form hS3
  have A3 := (Below.refl _ w3).alloc (Nat.le_refl _) (.cells #[.string key, .slice p3 l.length cap3] 24)
  have HC3 := Lib.hid ((HC2.out.below b3).below A3)
  have HS3 := Lib.hid (hS3.below A3)
  have HX3 := Lib.hid (Blk.new w3 24 #[.string key, .slice p3 l.length cap3])
  clear A3 b3 hS3 HC2
  go_wp2_with fail
  refine (HP2.out _).mono ?_; rintro e w4 ⟨sl4, rfl, hS4, b4⟩
  obtain ⟨p4, cap4, rfl⟩ := slt_form hS4
  have A4 := (Below.refl _ w4).alloc (Nat.le_refl _) (.cells #[.string key, .slice p4 l.length cap4] 24)
  have HC4 := Lib.hid ((HC3.out.below b4).below A4)
  have HS34 := Lib.hid ((HS3.out.below b4).below A4)
  have HS4 := Lib.hid (hS4.below A4)
  have x0 := (HX3.out.below b4 HX3.out.lt).cell 0 (u := .string key) rfl
  have x1 := (HX3.out.below b4 HX3.out.lt).cell 1 (u := .slice p3 l.length cap3) rfl
  have x2 := (HX3.out.below b4 HX3.out.lt).lt
  clear A4 b4 hS4 HC3 HS3 HX3
  go_wp2_with fail
  have hs5 := rsame_any key key _ _ l l _ HS34.out HS4.out
  rw [(sameB_iff key l key l).2 ⟨rfl, rfl⟩] at hs5
  refine hs5.mono ?_; rintro e w5 ⟨rfl, b5⟩
  have HC5 := Lib.hid (HC4.out.below b5)
  clear hs5 b5 HC4 HS34 HS4 x0 x1 x2
  go_wp2_with fail
  refine (wakes_any _ HC5.out.env).mono ?_; rintro e w6 ⟨rfl, b6⟩
  have HC6 := Lib.hid (HC5.out.below b6)
  clear b6
  go_wp2_with fail
  go_ret
  exact ⟨rfl, HC6.out.bel⟩
end Go.Proofs.YtgjniopcaahgfaaGreatDoor
