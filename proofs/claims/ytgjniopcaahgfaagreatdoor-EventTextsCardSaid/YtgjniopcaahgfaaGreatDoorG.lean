/- The contract of package value's guess, and of its Parse. -/
import Derived.Test.YtgjniopcaahgfaaGreatDoorK
import Derived.Test.YtgjniopcaahgfaaGreatDoorN
set_option linter.unusedSimpArgs false
set_option linter.unusedVariables false
namespace Go.Proofs.YtgjniopcaahgfaaGreatDoor
open Go.RowKit

/-- A number fits 64 bits. -/
def Fits (n : Int) : Prop := -9223372036854775808 ≤ n ∧ n ≤ 9223372036854775807

theorem isEmpty_eq {t : ByteArray} (h : t.toList.isEmpty = true) : t = ⟨#[]⟩ := by
  rw [toList_data, List.isEmpty_iff] at h
  obtain ⟨⟨l⟩⟩ := t
  simp only at h
  subst h
  rfl

/-- Which value has which text. -/
theorem txt_kind {k n : Int} {t : ByteArray} {b : Bool} (h : mayB k n t b = true) :
    (k = 1 ∧ t = ⟨#[]⟩ ∧ b = false ∧ txt k n t b = Lib.itoa n) ∨ (k = 2 ∧ n = 0 ∧ b = false ∧ txt k n t b = 34 :: (escAll t.data.toList ++ [34]) ∧ t.size ≤ 32) ∨ (k = 3 ∧ n = 0 ∧ t = ⟨#[]⟩ ∧ txt k n t b = Lib.formatBool b) := by
  by_cases h1 : k = 1
  · subst h1
    simp only [mayB, if_true, Bool.and_eq_true, Bool.not_eq_true'] at h
    exact .inl ⟨rfl, isEmpty_eq h.1, h.2, by simp [txt]⟩
  by_cases h2 : k = 2
  · subst h2
    simp [mayB] at h
    exact .inr (.inl ⟨rfl, h.2.1, h.2.2, by simp [txt], h.1⟩)
  by_cases h3 : k = 3
  · subst h3
    have h' : n = 0 ∧ t.toList.isEmpty = true := by simpa [mayB] using h
    exact .inr (.inr ⟨rfl, h'.1, isEmpty_eq h'.2, by simp [txt]⟩)
  · simp [mayB, h1, h2, h3] at h

/-- A text is a value's that may be. -/
def IsTxt (s : ByteArray) (k n : Int) (t : ByteArray) (b : Bool) : Prop := mayB k n t b = true ∧ Fits n ∧ txt k n t b = s.data.toList

/-- What guess leaves: a value; if the text is a value's, it is that one. -/
def Guess (s : ByteArray) (w : World) (e : Ending) (w' : World) : Prop :=
  ∃ (k n : Int) (t : ByteArray) (b : Bool), e = .returned (val k n t b) ∧ Fits n ∧ (∀ k' n' t' b', IsTxt s k' n' t' b' → k = k' ∧ n = n' ∧ t = t' ∧ b = b') ∧ Below w.heap.size w w'

theorem guess_of_int {s : ByteArray} {n : Int} (h : ∀ n', Fits n' → s.data.toList = Lib.itoa n' → n = n') (h34 : ∀ r, s.data.toList ≠ 34 :: r) (hb : ∀ b, s.data.toList ≠ Lib.formatBool b) :
    ∀ k' n' t' b', IsTxt s k' n' t' b' → (1 : Int) = k' ∧ n = n' ∧ (⟨#[]⟩ : ByteArray) = t' ∧ false = b' := by
  intro k' n' t' b' ⟨hm, hf, ht⟩
  rcases txt_kind hm with ⟨h1, h2, h3, h4⟩ | ⟨h1, h2, h3, h4, _⟩ | ⟨h1, h2, h3, h4⟩
  · exact ⟨h1.symm, h n' hf (ht.symm.trans h4), h2.symm, h3.symm⟩
  · exact absurd (ht.symm.trans h4) (h34 _)
  · exact absurd (ht.symm.trans h4) (hb _)
theorem guess_of_str {s : ByteArray} {out r : List UInt8} (h : ∀ xs, s.data.toList = 34 :: (escAll xs ++ [34]) → out = xs) (h34 : s.data.toList = 34 :: r) :
    ∀ k' n' t' b', IsTxt s k' n' t' b' → (2 : Int) = k' ∧ 0 = n' ∧ (⟨out.toArray⟩ : ByteArray) = t' ∧ false = b' := by
  intro k' n' t' b' ⟨hm, hf, ht⟩
  rcases txt_kind hm with ⟨h1, h2, h3, h4⟩ | ⟨h1, h2, h3, h4, _⟩ | ⟨h1, h2, h3, h4⟩
  · obtain ⟨c, r', hc, hc'⟩ := itoa_head n'
    rw [h4, hc, h34] at ht
    simp only [List.cons.injEq] at ht
    obtain ⟨rfl, _⟩ := ht
    rcases hc' with hc' | hc'
    · exact absurd hc' (by decide)
    · exact absurd hc'.1 (by decide)
  · have := h _ (ht.symm.trans h4)
    subst this
    exact ⟨h1.symm, h2.symm, rfl, h3.symm⟩
  · rw [h4, h34] at ht
    cases b'
    · rw [formatBool_false] at ht; simp at ht
    · rw [formatBool_true] at ht; simp at ht
theorem guess_of_bool {s : ByteArray} {b : Bool} (h : s.data.toList = Lib.formatBool b) :
    ∀ k' n' t' b', IsTxt s k' n' t' b' → (3 : Int) = k' ∧ 0 = n' ∧ (⟨#[]⟩ : ByteArray) = t' ∧ b = b' := by
  intro k' n' t' b' ⟨hm, hf, ht⟩
  rcases txt_kind hm with ⟨h1, h2, h3, h4⟩ | ⟨h1, h2, h3, h4, _⟩ | ⟨h1, h2, h3, h4⟩
  · obtain ⟨c, r', hc, hc'⟩ := itoa_head n'
    rw [h4, hc, h] at ht
    cases b
    · rw [formatBool_false] at ht; simp only [List.cons.injEq] at ht; obtain ⟨rfl, _⟩ := ht
      rcases hc' with hc' | hc'
      · exact absurd hc' (by decide)
      · exact absurd hc'.2 (by decide)
    · rw [formatBool_true] at ht; simp only [List.cons.injEq] at ht; obtain ⟨rfl, _⟩ := ht
      rcases hc' with hc' | hc'
      · exact absurd hc' (by decide)
      · exact absurd hc'.2 (by decide)
  · rw [h4, h] at ht
    cases b
    · rw [formatBool_false] at ht; simp at ht
    · rw [formatBool_true] at ht; simp at ht
  · rw [h4, h] at ht
    refine ⟨h1.symm, h2.symm, h3.symm, ?_⟩
    cases b <;> cases b' <;> simp [formatBool_true, formatBool_false] at ht ⊢

theorem parseIntB_fits (l : List UInt8) (v : Int) (h : Lib.parseIntB 64 l = .ok v) : Fits v := by
  unfold Fits
  cases l with
  | nil => simp [Lib.parseIntB] at h
  | cons c r =>
    simp only [Lib.parseIntB] at h
    split at h
    · cases h
    · cases h
    · rename_i u hu
      have e63 : (2 : Nat) ^ (64 - 1) = 9223372036854775808 := by decide
      rw [e63] at h
      split at h
      · cases h
      · rename_i h1
        split at h
        · cases h
        · rename_i h2
          simp only [Lib.NumEnd.ok.injEq] at h
          subst h
          split
          · rename_i h3
            have : u ≤ 9223372036854775808 := Nat.le_of_not_lt fun h' => h2 ⟨h3, h'⟩
            omega
          · rename_i h3
            have : u < 9223372036854775808 := Nat.lt_of_not_le fun h' => h1 ⟨h3, h'⟩
            omega
theorem intSat_fits (l : List UInt8) : Fits (Lib.intSat 64 l) := by
  unfold Fits Lib.intSat
  have e63 : (2 : Nat) ^ (64 - 1) = 9223372036854775808 := by decide
  rw [e63]
  split <;> omega

/-- What strconv.ParseInt(s, 10, 64) leaves. -/
def PI (s : ByteArray) (w : World) (e : Ending) (w' : World) : Prop :=
  ∃ (n : Int) (er : Value), e = .returned (.tuple #[.int .i64 n, er]) ∧ Fits n ∧ (∀ n', Fits n' → s.data.toList = Lib.itoa n' → n = n') ∧ Below w.heap.size w w'

theorem parseInt_any (s : ByteArray) (hs : s.size ≤ 140737488351232) (w : World) (hE : Env w) : Calls Tryz.prog 58 #[.string s, .int .i64 10, .int .i64 64] w (PI s w) := by
  obtain ⟨_, ⟨tp2, p2, h2⟩, tp3, p3, h3⟩ := hE
  cases hp : Lib.parseIntB 64 s.data.toList with
  | ok v =>
    refine (Tryz.strconv_ParseInt_10_at64_ok s (by omega) v hp w).mono fun e w' ⟨he, hw⟩ => ⟨v, _, he, parseIntB_fits _ v hp, fun n' hf ht => ?_, ?_⟩
    · rw [ht, parse_itoa n' hf.1 hf.2] at hp; cases hp; rfl
    · rcases hw with rfl | ⟨t, rfl⟩
      · exact Below.refl _ _
      · exact below_bytes w 5 t
  | range =>
    refine (Tryz.strconv_ParseInt_10_at64_range_var s (by omega) hp tp3 p3 w h3).mono fun e w' ⟨N, he, _, _, hb⟩ => ⟨_, _, he, intSat_fits _, fun n' hf ht => ?_, hb⟩
    rw [ht, parse_itoa n' hf.1 hf.2] at hp; cases hp
  | _ =>
    refine (Any.strconv_ParseInt_10_at64_syntax_var Tryz.laysC174 s (by omega) hp tp2 p2 w h2).mono fun e w' ⟨N, he, _, _, hb⟩ => ⟨0, _, he, ⟨by decide, by decide⟩, fun n' hf ht => ?_, hb⟩
    rw [ht, parse_itoa n' hf.1 hf.2] at hp; cases hp

theorem prefix_any (s : ByteArray) (w : World) : Calls Tryz.prog 56 #[.string s, .string ⟨#[34]⟩] w (Gives (.bool (Lib.hasPrefix s.data.toList [34])) w) :=
  (Tryz.strings_HasPrefix s ⟨#[34]⟩ w).mono fun e w' ⟨he, hw⟩ => ⟨he, hw ▸ Below.refl _ _⟩

theorem toList_eq_of {s : ByteArray} {l : List UInt8} (h : (s.toList == l) = true) : s.data.toList = l := by rw [← toList_data]; exact eq_of_beq h

/-- Four cells from g on may be written. -/
def Free4 (w : World) (g : Nat) : Prop := w.frozen? ⟨g, 0, none⟩ = false ∧ w.frozen? ⟨g, 1, none⟩ = false ∧ w.frozen? ⟨g, 2, none⟩ = false ∧ w.frozen? ⟨g, 3, none⟩ = false
theorem free4_new {w w1 : World} {o : Array Value} {t : TypeId} (hb : Below (w.alloc (.cells o t)).heap.size (w.alloc (.cells o t)) w1) : Free4 w1 w.heap.size := by
  have h : ∀ i, w1.frozen? ⟨w.heap.size, i, none⟩ = false := fun i => by
    rw [hb.frozen (p := ⟨w.heap.size, i, none⟩) (by simp)]
    simp
  exact ⟨h 0, h 1, h 2, h 3⟩
theorem Free4.below {w w' : World} {g : Nat} (h : Free4 w g) (hg : g < w.heap.size) (hb : Below w.heap.size w w') : Free4 w' g := by
  have k : ∀ i, w'.frozen? ⟨g, i, none⟩ = w.frozen? ⟨g, i, none⟩ := fun i => hb.frozen (p := ⟨g, i, none⟩) hg
  exact ⟨(k 0).trans h.1, (k 1).trans h.2.1, (k 2).trans h.2.2.1, (k 3).trans h.2.2.2⟩
/-- The world behind a store of a value. -/
abbrev put4 (w : World) (g : Nat) (k n : Int) (t : ByteArray) (b : Bool) : World := (((w.setCell ⟨g, 0, none⟩ (.int .i64 k)).setCell ⟨g, 1, none⟩ (.int .i64 n)).setCell ⟨g, 2, none⟩ (.string t)).setCell ⟨g, 3, none⟩ (.bool b)
theorem below_put4 {w w1 : World} {k n : Int} {t : ByteArray} {b : Bool} {g : Nat} (hb : Below w.heap.size w w1) (hg : w.heap.size ≤ g) : Below w.heap.size w (put4 w1 g k n t b) :=
  (((hb.setCell (p := ⟨g, 0, none⟩) hg _).setCell (p := ⟨g, 1, none⟩) hg _).setCell (p := ⟨g, 2, none⟩) hg _).setCell (p := ⟨g, 3, none⟩) hg _

theorem below_new {w w1 : World} {o : Obj} (hb : Below (w.alloc o).heap.size (w.alloc o) w1) : Below w.heap.size w w1 := ((Below.refl _ _).alloc (Nat.le_refl _) _).trans (hb.mono (by simp))

set_option maxHeartbeats 400000 in
set_option maxRecDepth 20000 in
theorem guess_true (s : ByteArray) (w : World) (h : (s.toList == [116, 114, 117, 101]) = true) : Calls Tryz.prog 47 #[.string s] w (Guess s w) := by
  have HE := Lib.hid ((toList_eq_of h).trans formatBool_true.symm)
  go_enter Tryz.func47, Tryz.ntmps47
  go_wp2_with (go_at_call 43; refine (truth_any true _).mono ?_; rintro e w1 ⟨rfl, hb1⟩; obtain ⟨c0, c1, c2, c3⟩ := (At4.new w 0 0 ⟨#[]⟩ false).below hb1; obtain ⟨f0, f1, f2, f3⟩ := free4_new hb1)
  exact bodyPost_ret (v := val 3 0 ⟨#[]⟩ true) (by simp [results, Tryz.results47, go_sem, c0, c1, c2, c3]) rfl ⟨3, 0, _, true, rfl, ⟨by decide, by decide⟩, guess_of_bool HE.out, below_put4 (below_new hb1) (Nat.le_refl _)⟩

set_option maxHeartbeats 400000 in
set_option maxRecDepth 20000 in
theorem guess_false (s : ByteArray) (w : World) (h1 : (s.toList == [116, 114, 117, 101]) = false) (h : (s.toList == [102, 97, 108, 115, 101]) = true) : Calls Tryz.prog 47 #[.string s] w (Guess s w) := by
  have HE := Lib.hid ((toList_eq_of h).trans formatBool_false.symm)
  go_enter Tryz.func47, Tryz.ntmps47
  go_wp2_with (go_at_call 43; refine (truth_any false _).mono ?_; rintro e w1 ⟨rfl, hb1⟩; obtain ⟨c0, c1, c2, c3⟩ := (At4.new w 0 0 ⟨#[]⟩ false).below hb1; obtain ⟨f0, f1, f2, f3⟩ := free4_new hb1)
  exact bodyPost_ret (v := val 3 0 ⟨#[]⟩ false) (by simp [results, Tryz.results47, go_sem, c0, c1, c2, c3]) rfl ⟨3, 0, _, false, rfl, ⟨by decide, by decide⟩, guess_of_bool HE.out, below_put4 (below_new hb1) (Nat.le_refl _)⟩

set_option maxHeartbeats 400000 in
set_option maxRecDepth 20000 in
theorem guess_word (s : ByteArray) (hs : s.size ≤ 140737488351232) (w : World) (hE : Env w) (h1 : (s.toList == [116, 114, 117, 101]) = false) (h2 : (s.toList == [102, 97, 108, 115, 101]) = false) (r : List UInt8) (h : s.data.toList = 34 :: r) : Calls Tryz.prog 47 #[.string s] w (Guess s w) := by
  have HE := Lib.hid h
  have hp : Lib.hasPrefix s.data.toList [34] = true := by rw [h]; rfl
  have HP := Lib.hid hp
  have hn : 1 ≤ s.size := by have := Lib.size_eq s; rw [h, List.length_cons] at this; omega
  have HN := Lib.hid hn
  have HS := Lib.hid hs
  clear h hp hn hs
  go_enter Tryz.func47, Tryz.ntmps47
  go_wp2_with (first
    | (go_at_call 56; refine (prefix_any s _).mono ?_; rw [HP.out]; rintro e w1 ⟨rfl, hb1⟩; have hE1 := (hE.alloc _).below hb1; have hO1 := (At4.new w 0 0 ⟨#[]⟩ false).below hb1; have hF1 := free4_new hb1; have hz1 : w.heap.size < w1.heap.size := Nat.lt_of_lt_of_le (by simp) hb1.size)
    | (go_at_call 57; refine (unquote_any s HN.out HS.out _ hE1).mono ?_; rintro e w2 ⟨out, rfl, hlen, hout, hb2⟩; have HO := Lib.hid hout; clear hout; have hO2 := hO1.below hb2; have hF2 := hF1.below hz1 hb2; have hz2 : w.heap.size < w2.heap.size := Nat.lt_of_lt_of_le hz1 hb2.size)
    | (go_at_call 12; refine (word_any ⟨out.toArray⟩ _).mono ?_; rintro e w3 ⟨rfl, hb3⟩; obtain ⟨c0, c1, c2, c3⟩ := hO2.below hb3; obtain ⟨f0, f1, f2, f3⟩ := hF2.below hz2 hb3))
  exact bodyPost_ret (v := val 2 0 ⟨out.toArray⟩ false) (by simp [results, Tryz.results47, go_sem, c0, c1, c2, c3]) rfl ⟨2, 0, _, false, rfl, ⟨by decide, by decide⟩, guess_of_str HO.out HE.out, below_put4 ((below_new hb1).trans ((hb2.trans (hb3.mono hb2.size)).mono (by omega))) (Nat.le_refl _)⟩

set_option maxHeartbeats 400000 in
set_option maxRecDepth 20000 in
theorem guess_int (s : ByteArray) (hs : s.size ≤ 140737488351232) (w : World) (hE : Env w) (h1 : (s.toList == [116, 114, 117, 101]) = false) (h2 : (s.toList == [102, 97, 108, 115, 101]) = false) (h : ∀ r, s.data.toList ≠ 34 :: r) : Calls Tryz.prog 47 #[.string s] w (Guess s w) := by
  have HE := Lib.hid h
  have hp : Lib.hasPrefix s.data.toList [34] = false := by
    cases hd : s.data.toList with
    | nil => rfl
    | cons a r =>
      have : a ≠ 34 := fun e => h r (by rw [hd, e])
      show (List.isPrefixOf [34] (a :: r)) = false
      simp [List.isPrefixOf]
      exact fun e => this e.symm
  have HB : Hid (∀ b, s.data.toList ≠ Lib.formatBool b) := Lib.hid fun b e => by
    rw [← toList_data] at e
    cases b
    · rw [formatBool_false] at e; rw [e] at h2; exact absurd h2 (by decide)
    · rw [formatBool_true] at e; rw [e] at h1; exact absurd h1 (by decide)
  have HP := Lib.hid hp
  have HS := Lib.hid hs
  clear h hp hs
  go_enter Tryz.func47, Tryz.ntmps47
  go_wp2_with (first
    | (go_at_call 56; refine (prefix_any s _).mono ?_; rw [HP.out]; rintro e w1 ⟨rfl, hb1⟩; have hE1 := (hE.alloc _).below hb1; have hO1 := (At4.new w 0 0 ⟨#[]⟩ false).below hb1; have hF1 := free4_new hb1; have hz1 : w.heap.size < w1.heap.size := Nat.lt_of_lt_of_le (by simp) hb1.size)
    | (go_at_call 58; refine (parseInt_any s HS.out _ hE1).mono ?_; rintro e w2 ⟨n, er, rfl, hfit, hout, hb2⟩; have HO := Lib.hid hout; have HF := Lib.hid hfit; clear hout hfit; have hO2 := hO1.below hb2; have hF2 := hF1.below hz1 hb2; have hz2 : w.heap.size < w2.heap.size := Nat.lt_of_lt_of_le hz1 hb2.size)
    | (go_at_call 19; refine (number_any n _).mono ?_; rintro e w3 ⟨rfl, hb3⟩; obtain ⟨c0, c1, c2, c3⟩ := hO2.below hb3; obtain ⟨f0, f1, f2, f3⟩ := hF2.below hz2 hb3))
  exact bodyPost_ret (v := val 1 n ⟨#[]⟩ false) (by simp [results, Tryz.results47, go_sem, c0, c1, c2, c3]) rfl ⟨1, n, _, false, rfl, HF.out, guess_of_int HO.out HE.out HB.out, below_put4 ((below_new hb1).trans ((hb2.trans (hb3.mono hb2.size)).mono (by omega))) (Nat.le_refl _)⟩

theorem guess_any (s : ByteArray) (hs : s.size ≤ 140737488351232) (w : World) (hE : Env w) : Calls Tryz.prog 47 #[.string s] w (Guess s w) := by
  cases h1 : (s.toList == [116, 114, 117, 101]) with
  | true => exact guess_true s w h1
  | false =>
    cases h2 : (s.toList == [102, 97, 108, 115, 101]) with
    | true => exact guess_false s w h1 h2
    | false =>
      cases hd : s.data.toList with
      | nil => exact guess_int s hs w hE h1 h2 (by intro r; rw [hd]; simp)
      | cons a r =>
        by_cases ha : a = 34
        · subst ha; exact guess_word s hs w hE h1 h2 r hd
        · exact guess_int s hs w hE h1 h2 (by intro r'; rw [hd]; intro e; exact ha (List.cons.inj e).1)
end Go.Proofs.YtgjniopcaahgfaaGreatDoor
