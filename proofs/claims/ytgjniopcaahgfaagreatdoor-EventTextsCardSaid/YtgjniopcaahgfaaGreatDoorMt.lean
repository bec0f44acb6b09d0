/- Events' texts as the document reads them: where a quoted part ends, where a value's text ends. Plain facts. -/
import Derived.Test.YtgjniopcaahgfaaGreatDoorMa
set_option linter.unusedSimpArgs false
set_option linter.unusedVariables false
namespace Go.Proofs.YtgjniopcaahgfaaGreatDoor
open Go.RowKit

/-- How many bytes stand ahead of the mark that ends a quoted part. -/
def scanQ : List UInt8 → Option Nat
  | [] => none
  | c :: r =>
    if c = 34 then some 0
    else if c = 92 then
      match r with
      | [] => none
      | _ :: r' => (scanQ r').map (· + 2)
    else (scanQ r).map (· + 1)
theorem scanQ_nil : scanQ [] = none := by rw [scanQ.eq_def]
theorem scanQ_mark (r : List UInt8) : scanQ (34 :: r) = some 0 := by rw [scanQ.eq_def]; simp
theorem scanQ_esc0 : scanQ [92] = none := by rw [scanQ.eq_def]; simp
theorem scanQ_esc (d : UInt8) (r : List UInt8) : scanQ (92 :: d :: r) = (scanQ r).map (· + 2) := by rw [scanQ.eq_def]; simp
theorem scanQ_go (c : UInt8) (r : List UInt8) (h1 : c ≠ 34) (h2 : c ≠ 92) : scanQ (c :: r) = (scanQ r).map (· + 1) := by rw [scanQ.eq_def]; simp only [h1, h2, if_false]
theorem scanQ_lt : ∀ (n : Nat) (l : List UInt8), l.length ≤ n → ∀ k, scanQ l = some k → k < l.length
  | _, [], _, k, h => by rw [scanQ_nil] at h; cases h
  | 0, _ :: _, h, _, _ => by simp at h
  | n + 1, c :: r, hn, k, h => by
    by_cases h1 : c = 34
    · subst h1; rw [scanQ_mark] at h; cases h; simp
    by_cases h2 : c = 92
    · subst h2
      cases r with
      | nil => rw [scanQ_esc0] at h; cases h
      | cons d r =>
        rw [scanQ_esc] at h
        cases hs : scanQ r with
        | none => rw [hs] at h; cases h
        | some j =>
          rw [hs] at h; simp only [Option.map_some, Option.some.injEq] at h
          have := scanQ_lt n r (by simp at hn; omega) j hs
          simp; omega
    · rw [scanQ_go c r h1 h2] at h
      cases hs : scanQ r with
      | none => rw [hs] at h; cases h
      | some j =>
        rw [hs] at h; simp only [Option.map_some, Option.some.injEq] at h
        have := scanQ_lt n r (by simp at hn; omega) j hs
        simp; omega
theorem scanQ_escAll (r : List UInt8) : ∀ (xs : List UInt8), scanQ (escAll xs ++ 34 :: r) = some (escAll xs).length
  | [] => by simp [escAll, scanQ_mark]
  | x :: xs => by
    have ih := scanQ_escAll r xs
    rw [escAll_cons, List.append_assoc]
    by_cases h1 : x.toNat = 34 ∨ x.toNat = 92
    · rw [show escB x = [92, x] by unfold escB; rw [if_pos h1]]
      simp [scanQ_esc, ih]
    by_cases h2 : x.toNat < 32 ∨ 126 < x.toNat
    · rw [show escB x = [92, 120, hexd (hi4 x), hexd (lo4 x)] by unfold escB; rw [if_neg h1, if_pos h2]]
      have hh : ∀ k, k < 16 → hexd k ≠ 34 ∧ hexd k ≠ 92 := by decide
      obtain ⟨a1, a2⟩ := hh _ (hi4_lt x)
      obtain ⟨b1, b2⟩ := hh _ (lo4_lt x)
      simp only [List.cons_append, List.nil_append]
      rw [scanQ_esc, scanQ_go _ _ a1 a2, scanQ_go _ _ b1 b2, ih]
      simp
    · rw [show escB x = [x] by unfold escB; rw [if_neg h1, if_neg h2]]
      have n1 : x ≠ 34 := fun e => h1 (.inl (by rw [e]; rfl))
      have n2 : x ≠ 92 := fun e => h1 (.inr (by rw [e]; rfl))
      rw [List.cons_append, scanQ_go _ _ n1 n2, List.nil_append, ih]
      simp

/-- Where the quoted part that begins a text ends; where the value's text that begins a text ends. -/
def quotedN (L : List UInt8) : Nat := match scanQ (L.drop 1) with
  | some k => k + 2
  | none => 0
def upTo (c : UInt8) (L : List UInt8) : Nat := (L.takeWhile (· != c)).length
def wordN (L : List UInt8) : Nat := if L.head? = some 34 then quotedN L else upTo 32 L
theorem upTo_le (c : UInt8) (L : List UInt8) : upTo c L ≤ L.length := (List.takeWhile_sublist _).length_le
theorem upTo_app {c : UInt8} {t r : List UInt8} (h : ∀ x ∈ t, x ≠ c) (hr : r = [] ∨ ∃ r', r = c :: r') : upTo c (t ++ r) = t.length := by
  unfold upTo
  rw [List.takeWhile_append_of_pos (by simpa using h)]
  rcases hr with rfl | ⟨r', rfl⟩ <;> simp
theorem upTo_at {c : UInt8} {L : List UInt8} {j : Nat} (hj : j ≤ L.length) (h : ∀ i, i < j → L.getD i 0 ≠ c) (he : j < L.length → L.getD j 0 = c) : upTo c L = j := by
  have e : L = L.take j ++ L.drop j := (List.take_append_drop j L).symm
  have h1 : upTo c (L.take j ++ L.drop j) = (L.take j).length := by
    refine upTo_app (fun x hx => ?_) ?_
    · obtain ⟨i, hi, rfl⟩ := List.mem_iff_getElem.1 hx
      rw [List.length_take] at hi
      have := h i (by omega)
      rw [List.getD_eq_getElem?_getD, List.getElem?_eq_getElem (by omega)] at this
      rw [List.getElem_take]; exact this
    · rcases Nat.lt_or_ge j L.length with hl | hl
      · right
        refine ⟨L.drop (j + 1), ?_⟩
        have := he hl
        rw [List.getD_eq_getElem?_getD, List.getElem?_eq_getElem hl] at this
        rw [List.drop_eq_getElem_cons hl]
        simp only [Option.getD_some] at this
        rw [this]
      · left; exact List.drop_eq_nil_of_le hl
  rw [← e] at h1
  rw [h1, List.length_take]; omega
theorem quotedN_le (L : List UInt8) : quotedN L ≤ L.length := by
  unfold quotedN
  split
  · next k h =>
    have := scanQ_lt _ _ (Nat.le_refl _) k h
    rw [List.length_drop] at this; omega
  · omega
theorem wordN_le (L : List UInt8) : wordN L ≤ L.length := by
  unfold wordN
  split
  · exact quotedN_le L
  · exact upTo_le 32 L
theorem no_blank {k n : Int} {t : ByteArray} {b : Bool} (h : mayB k n t b = true) (hk : k ≠ 2) : (∀ c ∈ txt k n t b, c ≠ 32) ∧ ∃ c r, txt k n t b = c :: r ∧ c ≠ 34 := by
  rcases txt_kind h with ⟨_, _, _, h4⟩ | ⟨h2, _⟩ | ⟨_, _, _, h4⟩
  · rw [h4]
    refine ⟨fun c hc => ?_, ?_⟩
    · have := itoa_mem n c hc
      rintro rfl; revert this; decide
    · cases hi : Lib.itoa n with
      | nil =>
        exfalso
        unfold Lib.itoa at hi
        split at hi
        · cases hi
        · exact decDigits_ne _ hi
      | cons c r =>
        refine ⟨c, r, rfl, ?_⟩
        have := itoa_mem n c (by rw [hi]; simp)
        rintro rfl; revert this; decide
  · exact absurd h2 hk
  · rw [h4]
    cases b
    · rw [formatBool_false]; exact ⟨by decide, _, _, rfl, by decide⟩
    · rw [formatBool_true]; exact ⟨by decide, _, _, rfl, by decide⟩
/-- The text of a value ends where the document says, whatever blank stands behind. -/
theorem word_txt {k n : Int} {t : ByteArray} {b : Bool} (h : mayB k n t b = true) {r : List UInt8} (hr : r = [] ∨ ∃ r', r = 32 :: r') : wordN (txt k n t b ++ r) = (txt k n t b).length := by
  by_cases hk : k = 2
  · rcases txt_kind h with ⟨h2, _⟩ | ⟨_, _, _, h4, _⟩ | ⟨h2, _⟩
    · omega
    · rw [h4]
      unfold wordN
      rw [if_pos (by simp)]
      unfold quotedN
      simp only [List.cons_append, List.drop_succ_cons, List.drop_zero, List.append_assoc, List.nil_append]
      rw [scanQ_escAll]
      simp
    · omega
  · obtain ⟨h1, c, r', h2, h3⟩ := no_blank h hk
    unfold wordN
    rw [if_neg (by rw [h2]; simpa using h3)]
    exact upTo_app h1 hr
theorem flat_head (l : List Attr) : flat l = [] ∨ ∃ r', flat l = 32 :: r' := by
  cases l with
  | nil => exact .inl rfl
  | cons a l => exact .inr ⟨_, rfl⟩

/-- As far as the document's reading of a text has come. -/
structure Rp (s key : ByteArray) (l : List Attr) (at' : Nat) : Prop where
  le : at' ≤ s.data.toList.length
  eq : s.data.toList.take at' = txt 2 0 key false ++ flat l
  kmay : mayB 2 0 key false = true
  fits : FitsA l
  len : l.length ≤ 8
  only : ∀ key' l', IsEv s key' l' → key = key' ∧ ∃ l2, l' = l ++ l2 ∧ flat l2 = s.data.toList.drop at'
/-- Its beginning: the key. -/
theorem rp_start {s p : ByteArray} {k n : Int} {t : ByteArray} {b : Bool} (hp : p.data.toList = s.data.toList.take (wordN s.data.toList)) (h : IsTxt p k n t b) (hk : k = 2) : Rp s t [] (wordN s.data.toList) := by
  subst hk
  obtain ⟨h1, h2, h3⟩ := h
  have hm := h1
  simp only [mayB, show ¬ (2 : Int) = 1 by decide, if_false, if_true, Bool.and_eq_true, beq_iff_eq, Bool.not_eq_true'] at hm
  obtain ⟨_, rfl, rfl⟩ := hm
  refine ⟨wordN_le _, by rw [← hp, ← h3]; simp [flat], h1, fun a ha => by simp at ha, by simp, fun key' l' he => ?_⟩
  have hw : wordN s.data.toList = (txt 2 0 key' false).length := by
    rw [← he.2.2]; exact word_txt (may_key he.1) (flat_head l')
  have hs := he.2.2
  unfold txtE at hs
  have e1 : txt 2 0 t false = txt 2 0 key' false := by
    rw [h3, hp, hw, ← hs]; simp
  refine ⟨isTxt_key h1 (may_key he.1) e1, l', rfl, ?_⟩
  rw [hw, ← hs]; simp
theorem rp_start_no {s p : ByteArray} (hp : p.data.toList = s.data.toList.take (wordN s.data.toList)) (h : ∀ k n t b, IsTxt p k n t b → k ≠ 2) : ∀ key l, ¬ IsEv s key l := by
  intro key l he
  have hw : wordN s.data.toList = (txt 2 0 key false).length := by
    rw [← he.2.2]; exact word_txt (may_key he.1) (flat_head l)
  refine h 2 0 key false ⟨may_key he.1, ⟨by decide, by decide⟩, ?_⟩ rfl
  rw [hp, hw, ← he.2.2]; simp [txtE]
theorem app_mark {c : UInt8} : ∀ {a b x y : List UInt8}, c ∉ a → c ∉ b → a ++ c :: x = b ++ c :: y → a = b ∧ x = y
  | [], [], _, _, _, _, h => ⟨rfl, (List.cons.inj h).2⟩
  | [], z :: b, _, _, _, hb, h => by simp only [List.nil_append, List.cons_append, List.cons.injEq] at h; exact absurd (by simp [h.1]) hb
  | z :: a, [], _, _, ha, _, h => by simp only [List.nil_append, List.cons_append, List.cons.injEq] at h; exact absurd (by simp [h.1]) ha
  | z :: a, z' :: b, _, _, ha, hb, h => by
    simp only [List.cons_append, List.cons.injEq] at h
    obtain ⟨rfl, h⟩ := h
    obtain ⟨rfl, h2⟩ := app_mark (fun hm => ha (by simp [hm])) (fun hm => hb (by simp [hm])) h
    exact ⟨rfl, h2⟩
theorem name_no_eq {a : Attr} (h : okA a = true) : (61 : UInt8) ∉ a.nm.data.toList := by
  intro hm
  have h1 := (ok_parts h).1
  simp only [nameB, Bool.and_eq_true, List.all_eq_true] at h1
  exact (named_plain (h1.1 _ hm)).2.1 rfl
/-- What of the rest is not read yet begins with a blank and an attribute. -/
theorem rp_next {s key : ByteArray} {l : List Attr} {at' : Nat} (h : Rp s key l at') (hat : at' < s.data.toList.length) {key' : ByteArray} {l' : List Attr} (he : IsEv s key' l') :
    l.length < 8 ∧ ∃ x l3, l' = l ++ x :: l3 ∧ okA x = true ∧ s.data.toList.drop at' = 32 :: (x.nm.data.toList ++ 61 :: (txt x.k x.n x.s x.b ++ flat l3)) := by
  obtain ⟨rfl, l2, rfl, hfl⟩ := h.only key' l' he
  cases l2 with
  | nil =>
    have : (s.data.toList.drop at').length = 0 := by rw [← hfl]; rfl
    rw [List.length_drop] at this; omega
  | cons x l3 =>
    have h8 := he.1
    simp only [mayE, Bool.and_eq_true, decide_eq_true_eq, List.length_append, List.length_cons] at h8
    refine ⟨by omega, x, l3, rfl, ok_of_rise (rise_of_may he.1) x (by simp), ?_⟩
    rw [← hfl]
    have : flat (x :: l3) = 32 :: (attT x ++ flat l3) := rfl
    rw [this, attT]; simp
theorem rp_no_blank {s key : ByteArray} {l : List Attr} {at' : Nat} (h : Rp s key l at') (hat : at' < s.data.toList.length) (hb : s.data.toList.getD at' 0 ≠ 32 ∨ l.length = 8) : ∀ key' l', ¬ IsEv s key' l' := by
  intro key' l' he
  obtain ⟨h8, x, l3, rfl, _, hd⟩ := rp_next h hat he
  rcases hb with hb | hb
  · apply hb
    rw [List.getD_eq_getElem?_getD, List.getElem?_eq_getElem hat]
    rw [List.drop_eq_getElem_cons hat] at hd
    exact (List.cons.inj hd).1
  · omega
theorem rp_no_name {s key : ByteArray} {l : List Attr} {at' : Nat} (h : Rp s key l at') (hat : at' < s.data.toList.length) (hb : upTo 61 (s.data.toList.drop (at' + 1)) = (s.data.toList.drop (at' + 1)).length) : ∀ key' l', ¬ IsEv s key' l' := by
  intro key' l' he
  obtain ⟨h8, x, l3, rfl, hx, hd⟩ := rp_next h hat he
  rw [List.drop_eq_getElem_cons hat] at hd
  have hd2 := (List.cons.inj hd).2
  rw [hd2, upTo_app (fun y hy => by rintro rfl; exact name_no_eq hx hy) (.inr ⟨_, rfl⟩)] at hb
  simp at hb
/-- One attribute more. -/
theorem rp_step {s key nm p : ByteArray} {l : List Attr} {at' m : Nat} {k n : Int} {t : ByteArray} {b : Bool} (h : Rp s key l at') (hat : at' < s.data.toList.length) (hbl : s.data.toList.getD at' 0 = 32) (h8 : l.length < 8)
    (hm : m = upTo 61 (s.data.toList.drop (at' + 1))) (hlt : at' + 1 + m < s.data.toList.length) (hnm : nm.data.toList = (s.data.toList.drop (at' + 1)).take m)
    (hp : p.data.toList = (s.data.toList.drop (at' + 1 + m + 1)).take (wordN (s.data.toList.drop (at' + 1 + m + 1)))) :
    (IsTxt p k n t b → Rp s key (l ++ [⟨nm, k, n, t, b⟩]) (at' + 1 + m + 1 + wordN (s.data.toList.drop (at' + 1 + m + 1)))) ∧ ((∀ k n t b, ¬ IsTxt p k n t b) → ∀ key' l', ¬ IsEv s key' l') := by
  obtain ⟨L, hL⟩ : ∃ L, s.data.toList = L := ⟨_, rfl⟩
  rw [hL] at hat hbl hm hlt hnm hp ⊢
  have hdr : L.drop at' = 32 :: L.drop (at' + 1) := by
    rw [List.drop_eq_getElem_cons hat]
    rw [List.getD_eq_getElem?_getD, List.getElem?_eq_getElem hat] at hbl
    simp only [Option.getD_some] at hbl
    rw [hbl]
  have hlen : m < (L.drop (at' + 1)).length := by rw [List.length_drop]; omega
  have hnone : (61 : UInt8) ∉ (L.drop (at' + 1)).take m := by
    have e : (L.drop (at' + 1)).take m = (L.drop (at' + 1)).takeWhile (· != 61) := by
      have h1 := List.takeWhile_append_dropWhile (p := (· != (61 : UInt8))) (l := L.drop (at' + 1))
      have h2 : (L.drop (at' + 1)).take m = ((L.drop (at' + 1)).takeWhile (· != 61) ++ (L.drop (at' + 1)).dropWhile (· != 61)).take m := by rw [h1]
      rw [h2, List.take_append_of_le_length (by rw [hm]; exact Nat.le_refl _), List.take_of_length_le (by rw [hm]; exact Nat.le_refl _)]
    rw [e]
    intro hmem
    have := List.all_takeWhile (p := (· != (61 : UInt8))) (l := L.drop (at' + 1))
    rw [List.all_eq_true] at this
    have := this _ hmem
    simp at this
  have hmark : L.drop (at' + 1) = nm.data.toList ++ 61 :: L.drop (at' + 1 + m + 1) := by
    rw [hnm]
    have h1 : L.drop (at' + 1 + m) = (L.drop (at' + 1)).drop m := by rw [List.drop_drop]
    have hd : (L.drop (at' + 1)).dropWhile (· != 61) = (L.drop (at' + 1)).drop m := by
      have h2 := List.takeWhile_append_dropWhile (p := (· != (61 : UInt8))) (l := L.drop (at' + 1))
      have h3 : (L.drop (at' + 1)).drop m = ((L.drop (at' + 1)).takeWhile (· != 61) ++ (L.drop (at' + 1)).dropWhile (· != 61)).drop m := by rw [h2]
      rw [h3, hm]; unfold upTo; rw [List.drop_left]
    have hh : (L.drop (at' + 1)).drop m = 61 :: L.drop (at' + 1 + m + 1) := by
      rw [← h1, List.drop_eq_getElem_cons hlt]
      congr 1
      have h4 : (L.drop (at' + 1)).dropWhile (· != 61) = L[at' + 1 + m] :: L.drop (at' + 1 + m + 1) := by rw [hd, ← h1, List.drop_eq_getElem_cons hlt]
      have h5 := List.head?_dropWhile_not (p := (· != (61 : UInt8))) (l := L.drop (at' + 1))
      rw [h4] at h5
      simp only [List.head?_cons] at h5
      simpa using h5
    rw [← hh, List.take_append_drop]
  have hwl := wordN_le (L.drop (at' + 1 + m + 1))
  constructor
  · rintro ⟨i1, i2, i3⟩
    refine ⟨?_, ?_, h.kmay, ?_, by simp; omega, ?_⟩
    · rw [hL]; rw [List.length_drop] at hwl; omega
    · have e : L.take (at' + 1 + m + 1 + wordN (L.drop (at' + 1 + m + 1))) = L.take at' ++ (32 :: (nm.data.toList ++ 61 :: p.data.toList)) := by
        have e1 : L = L.take at' ++ (32 :: (nm.data.toList ++ 61 :: L.drop (at' + 1 + m + 1))) := by
          rw [← hmark, ← hdr, List.take_append_drop]
        have hlat : (L.take at').length = at' := by rw [List.length_take]; omega
        have hlnm : nm.data.toList.length = m := by rw [hnm, List.length_take]; omega
        rw [hp]
        generalize L.drop (at' + 1 + m + 1) = R at *
        generalize wordN R = W at *
        conv => lhs; rw [e1]
        rw [List.take_append, hlat, List.take_of_length_le (by rw [hlat]; omega)]
        congr 1
        rw [show at' + 1 + m + 1 + W - at' = (m + 1 + W) + 1 by omega, List.take_succ_cons]
        congr 1
        rw [List.take_append, hlnm, List.take_of_length_le (by omega)]
        congr 1
        rw [show m + 1 + W - m = W + 1 by omega, List.take_succ_cons]
      have hq := h.eq
      rw [hL] at hq ⊢
      rw [e, hq, ← i3]
      simp [flat, attT]
    · intro a ha
      rcases List.mem_append.1 ha with ha | ha
      · exact h.fits a ha
      · simp only [List.mem_singleton] at ha; subst ha; exact i2
    · intro key' l' he
      obtain ⟨_, x, l3, rfl, hx, hd⟩ := rp_next h (by rw [hL]; exact hat) he
      rw [hL, hdr, hmark] at hd
      obtain ⟨hn1, hr⟩ := app_mark (by rw [hnm]; exact hnone) (name_no_eq hx) (List.cons.inj hd).2
      have hw : wordN (L.drop (at' + 1 + m + 1)) = (txt x.k x.n x.s x.b).length := by rw [hr]; exact word_txt (ok_parts hx).2 (flat_head l3)
      have hpt : p.data.toList = txt x.k x.n x.s x.b := by rw [hp, hw, hr]; simp
      have hxe := isTxt_unique (s := p) ⟨i1, i2, i3⟩ ⟨(ok_parts hx).2, he.2.1 x (by simp), hpt.symm⟩
      have hax : (⟨nm, k, n, t, b⟩ : Attr) = x := by
        obtain ⟨nm', k', n', t', b'⟩ := x
        obtain ⟨rfl, rfl, rfl, rfl⟩ := hxe
        rw [bytes_eq hn1]
      refine ⟨(h.only key' _ he).1, l3, by rw [hax]; simp, ?_⟩
      rw [hL, ← List.drop_drop, hw, hr]; simp
  · intro hno key' l' he
    obtain ⟨_, x, l3, rfl, hx, hd⟩ := rp_next h (by rw [hL]; exact hat) he
    rw [hL, hdr, hmark] at hd
    obtain ⟨hn1, hr⟩ := app_mark (by rw [hnm]; exact hnone) (name_no_eq hx) (List.cons.inj hd).2
    have hw : wordN (L.drop (at' + 1 + m + 1)) = (txt x.k x.n x.s x.b).length := by rw [hr]; exact word_txt (ok_parts hx).2 (flat_head l3)
    have hpt : p.data.toList = txt x.k x.n x.s x.b := by rw [hp, hw, hr]; simp
    exact hno _ _ _ _ ⟨(ok_parts hx).2, he.2.1 x (by simp), hpt.symm⟩
/-- All is read: the text is an event's just if what was read may be one. -/
theorem rp_end {s key : ByteArray} {l : List Attr} (h : Rp s key l s.data.toList.length) : (mayE key l = true → IsEv s key l) ∧ (mayE key l = false → ∀ key' l', ¬ IsEv s key' l') := by
  constructor
  · intro hm
    refine ⟨hm, h.fits, ?_⟩
    have := h.eq
    rw [List.take_length] at this
    exact this.symm
  · intro hm key' l' he
    obtain ⟨rfl, l2, rfl, hfl⟩ := h.only key' l' he
    rw [List.drop_length] at hfl
    cases l2 with
    | nil => rw [List.append_nil] at he; have := he.1; rw [hm] at this; cases this
    | cons x l3 => simp [flat] at hfl
end Go.Proofs.YtgjniopcaahgfaaGreatDoor
