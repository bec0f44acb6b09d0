/- Events as the chapter has them: which may be, their texts; a text taken piece by piece. Plain facts. -/
import Derived.Test.YtgjniopcaahgfaaGreatDoorP
set_option linter.unusedSimpArgs false
set_option linter.unusedVariables false
namespace Go.Proofs.YtgjniopcaahgfaaGreatDoor
open Go.RowKit

/-- An attribute: a name, and a value's four parts. -/
structure Attr where
  nm : ByteArray
  k : Int
  n : Int
  s : ByteArray
  b : Bool
instance : Inhabited Attr := ⟨⟨⟨#[]⟩, 0, 0, ⟨#[]⟩, false⟩⟩
/-- Its five cells. -/
def encA (a : Attr) : List Value := [.string a.nm, .int .i64 a.k, .int .i64 a.n, .string a.s, .bool a.b]

def namedB (c : UInt8) : Bool := (decide (97 ≤ c.toNat) && decide (c.toNat ≤ 122)) || (decide (48 ≤ c.toNat) && decide (c.toNat ≤ 57)) || c.toNat == 45 || c.toNat == 46 || c.toNat == 95
def nameB (s : ByteArray) : Bool := s.data.toList.all namedB && (decide (1 ≤ s.size) && decide (s.size ≤ 16))
def lessN (a b : ByteArray) : Bool := Op.bytesLess a.toList b.toList
def okA (a : Attr) : Bool := nameB a.nm && mayB a.k a.n a.s a.b
def okAt (l : List Attr) (i : Nat) : Bool := okA (l.getD i default) && (i == 0 || lessN (l.getD (i - 1) default).nm (l.getD i default).nm)
def mayE (key : ByteArray) (l : List Attr) : Bool := decide (key.size ≤ 16) && decide (l.length ≤ 8) && (List.range l.length).all (okAt l)
/-- The text of an attribute; of all of them, each behind a blank; of an event. -/
def attT (a : Attr) : List UInt8 := a.nm.data.toList ++ 61 :: txt a.k a.n a.s a.b
def flat (l : List Attr) : List UInt8 := l.flatMap fun a => 32 :: attT a
def txtE (key : ByteArray) (l : List Attr) : List UInt8 := txt 2 0 key false ++ flat l
def FitsA (l : List Attr) : Prop := ∀ a ∈ l, Fits a.n
def IsEv (s : ByteArray) (key : ByteArray) (l : List Attr) : Prop := mayE key l = true ∧ FitsA l ∧ txtE key l = s.data.toList

/-- Attributes that rise, each with a name and a value that may be. -/
def riseB : List UInt8 → List Attr → Bool
  | _, [] => true
  | p, a :: r => okA a && Op.bytesLess p a.nm.data.toList && riseB a.nm.data.toList r
theorem rise_step : ∀ (l : List Attr) (x : Attr), (∀ i, i < l.length → okAt (x :: l) (i + 1) = true) → riseB x.nm.data.toList l = true
  | [], _, _ => rfl
  | a :: l, x, h => by
    have h0 := h 0 (by simp)
    simp [okAt, lessN, toList_data] at h0
    simp only [riseB, h0, Bool.true_and]
    refine rise_step l a fun i hi => ?_
    have := h (i + 1) (by simp; omega)
    simpa [okAt] using this
theorem rise_of_may {key : ByteArray} {l : List Attr} (h : mayE key l = true) : riseB [] l = true := by
  have h2 : ∀ i, i < l.length → okAt l i = true := by
    simp only [mayE, Bool.and_eq_true, List.all_eq_true, List.mem_range] at h
    exact h.2
  cases l with
  | nil => rfl
  | cons a l =>
    have h0 := h2 0 (by simp)
    simp [okAt] at h0
    have hn : 1 ≤ a.nm.data.toList.length := by
      have h3 := h0
      simp only [okA, nameB, Bool.and_eq_true, decide_eq_true_eq] at h3
      have := Lib.size_eq a.nm; omega
    simp only [riseB, h0, Bool.true_and, Bool.and_eq_true]
    refine ⟨?_, rise_step l a fun i hi => h2 (i + 1) (by simp; omega)⟩
    cases ha : a.nm.data.toList with
    | nil => rw [ha] at hn; simp at hn
    | cons c r => rfl
theorem ok_of_rise : ∀ {p : List UInt8} {l : List Attr}, riseB p l = true → ∀ a ∈ l, okA a = true
  | _, [], _, a, ha => absurd ha (by simp)
  | p, x :: l, h, a, ha => by
    simp only [riseB, Bool.and_eq_true] at h
    rcases List.mem_cons.1 ha with rfl | ha
    · exact h.1.1
    · exact ok_of_rise h.2 a ha
theorem ok_parts {a : Attr} (h : okA a = true) : nameB a.nm = true ∧ mayB a.k a.n a.s a.b = true := by simpa [okA] using h

/-- What a reader takes: what stands ahead of the first e that is not between marks; and what is left behind it. -/
def nextF (e : UInt8) : Bool → List UInt8 → List UInt8 × List UInt8
  | _, [] => ([], [])
  | q, c :: r =>
    if c = 34 then (c :: (nextF e (!q) r).1, (nextF e (!q) r).2)
    else if c = 92 ∧ q = true then
      match r with
      | [] => ([c], [])
      | d :: r' => (c :: d :: (nextF e q r').1, (nextF e q r').2)
    else if c = e ∧ q = false then ([], r)
    else (c :: (nextF e q r).1, (nextF e q r).2)

theorem nextF_nil (e : UInt8) (q : Bool) : nextF e q [] = ([], []) := by rw [nextF.eq_def]
theorem nextF_mark (e : UInt8) (q : Bool) (r : List UInt8) : nextF e q (34 :: r) = (34 :: (nextF e (!q) r).1, (nextF e (!q) r).2) := by rw [nextF.eq_def]; simp
theorem nextF_esc (e d : UInt8) (r : List UInt8) : nextF e true (92 :: d :: r) = (92 :: d :: (nextF e true r).1, (nextF e true r).2) := by rw [nextF.eq_def]; simp
theorem nextF_esc0 (e : UInt8) : nextF e true [92] = ([92], []) := by rw [nextF.eq_def]; simp
theorem next_end (e : UInt8) (r : List UInt8) (he : e ≠ 34) : nextF e false (e :: r) = ([], r) := by rw [nextF.eq_def]; simp [he]
theorem nextF_go (e c : UInt8) (q : Bool) (r : List UInt8) (h1 : c ≠ 34) (h2 : ¬ (c = 92 ∧ q = true)) (h3 : ¬ (c = e ∧ q = false)) : nextF e q (c :: r) = (c :: (nextF e q r).1, (nextF e q r).2) := by rw [nextF.eq_def]; simp only [h1, h2, h3, if_false]
theorem next_plain (e : UInt8) (r : List UInt8) : ∀ (t : List UInt8), (∀ c ∈ t, c ≠ 34 ∧ c ≠ e) → nextF e false (t ++ r) = (t ++ (nextF e false r).1, (nextF e false r).2)
  | [], _ => rfl
  | c :: t, h => by
    have h1 := h c (by simp)
    have ih := next_plain e r t fun d hd => h d (by simp [hd])
    rw [List.cons_append, nextF_go e c false _ h1.1 (by simp) (by simp [h1.2]), ih]
    rfl
theorem next_quoted (e : UInt8) (r : List UInt8) : ∀ (xs : List UInt8), nextF e true (escAll xs ++ 34 :: r) = (escAll xs ++ 34 :: (nextF e false r).1, (nextF e false r).2)
  | [] => by simp [escAll, nextF_mark]
  | x :: xs => by
    have ih := next_quoted e r xs
    rw [escAll_cons, List.append_assoc]
    by_cases h1 : x.toNat = 34 ∨ x.toNat = 92
    · rw [show escB x = [92, x] by unfold escB; rw [if_pos h1]]
      simp [nextF_esc, ih]
    by_cases h2 : x.toNat < 32 ∨ 126 < x.toNat
    · rw [show escB x = [92, 120, hexd (hi4 x), hexd (lo4 x)] by unfold escB; rw [if_neg h1, if_pos h2]]
      have hh : ∀ k, k < 16 → hexd k ≠ 34 ∧ hexd k ≠ 92 := by decide
      obtain ⟨a1, a2⟩ := hh _ (hi4_lt x)
      obtain ⟨b1, b2⟩ := hh _ (lo4_lt x)
      simp only [List.cons_append, List.nil_append]
      rw [nextF_esc, nextF_go e _ true _ a1 (fun h => a2 h.1) (by simp), nextF_go e _ true _ b1 (fun h => b2 h.1) (by simp), ih]
    · rw [show escB x = [x] by unfold escB; rw [if_neg h1, if_neg h2]]
      have n1 : x ≠ 34 := fun e => h1 (.inl (by rw [e]; rfl))
      have n2 : x ≠ 92 := fun e => h1 (.inr (by rw [e]; rfl))
      rw [List.cons_append, nextF_go e x true _ n1 (fun h => n2 h.1) (by simp), List.nil_append, ih]
      rfl

/-- A piece that a reader passes whole. -/
def Neu (t : List UInt8) : Prop := ∀ e, e = 32 ∨ e = 61 → ∀ r, nextF e false (t ++ r) = (t ++ (nextF e false r).1, (nextF e false r).2)
theorem itoa_mem (n : Int) : ∀ c ∈ Lib.itoa n, c.toNat = 45 ∨ (48 ≤ c.toNat ∧ c.toNat ≤ 57) := by
  intro c hc
  unfold Lib.itoa at hc
  split at hc
  · rcases List.mem_cons.1 hc with rfl | hc
    · exact .inl rfl
    · exact .inr (decDigits_all _ c hc)
  · exact .inr (decDigits_all _ c hc)
theorem neu_txt {k n : Int} {t : ByteArray} {b : Bool} (h : mayB k n t b = true) : Neu (txt k n t b) := by
  intro e he r
  rcases txt_kind h with ⟨_, _, _, h4⟩ | ⟨_, _, _, h4, h5⟩ | ⟨_, _, _, h4⟩
  · rw [h4]
    refine next_plain e r _ fun c hc => ?_
    have := itoa_mem n c hc
    constructor
    · rintro rfl; revert this; decide
    · rintro rfl
      rcases he with rfl | rfl
      · revert this; decide
      · revert this; decide
  · rw [h4]
    have e34 : e ≠ 34 := by rcases he with rfl | rfl <;> decide
    have := next_quoted e r t.data.toList
    simp only [List.cons_append, List.append_assoc, List.nil_append]
    rw [nextF_mark, Bool.not_false, this]
  · rw [h4]
    refine next_plain e r _ fun c hc => ?_
    cases b
    · rw [formatBool_false] at hc
      simp only [List.mem_cons, List.not_mem_nil, or_false] at hc
      rcases he with rfl | rfl <;> rcases hc with rfl | rfl | rfl | rfl | rfl <;> decide
    · rw [formatBool_true] at hc
      simp only [List.mem_cons, List.not_mem_nil, or_false] at hc
      rcases he with rfl | rfl <;> rcases hc with rfl | rfl | rfl | rfl <;> decide
theorem named_plain {c : UInt8} (h : namedB c = true) : c ≠ 34 ∧ c ≠ 61 ∧ c ≠ 32 := by
  refine ⟨?_, ?_, ?_⟩ <;> rintro rfl <;> exact absurd h (by decide)

/-- What is left of attributes' texts behind a taken blank. -/
def lead (r : List UInt8) : List UInt8 := if r = [] then [] else 32 :: r
theorem attT_ne {a : Attr} (h : nameB a.nm = true) : attT a ≠ [] := by unfold attT; simp
theorem next_flat {t : List UInt8} (ht : Neu t) (l : List Attr) : ∃ r, nextF 32 false (t ++ flat l) = (t, r) ∧ lead r = flat l := by
  rw [ht 32 (.inl rfl)]
  cases l with
  | nil => exact ⟨[], by simp [flat, nextF_nil], rfl⟩
  | cons a l =>
    refine ⟨attT a ++ flat l, ?_, ?_⟩
    · show (t ++ (nextF 32 false (32 :: (attT a ++ flat l))).1, (nextF 32 false (32 :: (attT a ++ flat l))).2) = _
      rw [next_end 32 _ (by decide)]; simp
    · have : attT a ++ flat l ≠ [] := by unfold attT; simp
      rw [lead, if_neg this]; rfl
theorem next_name {nm : ByteArray} (h : nameB nm = true) (r : List UInt8) : nextF 61 false (nm.data.toList ++ 61 :: r) = (nm.data.toList, r) := by
  simp only [nameB, Bool.and_eq_true, List.all_eq_true] at h
  rw [next_plain 61 _ _ fun c hc => ⟨(named_plain (h.1 c hc)).1, (named_plain (h.1 c hc)).2.1⟩, next_end 61 r (by decide)]
  simp
theorem may_key {key : ByteArray} {l : List Attr} (h : mayE key l = true) : mayB 2 0 key false = true := by
  simp only [mayE, Bool.and_eq_true, decide_eq_true_eq] at h
  simp [mayB]; omega
theorem bytes_eq {a b : ByteArray} (h : a.data.toList = b.data.toList) : a = b := by
  obtain ⟨⟨x⟩⟩ := a; obtain ⟨⟨y⟩⟩ := b
  simp only at h; subst h; rfl

/-- What holds of a reading of s, as far as it has come: the key, the attributes read, what is left. -/
def Reads (s : ByteArray) (key : ByteArray) (l : List Attr) (r : List UInt8) : Prop :=
  ∀ key' l', IsEv s key' l' → key = key' ∧ ∃ l2, l' = l ++ l2 ∧ flat l2 = lead r ∧ riseB [] l' = true
theorem reads_start {s : ByteArray} {key : ByteArray} (hk : ∀ key' : ByteArray, mayB 2 0 key' false = true → (nextF 32 false s.data.toList).1 = txt 2 0 key' false → key = key') : Reads s key [] (nextF 32 false s.data.toList).2 := by
  intro key' l' ⟨hm, hf, ht⟩
  obtain ⟨r, h1, h2⟩ := next_flat (neu_txt (may_key hm)) l'
  have h3 : nextF 32 false s.data.toList = (txt 2 0 key' false, r) := by rw [← ht]; exact h1
  rw [h3] at hk ⊢
  exact ⟨hk key' (may_key hm) rfl, l', rfl, h2.symm, rise_of_may hm⟩
theorem rise_drop : ∀ {p : List UInt8} {l l2 : List Attr}, riseB p (l ++ l2) = true → ∃ p', riseB p' l2 = true
  | p, [], l2, h => ⟨p, h⟩
  | p, a :: l, l2, h => by
    simp only [List.cons_append, riseB, Bool.and_eq_true] at h
    exact rise_drop h.2
theorem reads_step {s key : ByteArray} {l : List Attr} {r : List UInt8} {a : Attr} (h : Reads s key l r) (hr : r ≠ []) (hn : a.nm.data.toList = (nextF 61 false r).1)
    (hv : ∀ k n t b, mayB k n t b = true → Fits n → (nextF 32 false (nextF 61 false r).2).1 = txt k n t b → a.k = k ∧ a.n = n ∧ a.s = t ∧ a.b = b) :
    Reads s key (l ++ [a]) (nextF 32 false (nextF 61 false r).2).2 := by
  intro key' l' he
  obtain ⟨rfl, l2, rfl, hfl, hri⟩ := h key' l' he
  refine ⟨rfl, ?_⟩
  cases l2 with
  | nil => simp [flat, lead, hr] at hfl
  | cons x l3 =>
    obtain ⟨p', hp'⟩ := rise_drop hri
    simp only [riseB, Bool.and_eq_true] at hp'
    obtain ⟨hnm, hmy⟩ := ok_parts hp'.1.1
    have hx : r = x.nm.data.toList ++ 61 :: (txt x.k x.n x.s x.b ++ flat l3) := by
      have : flat (x :: l3) = 32 :: (attT x ++ flat l3) := rfl
      rw [this, lead, if_neg hr] at hfl
      rw [← (List.cons.inj hfl).2, attT, List.append_assoc]; rfl
    have h61 := next_name hnm (txt x.k x.n x.s x.b ++ flat l3)
    rw [← hx] at h61
    obtain ⟨r2, h32, hl⟩ := next_flat (neu_txt hmy) l3
    rw [h61] at hn hv ⊢
    simp only at hn hv ⊢
    rw [h32] at hv ⊢
    simp only at hv ⊢
    obtain ⟨a1, a2, a3, a4⟩ := hv x.k x.n x.s x.b hmy (he.2.1 x (by simp)) rfl
    have hax : a = x := by
      obtain ⟨nm, k, n, t, b⟩ := a; obtain ⟨nm', k', n', t', b'⟩ := x
      simp only at a1 a2 a3 a4 hn
      rw [a1, a2, a3, a4, bytes_eq hn]
    subst hax
    exact ⟨l3, by simp, hl.symm, hri⟩
theorem reads_end {s key : ByteArray} {l : List Attr} (h : Reads s key l []) : ∀ key' l', IsEv s key' l' → key = key' ∧ l = l' := by
  intro key' l' he
  obtain ⟨rfl, l2, rfl, hfl, _⟩ := h key' l' he
  cases l2 with
  | nil => simp
  | cons x l3 => simp [flat, lead] at hfl
theorem reads_more {s key : ByteArray} {l : List Attr} {r : List UInt8} (h : Reads s key l r) (hl : 8 < l.length) : ∀ key' l', ¬ IsEv s key' l' := by
  intro key' l' he
  obtain ⟨rfl, l2, rfl, hfl, _⟩ := h key' l' he
  have := he.1
  simp only [mayE, Bool.and_eq_true, decide_eq_true_eq, List.length_append] at this
  omega

theorem isTxt_key {key key' : ByteArray} (h : mayB 2 0 key false = true) (h' : mayB 2 0 key' false = true) (he : txt 2 0 key false = txt 2 0 key' false) : key = key' := by
  have f0 : Fits 0 := ⟨by decide, by decide⟩
  exact (isTxt_unique (s := ⟨(txt 2 0 key false).toArray⟩) ⟨h, f0, by simp⟩ ⟨h', f0, by simp [he]⟩).2.2.1
theorem txt_inj {k n : Int} {t : ByteArray} {b : Bool} {k' n' : Int} {t' : ByteArray} {b' : Bool} (h : mayB k n t b = true) (hf : Fits n) (h' : mayB k' n' t' b' = true) (hf' : Fits n') (he : txt k n t b = txt k' n' t' b') : k = k' ∧ n = n' ∧ t = t' ∧ b = b' :=
  isTxt_unique (s := ⟨(txt k n t b).toArray⟩) ⟨h, hf, by simp⟩ ⟨h', hf', by simp [he]⟩
theorem flat_inj : ∀ (l l' : List Attr) (p p' : List UInt8), riseB p l = true → riseB p' l' = true → FitsA l → FitsA l' → flat l = flat l' → l = l'
  | [], [], _, _, _, _, _, _, _ => rfl
  | [], x :: l', _, _, _, _, _, _, h => by simp [flat] at h
  | x :: l, [], _, _, _, _, _, _, h => by simp [flat] at h
  | x :: l, y :: l', p, p', h1, h2, f1, f2, h => by
    simp only [riseB, Bool.and_eq_true] at h1 h2
    obtain ⟨n1, m1⟩ := ok_parts h1.1.1
    obtain ⟨n2, m2⟩ := ok_parts h2.1.1
    have h' : x.nm.data.toList ++ 61 :: (txt x.k x.n x.s x.b ++ flat l) = y.nm.data.toList ++ 61 :: (txt y.k y.n y.s y.b ++ flat l') := by
      have a1 : flat (x :: l) = 32 :: (attT x ++ flat l) := rfl
      have a2 : flat (y :: l') = 32 :: (attT y ++ flat l') := rfl
      rw [a1, a2] at h
      have := (List.cons.inj h).2
      simpa [attT] using this
    have e1 := next_name n1 (txt x.k x.n x.s x.b ++ flat l)
    rw [h', next_name n2] at e1
    simp only [Prod.mk.injEq] at e1
    obtain ⟨r1, g1, l1⟩ := next_flat (neu_txt m1) l
    rw [← e1.2] at g1
    obtain ⟨r2, g2, l2⟩ := next_flat (neu_txt m2) l'
    rw [g2] at g1
    simp only [Prod.mk.injEq] at g1
    obtain ⟨q1, q2, q3, q4⟩ := txt_inj m1 (f1 x (by simp)) m2 (f2 y (by simp)) g1.1.symm
    have hxy : x = y := by
      obtain ⟨nm, k, n, t, b⟩ := x; obtain ⟨nm', k', n', t', b'⟩ := y
      simp only at q1 q2 q3 q4 e1
      rw [q1, q2, q3, q4, bytes_eq e1.1.symm]
    subst hxy
    have hl : l = l' := flat_inj l l' _ _ h1.2 h2.2 (fun a ha => f1 a (by simp [ha])) (fun a ha => f2 a (by simp [ha])) (by rw [← l1, ← l2, g1.2])
    rw [hl]
theorem isEv_unique {s key key' : ByteArray} {l l' : List Attr} (h : IsEv s key l) (h' : IsEv s key' l') : key = key' ∧ l = l' := by
  obtain ⟨r1, g1, l1⟩ := next_flat (neu_txt (may_key h.1)) l
  obtain ⟨r2, g2, l2⟩ := next_flat (neu_txt (may_key h'.1)) l'
  have e : txt 2 0 key false ++ flat l = txt 2 0 key' false ++ flat l' := h.2.2.trans h'.2.2.symm
  rw [e, g2] at g1
  simp only [Prod.mk.injEq] at g1
  refine ⟨(isTxt_key (may_key h'.1) (may_key h.1) g1.1).symm, flat_inj l l' _ _ (rise_of_may h.1) (rise_of_may h'.1) h.2.1 h'.2.1 ?_⟩
  rw [← l1, ← l2, g1.2]
end Go.Proofs.YtgjniopcaahgfaaGreatDoor
