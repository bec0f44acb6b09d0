/- Closed facts on events: reckoned by plain functions; what Make and Parse answer where the answer is known. -/
import Derived.Test.YtgjniopcaahgfaaGreatDoorMm
set_option linter.unusedSimpArgs false
set_option linter.unusedVariables false
namespace Go.Proofs.YtgjniopcaahgfaaGreatDoor
open Go.RowKit

/-! ### The same words, in a form that reckons -/
def mayC (k n : Int) (s : ByteArray) (b : Bool) : Bool := if k = 1 then s.data.toList.isEmpty && !b else if k = 2 then decide (s.size ≤ 32) && (n == 0 && !b) else if k = 3 then n == 0 && s.data.toList.isEmpty else false
theorem mayC_eq (k n : Int) (s : ByteArray) (b : Bool) : mayB k n s b = mayC k n s b := by unfold mayB mayC; rw [toList_data]
def riseC : List UInt8 → List Attr → Bool
  | _, [] => true
  | p, a :: r => (nameB a.nm && mayC a.k a.n a.s a.b) && Op.bytesLess p a.nm.data.toList && riseC a.nm.data.toList r
theorem riseC_eq : ∀ (p : List UInt8) (l : List Attr), riseB p l = riseC p l
  | _, [] => rfl
  | p, a :: r => by simp only [riseB, riseC, okA, mayC_eq, riseC_eq a.nm.data.toList r]
theorem at_of_rise : ∀ (l : List Attr) (x : Attr), riseB x.nm.data.toList l = true → ∀ i, i < l.length → okAt (x :: l) (i + 1) = true
  | [], x, _, i, hi => by simp at hi
  | a :: l, x, h, 0, _ => by
    simp only [riseB, Bool.and_eq_true] at h
    simp [okAt, lessN, toList_data, h.1.1, h.1.2]
  | a :: l, x, h, i + 1, hi => by
    simp only [riseB, Bool.and_eq_true] at h
    have := at_of_rise l a h.2 i (by simpa using hi)
    simpa [okAt] using this
theorem may_of_rise {key : ByteArray} {l : List Attr} (hk : key.size ≤ 16) (hl : l.length ≤ 8) (h : riseC [] l = true) : mayE key l = true := by
  rw [← riseC_eq] at h
  have h2 : (List.range l.length).all (okAt l) = true := by
    rw [List.all_eq_true]
    intro i hi
    rw [List.mem_range] at hi
    cases l with
    | nil => simp at hi
    | cons a l =>
      simp only [riseB, Bool.and_eq_true] at h
      cases i with
      | zero => simp [okAt, h.1.1]
      | succ i => exact at_of_rise l a h.2 i (by simpa using hi)
  simp [mayE, hk, hl, h2]
/-- Two of one name: no order makes an event of them. -/
theorem dup_no {key : ByteArray} {l : List Attr} (h : ¬ (l.map fun a => a.nm.data.toList).Nodup) : ∀ l', l'.Perm l → mayE key l' = false := by
  intro l' hp
  cases hm : mayE key l' with
  | false => rfl
  | true =>
    refine absurd ((hp.map fun a => a.nm.data.toList).nodup_iff.1 ?_) h
    have := rise_less (rise_of_may hm)
    rw [List.nodup_iff_pairwise_ne, List.pairwise_map]
    refine this.imp fun {a b} hab e => ?_
    have : cmpN a b = 0 := by unfold cmpN; rw [e, compareBytes_self]
    omega
/-- One that may not stand in an event: no order makes an event of them. -/
theorem bad_no {key : ByteArray} {l : List Attr} {a : Attr} (ha : a ∈ l) (h : (nameB a.nm && mayC a.k a.n a.s a.b) = false) : ∀ l', l'.Perm l → mayE key l' = false := by
  intro l' hp
  cases hm : mayE key l' with
  | false => rfl
  | true =>
    have := ok_of_rise (rise_of_may hm) a (hp.symm.subset ha)
    rw [okA, mayC_eq] at this
    rw [this] at h; cases h
theorem key_no {key : ByteArray} {l : List Attr} (h : 16 < key.size) : ∀ l', l'.Perm l → mayE key l' = false := by
  intro l' hp; simp [mayE]; omega

/-! ### What Make and Parse answer -/
theorem make_is {key : ByteArray} {v : Value} {l l0 : List Attr} {w : World} (hS : Sl w v l) (hR : Room l) (hp : l0.Perm l) (hm : mayE key l0 = true) :
    Calls Tryz.prog 18 #[.string key, v] w fun e w' => ∃ sl, e = .returned (.tuple #[.agg #[.string key, sl], .int .i64 0]) ∧ Fr w' w.heap.size sl l0 ∧ Below w.heap.size w w' := by
  refine (emake_any key v l w hS hR).mono fun e w' ⟨hb, h⟩ => ?_
  rcases h with ⟨l', sl, hp', hm', hfr, he⟩ | ⟨hno, _⟩
  · have hs : SortN l' := (rise_less (rise_of_may hm')).imp fun {a b} h => by have := cmpN_neg a b; omega
    obtain rfl := sort_unique (hp'.trans hp.symm) hs hm
    exact ⟨sl, he, hfr, hb⟩
  · rw [hno l0 hp] at hm; cases hm
theorem make_no {key : ByteArray} {v : Value} {l : List Attr} {w : World} (hS : Sl w v l) (hR : Room l) (hno : ∀ l', l'.Perm l → mayE key l' = false) :
    Calls Tryz.prog 18 #[.string key, v] w (Gives (.tuple #[.agg #[.string ⟨#[]⟩, .slice none 0 0], .int .i64 30]) w) := by
  refine (emake_any key v l w hS hR).mono fun e w' ⟨hb, h⟩ => ?_
  rcases h with ⟨l', sl, hp', hm', hfr, he⟩ | ⟨_, he⟩
  · rw [hno l' hp'] at hm'; cases hm'
  · exact ⟨he, hb⟩
theorem parse_is {s key : ByteArray} {l : List Attr} {w : World} (hE : Env w) (hs : s.size ≤ 140737488351232) (h : IsEv s key l) :
    Calls Tryz.prog 6 #[.string s] w fun e w' => ∃ sl, e = .returned (.tuple #[.agg #[.string key, sl], .int .i64 0]) ∧ Own w' w.heap.size sl l ∧ Below w.heap.size w w' := by
  refine (eparse_any s hs w hE).mono fun e w' ⟨hb, h'⟩ => ?_
  rcases h' with ⟨key', l', sl, he, _, hO, h2⟩ | ⟨hno, _⟩
  · obtain ⟨rfl, rfl⟩ := isEv_unique he h
    exact ⟨sl, h2, hO, hb⟩
  · exact absurd h (hno key l)
theorem parse_no {s : ByteArray} {w : World} (hE : Env w) (hs : s.size ≤ 140737488351232) (h : ∀ key l, ¬ IsEv s key l) :
    Calls Tryz.prog 6 #[.string s] w (Gives (.tuple #[.agg #[.string ⟨#[]⟩, .slice none 0 0], .int .i64 5]) w) := by
  refine (eparse_any s hs w hE).mono fun e w' ⟨hb, h'⟩ => ?_
  rcases h' with ⟨key', l', sl, he, _⟩ | ⟨_, he⟩
  · exact absurd he (h key' l')
  · exact ⟨he, hb⟩

/-! ### Texts that are no event's -/
def valC (t : List UInt8) : Bool := match t with
  | [] => false
  | [_] => true
  | c :: _ => c != 48
def chkR : Nat → List UInt8 → List UInt8 → Bool
  | 0, _, _ => false
  | f + 1, p, r => r.isEmpty || (!(nextF 61 false r).1.isEmpty && (nextF 61 false r).1.all namedB && Op.bytesLess p (nextF 61 false r).1 && valC (nextF 32 false (nextF 61 false r).2).1 && chkR f (nextF 61 false r).1 (nextF 32 false (nextF 61 false r).2).2)
def keyC (t : List UInt8) : Bool := t.head? == some 34 && decide (2 ≤ t.length) && t.getLast? == some 34
def chk (s : List UInt8) : Bool := keyC (nextF 32 false s).1 && s.getLast? != some 32 && chkR 9 [] (nextF 32 false s).2
theorem txt_key (key : ByteArray) : txt 2 0 key false = 34 :: (escAll key.data.toList ++ [34]) := by simp [txt]
theorem decDigits_head : ∀ (u : Nat) (c : UInt8) (r : List UInt8), Lib.decDigits u = c :: r → c = 48 → r = [] := by
  intro u
  induction u using Nat.strongRecOn with
  | _ u ih =>
    intro c r h hc
    rw [Lib.decDigits] at h
    split at h
    · simp only [List.cons.injEq] at h; exact h.2.symm
    · rename_i h10
      cases hd : Lib.decDigits (u / 10) with
      | nil => exact absurd hd (decDigits_ne _)
      | cons a t =>
        rw [hd, List.cons_append, List.cons.injEq] at h
        obtain ⟨rfl, rfl⟩ := h
        have h2 := ih (u / 10) (by omega) a t hd hc
        subst h2
        exfalso
        by_cases h3 : u / 10 < 10
        · rw [Lib.decDigits_one h3] at hd
          simp only [List.cons.injEq, and_true] at hd
          have := dig_nat (u / 10) h3
          rw [hd, hc] at this
          simp at this
          omega
        · have h4 := Lib.decDigits_length (u / 10)
          rw [hd, Lib.nDigits_big h3] at h4
          have h5 := Lib.decDigits_length (u / 10 / 10)
          have h6 := List.length_pos_iff.2 (decDigits_ne (u / 10 / 10))
          simp at h4
          omega
theorem txt_valC {k n : Int} {t : ByteArray} {b : Bool} (h : mayB k n t b = true) : valC (txt k n t b) = true := by
  rcases txt_kind h with ⟨_, _, _, h4⟩ | ⟨_, _, _, h4, h5⟩ | ⟨_, _, _, h4⟩
  · rw [h4]
    have key : ∀ l : List UInt8, l ≠ [] → (∀ c r, l = c :: r → c = 48 → r = []) → valC l = true := by
      intro l hne hh
      match l, hne, hh with
      | [_], _, _ => rfl
      | c :: d :: r, _, hh =>
        show (c != 48) = true
        rw [bne_iff_ne]
        intro e
        have := hh c (d :: r) rfl e
        cases this
    unfold Lib.itoa
    split
    · refine key _ (by simp) fun c r hc h48 => ?_
      simp only [List.cons.injEq] at hc
      rw [← hc.1] at h48
      exact absurd h48 (by decide)
    · exact key _ (decDigits_ne _) (decDigits_head _)
  · rw [h4]
    cases hd : escAll t.data.toList ++ [34] with
    | nil => simp at hd
    | cons c r => rfl
  · rw [h4]; cases b
    · rw [formatBool_false]; rfl
    · rw [formatBool_true]; rfl
theorem txt_last {k n : Int} {t : ByteArray} {b : Bool} (h : mayB k n t b = true) : ∃ r c, txt k n t b = r ++ [c] ∧ c ≠ 32 := by
  have key : ∀ l : List UInt8, l ≠ [] → (∀ c ∈ l, c ≠ 32) → ∃ r c, l = r ++ [c] ∧ c ≠ 32 := by
    intro l hne hh
    exact ⟨l.dropLast, l.getLast hne, (List.dropLast_concat_getLast hne).symm, hh _ (List.getLast_mem hne)⟩
  rcases txt_kind h with ⟨_, _, _, h4⟩ | ⟨_, _, _, h4, h5⟩ | ⟨_, _, _, h4⟩
  · rw [h4]
    refine key _ ?_ fun c hc => ?_
    · unfold Lib.itoa; split
      · simp
      · exact decDigits_ne _
    · have := itoa_mem n c hc
      rintro rfl; revert this; decide
  · rw [h4]; exact ⟨34 :: escAll t.data.toList, 34, rfl, by decide⟩
  · rw [h4]; cases b
    · rw [formatBool_false]; exact ⟨[102, 97, 108, 115], 101, rfl, by decide⟩
    · rw [formatBool_true]; exact ⟨[116, 114, 117], 101, rfl, by decide⟩
theorem chkR_of : ∀ (f : Nat) (l : List Attr) (p r : List UInt8), l.length < f → riseB p l = true → lead r = flat l → chkR f p r = true
  | 0, l, p, r, h, _, _ => by omega
  | f + 1, [], p, r, _, _, h => by
    have : r = [] := by
      by_cases hr : r = []
      · exact hr
      · rw [lead, if_neg hr] at h; simp [flat] at h
    subst this; rfl
  | f + 1, x :: l, p, r, hf, hr, h => by
    have hne : r ≠ [] := by rintro rfl; simp [lead, flat] at h
    have hx : r = x.nm.data.toList ++ 61 :: (txt x.k x.n x.s x.b ++ flat l) := by
      have : flat (x :: l) = 32 :: (attT x ++ flat l) := rfl
      rw [this, lead, if_neg hne] at h
      rw [(List.cons.inj h).2, attT, List.append_assoc]; rfl
    simp only [riseB, Bool.and_eq_true] at hr
    obtain ⟨hn, hm⟩ := ok_parts hr.1.1
    have h61 := next_name hn (txt x.k x.n x.s x.b ++ flat l)
    rw [← hx] at h61
    obtain ⟨r2, h32, hl⟩ := next_flat (neu_txt hm) l
    rw [chkR, h61]
    simp only [h32, chkR_of f l x.nm.data.toList r2 (by simpa using hf) hr.2 hl, txt_valC hm, hr.1.2, Bool.and_true]
    simp only [nameB, Bool.and_eq_true, decide_eq_true_eq] at hn
    have h1 : x.nm.data.toList.isEmpty = false := by
      have := Lib.size_eq x.nm
      have hn1 := hn.2.1
      cases hd : x.nm.data.toList with
      | nil => rw [hd, List.length_nil] at this; omega
      | cons => rfl
    simp [hn.1, h1]
theorem chk_of {s key : ByteArray} {l : List Attr} (h : IsEv s key l) : chk s.data.toList = true := by
  have hm := may_key h.1
  obtain ⟨r, h32, hl⟩ := next_flat (neu_txt hm) l
  have h8 : l.length ≤ 8 := by have := h.1; simp only [mayE, Bool.and_eq_true, decide_eq_true_eq] at this; omega
  have hs : s.data.toList = txt 2 0 key false ++ flat l := h.2.2.symm
  rw [chk, hs, h32]
  simp only [chkR_of 9 l [] r (by omega) (rise_of_may h.1) hl, Bool.and_true, Bool.and_eq_true]
  refine ⟨?_, ?_⟩
  · rw [txt_key]
    simp [keyC]
    rw [List.getLast?_cons]
    simp
  · have hl2 : ∃ t c, txt 2 0 key false ++ flat l = t ++ [c] ∧ c ≠ 32 := by
      rcases List.eq_nil_or_concat l with rfl | ⟨l', x, rfl⟩
      · obtain ⟨t, c, h1, h2⟩ := txt_last hm
        exact ⟨t, c, by simp [flat, h1], h2⟩
      · obtain ⟨t, c, h1, h2⟩ := txt_last (ok_parts (ok_of_rise (rise_of_may h.1) x (by simp))).2
        refine ⟨txt 2 0 key false ++ (flat l' ++ (32 :: (x.nm.data.toList ++ 61 :: t))), c, ?_, h2⟩
        simp [flat, attT, h1]
    obtain ⟨t, c, h1, h2⟩ := hl2
    rw [h1]
    simp [h2]
theorem no_ev {s : ByteArray} (h : chk s.data.toList = false) : ∀ key l, ¬ IsEv s key l := fun key l he => by rw [chk_of he] at h; cases h
end Go.Proofs.YtgjniopcaahgfaaGreatDoor
