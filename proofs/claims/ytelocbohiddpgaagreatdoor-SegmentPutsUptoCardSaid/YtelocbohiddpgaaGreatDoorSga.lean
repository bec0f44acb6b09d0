/- Layer 12: records of a segment, plainly: their forms, what is whole. -/
import Derived.Test.YtelocbohiddpgaaGreatDoorFma
import Derived.Test.YtelocbohiddpgaaGreatDoorWf
set_option linter.unusedSimpArgs false
set_option linter.unusedVariables false
namespace Go.Proofs.YtelocbohiddpgaaGreatDoor.Crc
open Go

/-- A record: its number, its bytes. -/
structure Rc where
  n : Nat
  d : List UInt8
deriving DecidableEq
instance : Inhabited Rc := ⟨⟨0, []⟩⟩
def okN (n : Nat) : Bool := decide (1 ≤ n) && decide (n ≤ 1099511627776)
theorem okN_iff (n : Nat) : okN n = true ↔ 1 ≤ n ∧ n ≤ 1099511627776 := by unfold okN; simp
def okRc (r : Rc) : Bool := okN r.n && decide (r.d.length ≤ 1500)
theorem okRc_iff (r : Rc) : okRc r = true ↔ (1 ≤ r.n ∧ r.n ≤ 1099511627776) ∧ r.d.length ≤ 1500 := by unfold okRc; simp [okN_iff]
def bodyL (r : Rc) : List UInt8 := formN r.n ++ r.d
def formR (r : Rc) : List UInt8 := frm (bodyL r)
theorem body_len {r : Rc} (h : okRc r = true) : 1 ≤ (bodyL r).length ∧ (bodyL r).length ≤ 1510 := by
  have h1 := (okRc_iff r).1 h
  have h2 := formN_length (v := r.n) (by omega)
  unfold bodyL
  rw [List.length_append]
  omega
theorem body_may {r : Rc} (h : okRc r = true) : mayR (bodyL r) = true := by
  have := body_len h
  rw [mayR_iff]
  omega
theorem formR_length (r : Rc) : (formR r).length = (bodyL r).length + 8 := frm_length _
/-- The record of which bytes are the body. -/
def recOf (b : List UInt8) : Option Rc := match readN b 1099511627776 with
  | .ok n k => if okRc ⟨n, b.drop k⟩ then some ⟨n, b.drop k⟩ else none
  | .err _ => none
theorem rec_form {r : Rc} (h : okRc r = true) : recOf (bodyL r) = some r := by
  have h1 := (okRc_iff r).1 h
  unfold recOf bodyL
  rw [read_form (by omega), if_neg (by omega)]
  simp only [List.drop_left' rfl]
  rw [if_pos h]
theorem rec_is {b : List UInt8} {r : Rc} (h : recOf b = some r) : okRc r = true ∧ b = bodyL r := by
  unfold recOf at h
  cases hr : readN b 1099511627776 with
  | err e => rw [hr] at h; cases h
  | ok n k =>
    rw [hr] at h
    simp only at h
    obtain ⟨_, _, _, _, h5⟩ := read_ok hr
    by_cases ho : okRc ⟨n, b.drop k⟩ = true
    · rw [if_pos ho] at h
      injection h with h
      subst h
      refine ⟨ho, ?_⟩
      unfold bodyL
      rw [← h5, List.take_append_drop]
    · rw [if_neg ho] at h; cases h
/-- Numbers that rise from a least one on. -/
def rises : Nat → List Rc → Prop
  | _, [] => True
  | least, r :: l => okRc r = true ∧ least ≤ r.n ∧ rises (r.n + 1) l
def nextN : Nat → List Rc → Nat
  | least, [] => least
  | _, r :: l => nextN (r.n + 1) l
theorem rises_weak {a b : Nat} (h : a ≤ b) : ∀ {l : List Rc}, rises b l → rises a l
  | [], _ => trivial
  | r :: l, ⟨h1, h2, h3⟩ => ⟨h1, Nat.le_trans h h2, h3⟩
theorem rises_ok : ∀ {a : Nat} {l : List Rc}, rises a l → ∀ r ∈ l, okRc r = true
  | _, [], _, r, hr => by cases hr
  | _, x :: l, ⟨h1, _, h3⟩, r, hr => by
    rcases List.mem_cons.1 hr with rfl | hr
    · exact h1
    · exact rises_ok h3 r hr
theorem next_ge : ∀ {a : Nat} {l : List Rc}, rises a l → a ≤ nextN a l
  | a, [], _ => Nat.le_refl a
  | a, r :: l, ⟨_, h2, h3⟩ => by have := next_ge h3; unfold nextN; omega
theorem rises_app : ∀ {a : Nat} {l m : List Rc}, rises a (l ++ m) ↔ rises a l ∧ rises (nextN a l) m
  | _, [], m => by simp [rises, nextN]
  | a, r :: l, m => by
    simp only [List.cons_append, rises, nextN, rises_app (a := r.n + 1) (l := l) (m := m)]
    constructor
    · rintro ⟨h1, h2, h3, h4⟩; exact ⟨⟨h1, h2, h3⟩, h4⟩
    · rintro ⟨⟨h1, h2, h3⟩, h4⟩; exact ⟨h1, h2, h3, h4⟩
theorem next_app : ∀ (a : Nat) (l m : List Rc), nextN a (l ++ m) = nextN (nextN a l) m
  | _, [], _ => rfl
  | a, r :: l, m => by simp only [List.cons_append, nextN]; exact next_app (r.n + 1) l m
theorem next_snoc (a : Nat) (l : List Rc) (r : Rc) : nextN a (l ++ [r]) = r.n + 1 := by rw [next_app]; rfl
theorem rises_snoc {a : Nat} {l : List Rc} {r : Rc} (h : rises a l) (ho : okRc r = true) (hn : nextN a l ≤ r.n) : rises a (l ++ [r]) := rises_app.2 ⟨h, ho, hn, trivial⟩
theorem rises_drop {a : Nat} {l : List Rc} (h : rises a l) (k : Nat) : rises a (l.drop k) := by
  have e := List.take_append_drop k l
  rw [← e] at h
  obtain ⟨h1, h2⟩ := rises_app.1 h
  exact rises_weak (next_ge h1) h2
theorem rises_take {a : Nat} {l : List Rc} (h : rises a l) (k : Nat) : rises a (l.take k) := by
  have e := List.take_append_drop k l
  rw [← e] at h
  exact (rises_app.1 h).1
theorem rises_lt : ∀ {a : Nat} {l : List Rc}, rises a l → ∀ {i j : Nat} (hi : i < l.length) (hj : j < l.length), i < j → l[i].n < l[j].n
  | a, r :: l, ⟨_, _, h3⟩, 0, j + 1, _, hj, _ => by
    have h4 : ∀ {b : Nat} {m : List Rc}, rises b m → ∀ x ∈ m, b ≤ x.n := fun {b m} => by
      induction m generalizing b with
      | nil => intro _ x hx; cases hx
      | cons y m ih =>
        rintro ⟨_, g2, g3⟩ x hx
        rcases List.mem_cons.1 hx with rfl | hx
        · exact g2
        · have := ih g3 x hx; omega
    have := h4 h3 (l[j]'(by simpa using hj)) (List.getElem_mem _)
    simp only [List.getElem_cons_zero, List.getElem_cons_succ]
    omega
  | a, r :: l, ⟨_, _, h3⟩, i + 1, j + 1, hi, hj, hlt => by
    simp only [List.getElem_cons_succ]
    exact rises_lt h3 (by simpa using hi) (by simpa using hj) (by omega)
  | _, _, _, _, 0, _, _, hlt => by omega
/-- The records of bodies: of the beginning that is a segment's. -/
def segF : Nat → List (List UInt8) → List Rc
  | _, [] => []
  | least, f :: fs => match recOf f with
    | none => []
    | some r => if least ≤ r.n then r :: segF (r.n + 1) fs else []
theorem segF_nil (a : Nat) : segF a [] = [] := rfl
theorem segF_none {a : Nat} {f : List UInt8} {fs : List (List UInt8)} (h : recOf f = none) : segF a (f :: fs) = [] := by rw [segF, h]
theorem segF_low {a : Nat} {f : List UInt8} {fs : List (List UInt8)} {r : Rc} (h : recOf f = some r) (hn : r.n < a) : segF a (f :: fs) = [] := by
  rw [segF, h]; simp only; rw [if_neg (by omega)]
theorem segF_some {a : Nat} {f : List UInt8} {fs : List (List UInt8)} {r : Rc} (h : recOf f = some r) (hn : a ≤ r.n) : segF a (f :: fs) = r :: segF (r.n + 1) fs := by
  rw [segF, h]; simp only; rw [if_pos hn]
theorem segF_rises : ∀ (a : Nat) (fs : List (List UInt8)), rises a (segF a fs)
  | _, [] => trivial
  | a, f :: fs => by
    cases h : recOf f with
    | none => rw [segF_none h]; trivial
    | some r =>
      by_cases hn : a ≤ r.n
      · rw [segF_some h hn]; exact ⟨(rec_is h).1, hn, segF_rises _ fs⟩
      · rw [segF_low h (by omega)]; trivial
theorem segF_take : ∀ (a : Nat) (fs : List (List UInt8)), fs.take (segF a fs).length = (segF a fs).map bodyL
  | _, [] => rfl
  | a, f :: fs => by
    cases h : recOf f with
    | none => rw [segF_none h]; rfl
    | some r =>
      by_cases hn : a ≤ r.n
      · rw [segF_some h hn, List.length_cons, List.take_succ_cons, segF_take _ fs, List.map_cons, ← (rec_is h).2]
      · rw [segF_low h (by omega)]; rfl
theorem segF_le (a : Nat) (fs : List (List UInt8)) : (segF a fs).length ≤ fs.length := by
  have h := congrArg List.length (segF_take a fs)
  rw [List.length_take, List.length_map] at h
  omega
theorem segF_app : ∀ {a : Nat} {l : List Rc} (fs : List (List UInt8)), rises a l → segF a (l.map bodyL ++ fs) = l ++ segF (nextN a l) fs
  | _, [], _, _ => rfl
  | a, r :: l, fs, ⟨h1, h2, h3⟩ => by
    rw [List.map_cons, List.cons_append, segF_some (rec_form h1) h2, segF_app fs h3]
    rfl
def segL (b : List UInt8) (first : Nat) : List Rc := if okN first then segF first (splitR b) else []
/-- How many bytes the forms of records have. -/
def sizeF (r : Rc) : Nat := (bodyL r).length + 8
def wholeS (l : List Rc) : Nat := (l.map sizeF).sum
def forms (l : List Rc) : List UInt8 := l.flatMap formR
theorem wholeS_nil : wholeS [] = 0 := rfl
theorem wholeS_cons (r : Rc) (l : List Rc) : wholeS (r :: l) = sizeF r + wholeS l := by simp [wholeS]
theorem wholeS_app (l m : List Rc) : wholeS (l ++ m) = wholeS l + wholeS m := by simp [wholeS]
theorem wholeS_snoc (l : List Rc) (r : Rc) : wholeS (l ++ [r]) = wholeS l + sizeF r := by simp [wholeS]
theorem forms_nil : forms [] = [] := rfl
theorem forms_cons (r : Rc) (l : List Rc) : forms (r :: l) = formR r ++ forms l := by simp [forms]
theorem forms_app (l m : List Rc) : forms (l ++ m) = forms l ++ forms m := by simp [forms]
theorem forms_snoc (l : List Rc) (r : Rc) : forms (l ++ [r]) = forms l ++ formR r := by simp [forms]
theorem forms_frms (l : List Rc) : forms l = frms (l.map bodyL) := by
  unfold forms frms
  rw [List.flatMap_map]
  rfl
theorem forms_length : ∀ l : List Rc, (forms l).length = wholeS l
  | [] => rfl
  | r :: l => by rw [forms_cons, wholeS_cons, List.length_append, formR_length, forms_length l]; rfl
theorem wholeS_wholeL (l : List Rc) : wholeS l = wholeL (l.map bodyL) := by rw [← forms_length, forms_frms, frms_length]
theorem bodies_may {l : List Rc} (h : ∀ r ∈ l, okRc r = true) : ∀ f ∈ l.map bodyL, mayR f = true := fun f hf => by
  obtain ⟨r, hr, rfl⟩ := List.mem_map.1 hf
  exact body_may (h r hr)
theorem split_forms {l : List Rc} (h : ∀ r ∈ l, okRc r = true) (t : List UInt8) : splitR (forms l ++ t) = l.map bodyL ++ splitR t := by
  rw [forms_frms]
  exact split_app _ _ (bodies_may h)
theorem seg_app {first : Nat} {l : List Rc} (hf : okN first = true) (h : rises first l) (t : List UInt8) : segL (forms l ++ t) first = l ++ segF (nextN first l) (splitR t) := by
  unfold segL
  rw [if_pos hf, split_forms (rises_ok h), segF_app _ h]
theorem seg_tail {first : Nat} {l : List Rc} (hf : okN first = true) (h : rises first l) {t : List UInt8} (ht : oneR t = none) : segL (forms l ++ t) first = l := by
  rw [seg_app hf h, split_none ht, segF_nil, List.append_nil]
theorem seg_all {first : Nat} {l : List Rc} (hf : okN first = true) (h : rises first l) : segL (forms l) first = l := by
  have := seg_tail hf h (t := []) rfl
  rwa [List.append_nil] at this
theorem seg_rises (b : List UInt8) (first : Nat) : rises first (segL b first) := by
  unfold segL
  split
  · exact segF_rises _ _
  · trivial
theorem seg_ok (b : List UInt8) (first : Nat) : ∀ r ∈ segL b first, okRc r = true := rises_ok (seg_rises b first)
/-- The forms of what is told are the beginning of the bytes. -/
theorem seg_eq (b : List UInt8) (first : Nat) : ∃ t, b = forms (segL b first) ++ t := by
  unfold segL
  split
  · refine ⟨frms ((splitR b).drop (segF first (splitR b)).length) ++ b.drop (wholeL (splitR b)), ?_⟩
    rw [forms_frms, ← segF_take, ← List.append_assoc]
    have e : frms ((splitR b).take (segF first (splitR b)).length) ++ frms ((splitR b).drop (segF first (splitR b)).length) = frms (splitR b) := by
      unfold frms
      rw [← List.flatMap_append, List.take_append_drop]
    rw [e]
    exact split_eq b
  · exact ⟨b, rfl⟩
theorem seg_le (b : List UInt8) (first : Nat) : wholeS (segL b first) ≤ b.length := by
  obtain ⟨t, h⟩ := seg_eq b first
  have := congrArg List.length h
  rw [List.length_append, forms_length] at this
  omega
theorem seg_take (b : List UInt8) (first : Nat) : b.take (wholeS (segL b first)) = forms (segL b first) := by
  obtain ⟨t, h⟩ := seg_eq b first
  have e := forms_length (segL b first)
  generalize forms (segL b first) = F at *
  generalize wholeS (segL b first) = n at *
  rw [h]
  exact List.take_left' e
theorem sizeF_ge (r : Rc) : 8 ≤ sizeF r := by unfold sizeF; omega
theorem seg_count : ∀ l : List Rc, l.length ≤ wholeS l
  | [] => Nat.le_refl 0
  | r :: l => by have := seg_count l; have := sizeF_ge r; rw [wholeS_cons, List.length_cons]; omega
theorem whole_small : ∀ (l : List Rc), (∀ r ∈ l, okRc r = true) → wholeS l ≤ l.length * 1518
  | [], _ => Nat.zero_le _
  | r :: l, h => by
    have h1 := body_len (h r (by simp))
    have h2 := whole_small l (fun x hx => h x (by simp [hx]))
    rw [wholeS_cons, List.length_cons]
    unfold sizeF
    omega
/-- A beginning of forms that ends within one. -/
theorem seg_cut {first : Nat} {l : List Rc} (hf : okN first = true) (h : rises first l) {k q : Nat} (hk : k < l.length) (hq : q < sizeF l[k]) : segL ((forms l).take (wholeS (l.take k) + q)) first = l.take k := by
  have e : forms l = forms (l.take k) ++ (formR l[k] ++ forms (l.drop (k + 1))) := by
    rw [← forms_cons, ← List.drop_eq_getElem_cons hk, ← forms_app, List.take_append_drop]
  have e2 : (forms l).take (wholeS (l.take k) + q) = forms (l.take k) ++ (formR l[k]).take q := by
    rw [e, ← forms_length, List.take_length_add_append, List.take_append_of_le_length (by rw [formR_length]; unfold sizeF at hq; omega)]
  rw [e2]
  exact seg_tail hf (rises_take h k) (one_cut (body_may (rises_ok h _ (List.getElem_mem hk))) hq)
/-- The same with its last byte turned. -/
theorem seg_torn {first : Nat} {l : List Rc} (hf : okN first = true) (h : rises first l) {k q : Nat} (hk : k < l.length) (hq : q < sizeF l[k]) {c : UInt8} (hc : c ≠ (forms l).getD (wholeS (l.take k) + q) 0) : segL (((forms l).take (wholeS (l.take k) + q + 1)).set (wholeS (l.take k) + q) c) first = l.take k := by
  have e : forms l = forms (l.take k) ++ (formR l[k] ++ forms (l.drop (k + 1))) := by
    rw [← forms_cons, ← List.drop_eq_getElem_cons hk, ← forms_app, List.take_append_drop]
  have hl := forms_length (l.take k)
  have e2 : (forms l).take (wholeS (l.take k) + q + 1) = forms (l.take k) ++ (formR l[k]).take (q + 1) := by
    rw [e, ← hl, Nat.add_assoc, List.take_length_add_append, List.take_append_of_le_length (by rw [formR_length]; unfold sizeF at hq; omega)]
  have e3 : (forms l).getD (wholeS (l.take k) + q) 0 = (formR l[k]).getD q 0 := by
    rw [e, List.getD_eq_getElem?_getD, List.getD_eq_getElem?_getD, List.getElem?_append_right (by omega), hl, Nat.add_sub_cancel_left, List.getElem?_append_left (by rw [formR_length]; exact hq)]
  rw [e2, List.set_append_right _ _ (by omega), hl, Nat.add_sub_cancel_left]
  rw [e3] at hc
  exact seg_tail hf (rises_take h k) (one_torn (body_may (rises_ok h _ (List.getElem_mem hk))) hq hc)
end Go.Proofs.YtelocbohiddpgaaGreatDoor.Crc
