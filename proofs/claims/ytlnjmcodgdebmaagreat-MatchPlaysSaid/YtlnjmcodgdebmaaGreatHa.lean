/- Layer 8, plain: an index as numbers and predicates, its constraints by names, and what is asked of an event's attributes. -/
import Derived.Test.YtlnjmcodgdebmaaGreatKx
set_option linter.unusedSimpArgs false
set_option linter.unusedVariables false
namespace Go.Proofs.YtlnjmcodgdebmaaGreat.Gm
open Go Go.RowKit

/-- A predicate and its number. -/
abbrev Ent := Int × List Cn
/-- The constraints of one name that an entry has. -/
def owns (nm : ByteArray) (e : Ent) : List (Int × Cn) := (e.2.filter fun c => decide (c.nm = nm)).map fun c => (e.1, c)
/-- The constraints of one name, in the order in which they came. -/
def named (D : List Ent) (nm : ByteArray) : List (Int × Cn) := D.flatMap (owns nm)
theorem named_nil (nm : ByteArray) : named [] nm = [] := rfl
theorem named_cons (e : Ent) (D : List Ent) (nm : ByteArray) : named (e :: D) nm = owns nm e ++ named D nm := by simp [named]
theorem named_add (D : List Ent) (e : Ent) (nm : ByteArray) : named (D ++ [e]) nm = named D nm ++ owns nm e := by simp [named]
theorem owns_mem {nm : ByteArray} {e : Ent} {o : Int × Cn} (h : o ∈ owns nm e) : o.1 = e.1 ∧ o.2 ∈ e.2 ∧ o.2.nm = nm := by
  simp only [owns, List.mem_map, List.mem_filter, decide_eq_true_eq] at h
  obtain ⟨c, ⟨h1, h2⟩, rfl⟩ := h
  exact ⟨rfl, h1, h2⟩
theorem owns_gone (nm : ByteArray) (e : Ent) (id : Int) : (owns nm e).filter (fun o => !decide (o.1 = id)) = if e.1 = id then [] else owns nm e := by
  by_cases h : e.1 = id
  · rw [if_pos h, List.filter_eq_nil_iff]
    intro o ho
    simp [(owns_mem ho).1, h]
  · rw [if_neg h, List.filter_eq_self]
    intro o ho
    simp [(owns_mem ho).1, h]
/-- What is left where a number is taken out. -/
theorem named_gone (D : List Ent) (id : Int) (nm : ByteArray) : named (D.filter fun e => !decide (e.1 = id)) nm = (named D nm).filter fun o => !decide (o.1 = id) := by
  induction D with
  | nil => rfl
  | cons e D ih =>
    rw [named_cons, List.filter_append, ← ih, owns_gone, List.filter_cons]
    by_cases h : e.1 = id
    · simp [h]
    · simp [h, named_cons]

theorem nm_iff (a b : ByteArray) : (a.toList == b.toList) = decide (a = b) := by
  by_cases h : a = b
  · subst h; simp
  · simp only [h, decide_false, beq_eq_false_iff_ne, ne_eq]
    intro hh
    exact h (bytes_eq (by rw [← toList_data, ← toList_data]; exact hh))
instance decMem (a : ByteArray) (l : List ByteArray) : Decidable (a ∈ l) := @List.instDecidableMemOfLawfulBEq _ instBEqOfDecidableEq inferInstance a l
/-- The first attributes of their names, the names that were seen left out. -/
def firsts : List ByteArray → List At → List At
  | _, [] => []
  | seen, a :: l => if a.nm ∈ seen then firsts seen l else a :: firsts (a.nm :: seen) l
theorem firsts_not (l : List At) (seen : List ByteArray) : ∀ a ∈ firsts seen l, a.nm ∉ seen := by
  induction l generalizing seen with
  | nil => simp [firsts]
  | cons x l ih =>
    intro a ha
    unfold firsts at ha
    by_cases h : x.nm ∈ seen
    · rw [if_pos h] at ha; exact ih seen a ha
    · rw [if_neg h, List.mem_cons] at ha
      rcases ha with rfl | ha
      · exact h
      · intro hc; exact ih _ a ha (List.mem_cons_of_mem _ hc)
theorem firsts_apart (l : List At) (seen : List ByteArray) : (firsts seen l).Pairwise (fun a b => a.nm ≠ b.nm) := by
  induction l generalizing seen with
  | nil => exact List.Pairwise.nil
  | cons x l ih =>
    unfold firsts
    by_cases h : x.nm ∈ seen
    · rw [if_pos h]; exact ih seen
    · rw [if_neg h, List.pairwise_cons]
      exact ⟨fun b hb he => firsts_not l _ b hb (he ▸ List.mem_cons_self), ih _⟩
theorem getE_cons (a : At) (l : List At) (nm : ByteArray) : getE (a :: l) nm = if a.nm = nm then some a else getE l nm := by
  unfold getE
  rw [List.find?_cons, nm_iff]
  by_cases h : a.nm = nm <;> simp [h]
theorem getE_none {l : List At} {nm : ByteArray} (h : ∀ a ∈ l, a.nm ≠ nm) : getE l nm = none := by
  unfold getE
  rw [List.find?_eq_none]
  intro a ha
  rw [nm_iff]; simp [h a ha]
theorem getE_firsts (l : List At) (seen : List ByteArray) (nm : ByteArray) (h : nm ∉ seen) : getE (firsts seen l) nm = getE l nm := by
  induction l generalizing seen with
  | nil => rfl
  | cons x l ih =>
    unfold firsts
    by_cases hx : x.nm ∈ seen
    · rw [if_pos hx, ih seen h, getE_cons, if_neg (fun e : x.nm = nm => h (by rw [← e]; exact hx))]
    · rw [if_neg hx, getE_cons, getE_cons]
      by_cases he : x.nm = nm
      · rw [if_pos he, if_pos he]
      · rw [if_neg he, if_neg he, ih]
        simp only [List.mem_cons, not_or]
        exact ⟨fun e => he e.symm, h⟩
/-- A question of a constraint and the first attribute of its name. -/
def askE (g : Cn → At → Bool) (l : List At) (c : Cn) : Bool := match getE l c.nm with
  | none => false
  | some a => g c a
theorem askE_cons (g : Cn → At → Bool) (a : At) (l : List At) (c : Cn) : askE g (a :: l) c = if a.nm = c.nm then g c a else askE g l c := by
  unfold askE; rw [getE_cons]; by_cases h : a.nm = c.nm
  · rw [if_pos h, if_pos h]
  · rw [if_neg h, if_neg h]
theorem askE_firsts (g : Cn → At → Bool) (l : List At) (c : Cn) : askE g (firsts [] l) c = askE g l c := by
  unfold askE; rw [getE_firsts l [] c.nm (by simp)]
theorem askE_one (l : List At) : askE (fun c a => holdsB c a.v) l = oneB l := by
  funext c; unfold askE oneB; cases getE l c.nm <;> rfl
theorem count_split (g : Cn → At → Bool) (a : At) (F : List At) (h : ∀ b ∈ F, a.nm ≠ b.nm) (p : List Cn) :
    p.countP (askE g (a :: F)) = p.countP (fun c => decide (c.nm = a.nm) && g c a) + p.countP (askE g F) := by
  induction p with
  | nil => rfl
  | cons c p ih =>
    rw [List.countP_cons, List.countP_cons, List.countP_cons, ih, askE_cons]
    by_cases hc : c.nm = a.nm
    · have hn : askE g F c = false := by
        unfold askE; rw [getE_none fun b hb e => h b hb (hc ▸ e.symm)]
      rw [if_pos hc.symm, hn]; simp [hc]; omega
    · have hd : (decide (c.nm = a.nm) && g c a) = false := by simp [hc]
      rw [if_neg fun e : a.nm = c.nm => hc e.symm, hd]; simp; omega
/-- What is asked of each name, one after the other, counts each constraint once. -/
theorem count_names (g : Cn → At → Bool) (F : List At) (hF : F.Pairwise fun a b => a.nm ≠ b.nm) (p : List Cn) :
    (F.map fun a => p.countP fun c => decide (c.nm = a.nm) && g c a).sum = p.countP (askE g F) := by
  induction F with
  | nil =>
    rw [List.map_nil, List.sum_nil]; symm
    rw [List.countP_eq_zero]; intro c _; simp [askE, getE]
  | cons a F ih =>
    rw [List.map_cons, List.sum_cons, ih (List.pairwise_cons.1 hF).2, count_split g a F (List.pairwise_cons.1 hF).1]

/-- All that is asked of an event: each constraint of a name that it has, with the value. -/
def asks (D : List Ent) (l : List At) : List ((Int × Cn) × At) := (firsts [] l).flatMap fun a => (named D a.nm).map fun o => (o, a)
theorem owns_count (g : Cn → At → Bool) (a : At) (e : Ent) (id : Int) :
    (owns a.nm e).countP (fun o => decide (o.1 = id) && g o.2 a) = if e.1 = id then e.2.countP (fun c => decide (c.nm = a.nm) && g c a) else 0 := by
  unfold owns
  rw [List.countP_map, List.countP_filter]
  by_cases h : e.1 = id
  · rw [if_pos h]; congr 1; funext c; simp [h, Bool.and_comm]
  · rw [if_neg h, List.countP_eq_zero]; intro c _; simp [h]
theorem named_count (g : Cn → At → Bool) (a : At) (D : List Ent) (id : Int) (p : List Cn) (hD : (D.map (·.1)).Nodup) (hp : (id, p) ∈ D) :
    (named D a.nm).countP (fun o => decide (o.1 = id) && g o.2 a) = p.countP (fun c => decide (c.nm = a.nm) && g c a) := by
  have h0 : ∀ D : List Ent, id ∉ D.map (·.1) → (named D a.nm).countP (fun o => decide (o.1 = id) && g o.2 a) = 0 := by
    intro D hn
    rw [List.countP_eq_zero]
    intro o ho
    unfold named at ho
    rw [List.mem_flatMap] at ho
    obtain ⟨e, he, ho⟩ := ho
    have : o.1 ≠ id := fun hh => hn (List.mem_map.2 ⟨e, he, by rw [← (owns_mem ho).1, hh]⟩)
    simp [this]
  induction D with
  | nil => cases hp
  | cons e D ih =>
    rw [List.map_cons, List.nodup_cons] at hD
    rw [named_cons, List.countP_append, owns_count]
    rcases List.mem_cons.1 hp with rfl | hp
    · rw [if_pos rfl, h0 D hD.1]; rfl
    · have hne : e.1 ≠ id := fun h => hD.1 (h ▸ List.mem_map.2 ⟨_, hp, rfl⟩)
      rw [if_neg hne, ih hD.2 hp, Nat.zero_add]
/-- How often a number is counted: once for each constraint of its own that holds. -/
theorem asks_count (g : Cn → At → Bool) (D : List Ent) (l : List At) (id : Int) (p : List Cn) (hD : (D.map (·.1)).Nodup) (hp : (id, p) ∈ D) :
    (asks D l).countP (fun q => decide (q.1.1 = id) && g q.1.2 q.2) = p.countP (askE g l) := by
  unfold asks
  rw [List.countP_flatMap]
  have e : (List.countP (fun q : (Int × Cn) × At => decide (q.1.1 = id) && g q.1.2 q.2) ∘ fun a => (named D a.nm).map fun o => (o, a)) = fun a => p.countP fun c => decide (c.nm = a.nm) && g c a := by
    funext a
    rw [Function.comp, List.countP_map, ← named_count g a D id p hD hp]
    rfl
  rw [e, count_names g _ (firsts_apart l [])]
  congr 1; funext c; exact askE_firsts g l c
/-- A number's predicate matches if as many constraints of its own hold as it has. -/
theorem asks_all (D : List Ent) (l : List At) (id : Int) (p : List Cn) (hD : (D.map (·.1)).Nodup) (hp : (id, p) ∈ D) :
    decide ((asks D l).countP (fun q => decide (q.1.1 = id) && holdsB q.1.2 q.2.v) = p.length) = matchesB p l := by
  rw [asks_count (fun c a => holdsB c a.v) D l id p hD hp, askE_one]
  rw [Bool.eq_iff_iff, decide_eq_true_iff, List.countP_eq_length, matchesB, List.all_eq_true]
/-- How many constraints are asked. -/
def looks (D : List Ent) (l : List At) : Nat := (D.map fun e => e.2.countP fun c => (getE l c.nm).isSome).sum
theorem named_len (D : List Ent) (nm : ByteArray) : (named D nm).length = (D.map fun e => e.2.countP fun c => decide (c.nm = nm)).sum := by
  induction D with
  | nil => rfl
  | cons e D ih =>
    rw [named_cons, List.length_append, ih, List.map_cons, List.sum_cons, owns, List.length_map, List.countP_eq_length_filter]
theorem asks_len (D : List Ent) (l : List At) : (asks D l).length = looks D l := by
  have hs : ∀ c, askE (fun _ _ => true) l c = (getE l c.nm).isSome := by
    intro c; unfold askE; cases getE l c.nm <;> rfl
  have h1 : ∀ F : List At, F.Pairwise (fun a b => a.nm ≠ b.nm) → (F.flatMap fun a => (named D a.nm).map fun o => (o, a)).length = (D.map fun e => e.2.countP (askE (fun _ _ => true) F)).sum := by
    intro F hF
    rw [List.length_flatMap]
    simp only [List.length_map, named_len]
    induction D with
    | nil =>
      clear hF
      induction F with
      | nil => rfl
      | cons a F ih => simpa using ih
    | cons e D ih =>
      simp only [List.map_cons, List.sum_cons]
      rw [← ih, ← count_names (fun _ _ => true) F hF e.2]
      clear ih hF
      induction F with
      | nil => rfl
      | cons a F ihF => simp only [List.map_cons, List.sum_cons, ihF, Bool.and_true]; omega
  unfold asks looks
  rw [h1 _ (firsts_apart l [])]
  congr 1
  apply List.map_congr_left
  intro e _
  congr 1; funext c; rw [askE_firsts, hs]
end Go.Proofs.YtlnjmcodgdebmaaGreat.Gm
