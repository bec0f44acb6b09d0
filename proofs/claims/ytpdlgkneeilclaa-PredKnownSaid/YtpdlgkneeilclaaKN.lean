/- Plain facts on normal forms: they may be, match the same, are their own normal form; what is in order is known by what it holds. -/
import Derived.Test.YtpdlgkneeilclaaKz
set_option linter.unusedSimpArgs false
set_option linter.unusedVariables false
namespace Go.Proofs.Ytpdlgkneeilclaa.Gm
open Go Go.RowKit

theorem rising_irrefl {α : Type} {f : α → α → Int} (hf : Weak f) {a z : α} (h : f a z < 0) : z ≠ a := by rintro rfl; rw [hf.self] at h; omega
/-- Rows in order that hold the same are one. -/
theorem rising_unique {α : Type} {f : α → α → Int} (hf : Weak f) : ∀ (l l' : List α), Rising f l → Rising f l' → (∀ z, z ∈ l ↔ z ∈ l') → l = l'
  | [], [], _, _, _ => rfl
  | [], b :: _, _, _, h => by have := (h b).2 (by simp); simp at this
  | a :: _, [], _, _, h => by have := (h a).1 (by simp); simp at this
  | a :: r, b :: r', h1, h2, h => by
    have p1 := List.pairwise_cons.1 h1
    have p2 := List.pairwise_cons.1 h2
    have hab : a = b := by
      rcases List.mem_cons.1 ((h a).1 (by simp)) with e | e
      · exact e
      · rcases List.mem_cons.1 ((h b).2 (by simp)) with e' | e'
        · exact e'.symm
        · have q1 := p1.1 b e'
          have q2 := p2.1 a e
          have := hf.2.1 a b; omega
    subst hab
    rw [rising_unique hf r r' p1.2 p2.2 fun z => ?_]
    constructor
    · intro hz
      rcases List.mem_cons.1 ((h z).1 (by simp [hz])) with e | e
      · exact absurd e (rising_irrefl hf (p1.1 z hz))
      · exact e
    · intro hz
      rcases List.mem_cons.1 ((h z).2 (by simp [hz])) with e | e
      · exact absurd e (rising_irrefl hf (p2.1 z hz))
      · exact e
theorem mem_sortV (l : List Vl) (z : Vl) : z ∈ sortL cmpW l ↔ z ∈ l := by
  refine ⟨sortL_mem, fun h => ?_⟩
  obtain ⟨y, h1, h2⟩ := sortL_new weakW h
  rwa [← cmpW_zero _ _ h2]
theorem sortV_same {l l' : List Vl} (h : ∀ z, z ∈ l ↔ z ∈ l') : sortL cmpW l = sortL cmpW l' :=
  rising_unique weakW _ _ (sortL_rising weakW _) (sortL_rising weakW _) fun z => by rw [mem_sortV, mem_sortV, h]
/-- Constraints that lie nowhere. -/
def Bared (l : List Cn) : Prop := ∀ c ∈ l, bare c = c
theorem bared_norm (l : List Cn) : Bared (l.map normC) := by
  intro c hc
  obtain ⟨d, _, rfl⟩ := List.mem_map.1 hc
  rfl
theorem mem_sortC {l : List Cn} (h : Bared l) (z : Cn) : z ∈ sortL cmpC l ↔ z ∈ l := by
  refine ⟨sortL_mem, fun hz => ?_⟩
  obtain ⟨y, h1, h2⟩ := sortL_new weakC hz
  have := cmpC_zero _ _ h2
  rw [h y (sortL_mem h1), h z hz] at this
  rwa [← this]
theorem sortC_same {l l' : List Cn} (h1 : Bared l) (h2 : Bared l') (h : ∀ z, z ∈ l ↔ z ∈ l') : sortL cmpC l = sortL cmpC l' :=
  rising_unique weakC _ _ (sortL_rising weakC _) (sortL_rising weakC _) fun z => by rw [mem_sortC h1, mem_sortC h2, h]
theorem normC_bare (c : Cn) : normC (bare c) = normC c := rfl
theorem normC_norm (c : Cn) : normC (normC c) = normC c := by
  unfold normC
  have : sortL cmpW (sortL cmpW c.set) = sortL cmpW c.set := sortV_same fun z => mem_sortV c.set z
  simp only [this]
theorem mayCn_bare (c : Cn) : mayCn (bare c) = mayCn c := rfl
theorem maySt_sort {l : List Vl} (h : maySt l = true) : maySt (sortL cmpW l) = true := by
  simp only [maySt, Bool.and_eq_true, decide_eq_true_eq, List.all_eq_true] at h ⊢
  refine ⟨⟨?_, Nat.le_trans (sortL_length l) h.1.2⟩, fun z hz => h.2 z (sortL_mem hz)⟩
  cases hl : l with
  | nil => rw [hl] at h; simp at h
  | cons a r =>
    have : a ∈ sortL cmpW (a :: r) := (mem_sortV _ _).2 (by simp)
    exact List.length_pos_of_mem this
theorem mayCn_norm {c : Cn} (h : mayCn c = true) : mayCn (normC c) = true := by
  simp only [mayCn, Bool.and_eq_true] at h ⊢
  refine ⟨h.1, ?_⟩
  have h2 := h.2
  show mayOp c.op c.v (sortL cmpW c.set) = true
  have hz : c.set.length = 0 → (sortL cmpW c.set).length = 0 := fun e => by have := sortL_length (f := cmpW) c.set; omega
  unfold mayOp at h2 ⊢
  split
  · rename_i e; rw [if_pos e] at h2
    simp only [Bool.and_eq_true, decide_eq_true_eq] at h2 ⊢
    exact ⟨h2.1, hz h2.2⟩
  · rename_i e; rw [if_neg e] at h2
    split
    · rename_i e; rw [if_pos e] at h2
      simp only [Bool.and_eq_true] at h2 ⊢
      exact ⟨h2.1, maySt_sort h2.2⟩
    · rename_i e; rw [if_neg e] at h2
      split
      · rename_i e; rw [if_pos e] at h2
        simp only [Bool.and_eq_true, decide_eq_true_eq] at h2 ⊢
        exact ⟨h2.1, hz h2.2⟩
      · rename_i e; rw [if_neg e] at h2
        split
        · rename_i e; rw [if_pos e] at h2
          simp only [Bool.and_eq_true, decide_eq_true_eq] at h2 ⊢
          exact ⟨h2.1, hz h2.2⟩
        · rename_i e; rw [if_neg e] at h2; exact h2
/-- What a normal form holds. -/
theorem norm_mem {l r : List Cn} (h : r.map bare = sortL cmpC (l.map normC)) (z : Cn) : z ∈ r.map bare ↔ z ∈ l.map normC := by rw [h, mem_sortC (bared_norm l)]
theorem norm_may {l r : List Cn} (h : r.map bare = sortL cmpC (l.map normC)) (hl : r.length ≤ l.length) (hm : mayPr l = true) : mayPr r = true := by
  simp only [mayPr, Bool.and_eq_true, decide_eq_true_eq, List.all_eq_true] at hm ⊢
  refine ⟨by omega, fun c hc => ?_⟩
  have h1 : bare c ∈ l.map normC := (norm_mem h _).1 (List.mem_map.2 ⟨c, hc, rfl⟩)
  obtain ⟨d, hd, he⟩ := List.mem_map.1 h1
  rw [← mayCn_bare, ← he]
  exact mayCn_norm (hm.2 d hd)
theorem norm_of_norm {l r : List Cn} (h : r.map bare = sortL cmpC (l.map normC)) : r.map normC = r.map bare := by
  have hb : ∀ c ∈ r, normC c = bare c := by
    intro c hc
    have h1 : bare c ∈ l.map normC := (norm_mem h _).1 (List.mem_map.2 ⟨c, hc, rfl⟩)
    obtain ⟨d, hd, he⟩ := List.mem_map.1 h1
    rw [← normC_bare, ← he, normC_norm]
  exact List.map_congr_left hb
theorem norm_twice {l r m : List Cn} (h : r.map bare = sortL cmpC (l.map normC)) (h2 : m.map bare = sortL cmpC (r.map normC)) : m.map bare = r.map bare := by
  rw [h2, norm_of_norm h, h]
  exact sortC_same (fun c hc => bared_norm l c (sortL_mem hc)) (bared_norm l) (fun z => mem_sortC (bared_norm l) z)
theorem holds_norm (c : Cn) (x : Vl) : holdsB (normC c) x = holdsB c x := by
  have : ((sortL cmpW c.set).any fun y => cv x y == 0) = (c.set.any fun y => cv x y == 0) := by
    rw [Bool.eq_iff_iff, List.any_eq_true, List.any_eq_true]
    constructor
    · rintro ⟨y, h1, h2⟩; exact ⟨y, (mem_sortV _ _).1 h1, h2⟩
    · rintro ⟨y, h1, h2⟩; exact ⟨y, (mem_sortV _ _).2 h1, h2⟩
  unfold holdsB
  simp only [normC, this]
  rfl
theorem one_norm (a : List At) (c : Cn) : oneB a (normC c) = oneB a c := by
  unfold oneB
  show (match getE a c.nm with | none => false | some x => holdsB (normC c) x.v) = _
  cases getE a c.nm with
  | none => rfl
  | some x => exact holds_norm c x.v
theorem one_bare (a : List At) (c : Cn) : oneB a (bare c) = oneB a c := rfl
theorem norm_matches {l r : List Cn} (h : r.map bare = sortL cmpC (l.map normC)) (a : List At) : matchesB r a = matchesB l a := by
  have e1 : matchesB r a = (r.map bare).all (oneB a) := by unfold matchesB; rw [List.all_map]; rfl
  have e2 : matchesB l a = (l.map normC).all (oneB a) := by
    unfold matchesB; rw [List.all_map]
    congr 1; funext c; exact (one_norm a c).symm
  rw [e1, e2, Bool.eq_iff_iff, List.all_eq_true, List.all_eq_true]
  constructor
  · intro hh z hz; exact hh z ((norm_mem h z).2 hz)
  · intro hh z hz; exact hh z ((norm_mem h z).1 hz)
/-- A constraint with its Set turned round. -/
def revC (c : Cn) : Cn := ⟨c.nm, c.op, c.v, none, 0, c.set.reverse⟩
theorem norm_rev (c : Cn) : normC (revC c) = normC c := by
  unfold normC revC
  have : sortL cmpW c.set.reverse = sortL cmpW c.set := sortV_same fun z => by simp
  simp only [this]
theorem mayCn_rev (c : Cn) : mayCn (revC c) = mayCn c := by
  unfold mayCn revC mayOp maySt
  simp
/-- What the statement puts together: turned round, and with all constraints twice, if these are not too many. -/
def backL (l : List Cn) : List Cn := l.reverse.map revC ++ if 2 * l.length ≤ 6 then l else []
theorem back_may {l r : List Cn} (hb : r.map bare = (backL l).map bare) (hm : mayPr l = true) : mayPr r = true := by
  have hlen : r.length = (backL l).length := by have := congrArg List.length hb; simpa using this
  simp only [mayPr, Bool.and_eq_true, decide_eq_true_eq, List.all_eq_true] at hm ⊢
  refine ⟨?_, fun c hc => ?_⟩
  · rw [hlen]; unfold backL
    by_cases h : 2 * l.length ≤ 6
    · rw [if_pos h]; simp; omega
    · rw [if_neg h]; simp; omega
  · have h1 : bare c ∈ (backL l).map bare := by rw [← hb]; exact List.mem_map.2 ⟨c, hc, rfl⟩
    obtain ⟨d, hd, he⟩ := List.mem_map.1 h1
    rw [← mayCn_bare, ← he, mayCn_bare]
    rcases List.mem_append.1 hd with hd | hd
    · obtain ⟨c', hc', rfl⟩ := List.mem_map.1 hd
      rw [mayCn_rev]; exact hm.2 c' (by simpa using hc')
    · split at hd
      · exact hm.2 d hd
      · simp at hd
theorem back_norm {l r : List Cn} (hb : r.map bare = (backL l).map bare) : sortL cmpC (r.map normC) = sortL cmpC (l.map normC) := by
  have e : r.map normC = (backL l).map normC := by
    have : ∀ x : List Cn, x.map normC = (x.map bare).map normC := fun x => by rw [List.map_map]; rfl
    rw [this r, hb, ← this]
  rw [e]
  refine sortC_same (bared_norm _) (bared_norm _) fun z => ?_
  unfold backL
  rw [List.map_append, List.mem_append, List.map_map]
  constructor
  · rintro (h | h)
    · obtain ⟨c, hc, rfl⟩ := List.mem_map.1 h
      exact List.mem_map.2 ⟨c, by simpa using hc, (norm_rev c).symm⟩
    · split at h
      · exact h
      · simp at h
  · intro h
    obtain ⟨c, hc, rfl⟩ := List.mem_map.1 h
    exact .inl (List.mem_map.2 ⟨c, by simpa using hc, norm_rev c⟩)
end Go.Proofs.Ytpdlgkneeilclaa.Gm
