/- Overlapping, as plain facts: what two predicates ask of each name together. -/
import Derived.Test.YtggcboejdihdiaaCb
set_option linter.unusedSimpArgs false
set_option linter.unusedVariables false
namespace Go.Proofs.Ytggcboejdihdiaa.Gm
open Go Go.RowKit

/-- What both ask of a name. -/
def bothR (p q : List Cn) (n : List UInt8) : Rg := andR (askedR p n) (askedR q n)
/-- Some value is let through by both, whatever the name. -/
def Meets (p q : List Cn) : Prop := ∀ n : List UInt8, ∃ x, Okv x ∧ hasR (askedR p n) x = true ∧ hasR (askedR q n) x = true
def anyVl : Vl := ⟨1, 0, ⟨#[]⟩, false⟩
theorem okv_any : Okv anyVl := fun _ => by decide
theorem WfR.both {p q : List Cn} (h : Mp p) (k : Mp q) (n : List UInt8) : WfR (bothR p q n) := (WfR.asked h n).and (.asked k n)
theorem both_has {p q : List Cn} (h : Mp p) (k : Mp q) (n : List UInt8) (x : Vl) : hasR (bothR p q n) x = (hasR (askedR p n) x && hasR (askedR q n) x) := has_and (.asked h n) (.asked k n) x
/-- Of a name that is none of its own a predicate asks nothing. -/
theorem asked_none {p : List Cn} (h : Mp p) {n : List UInt8} (hn : n ∉ namesP p) {x : Vl} (hx : Okv x) : hasR (askedR p n) x = true := by
  rw [asked_has h n hx, List.all_eq_true]
  intro c hc
  unfold letB
  have : (c.nm.data.toList == n) = false := by
    rw [beq_eq_false_iff_ne]
    rintro rfl
    exact hn ((mem_names p _).2 ⟨c, hc, rfl⟩)
  rw [this]; rfl
theorem both_empty {p q : List Cn} (h : Mp p) (k : Mp q) (n : List UInt8) : emptyR (bothR p q n) = true ↔ ∀ x, Okv x → (hasR (askedR p n) x && hasR (askedR q n) x) = false := by
  rw [empty_iff (WfR.both h k n)]
  exact forall_congr' fun x => forall_congr' fun _ => by rw [both_has h k]
/-- Where the names of both are asked, and all of them are met, they meet. -/
theorem meets_iff {p q : List Cn} (h : Mp p) (k : Mp q) {l : List (List UInt8)} (hl : ∀ n, n ∈ l ↔ n ∈ namesP p ∨ n ∈ namesP q) : (l.any fun n => emptyR (bothR p q n)) = false ↔ Meets p q := by
  rw [List.any_eq_false]
  constructor
  · intro hh n
    by_cases hn : n ∈ l
    · have := hh n hn
      rw [both_empty h k] at this
      obtain ⟨x, hx⟩ := Classical.not_forall.1 this
      obtain ⟨hok, hx⟩ := Classical.not_imp.1 hx
      rw [Bool.not_eq_false, Bool.and_eq_true] at hx
      exact ⟨x, hok, hx⟩
    · rw [hl, not_or] at hn
      exact ⟨anyVl, okv_any, asked_none h hn.1 okv_any, asked_none k hn.2 okv_any⟩
  · intro hh n _ he
    obtain ⟨x, hok, a, b⟩ := hh n
    have := (both_empty h k n).1 he x hok
    rw [a, b] at this
    cases this
theorem Meets.symm {p q : List Cn} (h : Meets p q) : Meets q p := fun n => by
  obtain ⟨x, a, b, c⟩ := h n
  exact ⟨x, a, c, b⟩
theorem mp_nil : Mp [] := ⟨Nat.zero_le _, fun c hc => by cases hc⟩
theorem asked_nil (n : List UInt8) {x : Vl} (hx : Okv x) : hasR (askedR [] n) x = true := by rw [asked_has mp_nil n hx]; rfl
/-- Who overlaps one that a third one covers overlaps that third one. -/
theorem meets_covers {p q r : List Cn} (hq : Mp q) (hr : Mp r) (h : Meets p q) (hc : Nothing q ∨ Each r q) : Meets p r := fun n => by
  obtain ⟨x, hok, a, b⟩ := h n
  rcases hc with ⟨m, _, he⟩ | he
  · obtain ⟨y, yok, _, y2⟩ := h m
    rw [he y yok] at y2; cases y2
  · refine ⟨x, hok, a, ?_⟩
    by_cases hn : n ∈ namesP r
    · exact (he n hn).2 x hok b
    · exact asked_none hr hn hok
/-- One that covers another one, which matches anything, overlaps it. -/
theorem covers_meets {p q : List Cn} (hp : Mp p) (hc : Nothing q ∨ Each p q) (h : Meets q []) : Meets p q := fun n => by
  obtain ⟨x, hok, a, _⟩ := h n
  rcases hc with ⟨m, _, he⟩ | he
  · obtain ⟨y, yok, y1, _⟩ := h m
    rw [he y yok] at y1; cases y1
  · refine ⟨x, hok, ?_, a⟩
    by_cases hn : n ∈ namesP p
    · exact (he n hn).2 x hok a
    · exact asked_none hp hn hok
/-- What matches nothing meets nobody, and asks of one of its names for nothing. -/
theorem meets_nil {p q : List Cn} (h : Meets p q) : Meets p [] := fun n => by
  obtain ⟨x, hok, a, _⟩ := h n
  exact ⟨x, hok, a, asked_nil n hok⟩
theorem nothing_of {p : List Cn} (hp : Mp p) (h : ¬ Meets p []) : Nothing p := by
  obtain ⟨n, hn⟩ := Classical.not_forall.1 h
  have hall : ∀ x, Okv x → hasR (askedR p n) x = false := fun x hx => by
    cases hv : hasR (askedR p n) x
    · rfl
    · exact absurd ⟨x, hx, hv, asked_nil n hx⟩ hn
  refine ⟨n, ?_, hall⟩
  by_cases hm : n ∈ namesP p
  · exact hm
  · have := asked_none hp hm okv_any
    rw [hall _ okv_any] at this; cases this
/-- The constraints of one name. -/
def onlyP (p : List Cn) (n : List UInt8) : List Cn := p.filter fun c => c.nm.data.toList == n
theorem only_mem {p : List Cn} {n : List UInt8} {c : Cn} (h : c ∈ onlyP p n) : c ∈ p := (List.mem_filter.1 h).1
theorem only_mp {p : List Cn} (h : Mp p) (n : List UInt8) : Mp (onlyP p n) := ⟨Nat.le_trans (List.length_filter_le _ _) h.1, fun c hc => h.2 c (only_mem hc)⟩
theorem only_asked {p : List Cn} (h : Mp p) (n : List UInt8) {x : Vl} (hx : Okv x) : hasR (askedR (onlyP p n) n) x = hasR (askedR p n) x := by
  rw [asked_has h n hx, asked_has (only_mp h n) n hx, Bool.eq_iff_iff, List.all_eq_true, List.all_eq_true]
  constructor
  · intro hh c hc
    by_cases hn : (c.nm.data.toList == n) = true
    · exact hh c (List.mem_filter.2 ⟨hc, hn⟩)
    · unfold letB; rw [Bool.eq_false_iff.2 hn]; rfl
  · exact fun hh c hc => hh c (only_mem hc)
theorem only_apart {p q : List Cn} (h : Mp p) (k : Mp q) {n : List UInt8} (he : emptyR (bothR p q n) = true) : ¬ Meets (onlyP p n) (onlyP q n) := fun hm => by
  obtain ⟨x, hok, a, b⟩ := hm n
  rw [only_asked h n hok] at a
  rw [only_asked k n hok] at b
  have := (both_empty h k n).1 he x hok
  rw [a, b] at this; cases this
end Go.Proofs.Ytggcboejdihdiaa.Gm
