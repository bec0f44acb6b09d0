/- What CoverOrder asks of the plain facts: a normal form covers and is covered, a part covers, both together are covered. -/
import Derived.Test.YtfjfdajachcnjaaGreatKNa
import Derived.Test.YtfjfdajachcnjaaGreatCb
set_option linter.unusedSimpArgs false
set_option linter.unusedVariables false
namespace Go.Proofs.YtfjfdajachcnjaaGreat.Gm
open Go Go.RowKit

/-- A normal form has the same values. -/
theorem has_norm {c : Cn} (hm : mayCn c = true) (hr : RvC c) {x : Vl} (hx : Okv x) : hasR (regC (normC c)) x = hasR (regC c) x := by
  unfold regC
  show hasR (if c.op = 1 then allR else if c.op = 3 then orR (stretchR 4 c.v) (stretchR 6 c.v) else if c.op = 9 then inR (sortL cmpW c.set) else stretchR c.op c.v) x = _
  by_cases h1 : c.op = 1
  · simp [h1]
  by_cases h3 : c.op = 3
  · simp [h3]
  by_cases h9 : c.op = 9
  · rw [if_neg h1, if_neg h3, if_pos h9, if_neg h1, if_neg h3, if_pos h9]
    rcases may_parts hm with h | ⟨_, h⟩ | ⟨_, h, _⟩
    · exact absurd h h1
    · obtain ⟨_, hk⟩ := cmay_set h
      have hg : ∀ v ∈ c.set, Okv v ∧ (v.k = 1 ∨ v.k = 2 ∨ v.k = 3) := fun v hv => ⟨(hr.2 v hv).ok, hk v hv⟩
      unfold inR
      rw [inR_has _ _ .zero (fun v hv => hg v ((mem_sortV _ _).1 hv)) x hx, inR_has _ _ .zero hg x hx]
      congr 1
      rw [Bool.eq_iff_iff, List.any_eq_true, List.any_eq_true]
      constructor
      · rintro ⟨v, hv, e⟩; exact ⟨v, (mem_sortV _ _).1 hv, e⟩
      · rintro ⟨v, hv, e⟩; exact ⟨v, (mem_sortV _ _).2 hv, e⟩
    · omega
  · rw [if_neg h1, if_neg h3, if_neg h9, if_neg h1, if_neg h3, if_neg h9]
theorem rvC_norm {c : Cn} (hr : RvC c) : RvC (normC c) := ⟨hr.1, fun x hx => hr.2 x ((mem_sortV _ _).1 hx)⟩
theorem reg_bare (c : Cn) : regC (bare c) = regC c := rfl
theorem rvC_bare (c : Cn) : RvC (bare c) ↔ RvC c := Iff.rfl
/-- What a normal form's constraints are. -/
theorem norm_of {l r : List Cn} (h : r.map bare = sortL cmpC (l.map normC)) {d : Cn} (hd : d ∈ r) : ∃ c ∈ l, bare d = normC c := by
  have := (norm_mem h (bare d)).1 (List.mem_map.2 ⟨d, hd, rfl⟩)
  obtain ⟨c, hc, e⟩ := List.mem_map.1 this
  exact ⟨c, hc, e.symm⟩
theorem of_norm {l r : List Cn} (h : r.map bare = sortL cmpC (l.map normC)) {c : Cn} (hc : c ∈ l) : ∃ d ∈ r, bare d = normC c := by
  have := (norm_mem h (normC c)).2 (List.mem_map.2 ⟨c, hc, rfl⟩)
  obtain ⟨d, hd, e⟩ := List.mem_map.1 this
  exact ⟨d, hd, e⟩
theorem norm_rv {l r : List Cn} (h : r.map bare = sortL cmpC (l.map normC)) (hr : ∀ c ∈ l, RvC c) : ∀ d ∈ r, RvC d := fun d hd => by
  obtain ⟨c, hc, e⟩ := norm_of h hd
  have := rvC_norm (hr c hc)
  rw [← e] at this
  exact this
theorem norm_covers {l r : List Cn} (h : r.map bare = sortL cmpC (l.map normC)) (hl : r.length ≤ l.length) (hr : ∀ c ∈ l, RvC c) (hm : mayPr l = true) : coversB r l = true ∧ coversB l r = true := by
  have mr := norm_may h hl hm
  have rr := norm_rv h hr
  have same : ∀ {d c : Cn}, c ∈ l → bare d = normC c → d.nm = c.nm ∧ ∀ x, Okv x → hasR (regC d) x = hasR (regC c) x := fun {d c} hc e => by
    have mc : mayCn c = true := ((mp_of hm hr).2 c hc).1
    refine ⟨?_, fun x hx => ?_⟩
    · have := congrArg Cn.nm e; exact this
    · rw [← reg_bare d, e, has_norm mc (hr c hc) hx]
  constructor
  · refine covers_sub rr hr mr hm fun d hd => ?_
    obtain ⟨c, hc, e⟩ := norm_of h hd
    obtain ⟨a, b⟩ := same hc e
    exact ⟨c, hc, a.symm, fun x hx k => by rw [b x hx]; exact k⟩
  · refine covers_sub hr rr hm mr fun c hc => ?_
    obtain ⟨d, hd, e⟩ := of_norm h hc
    obtain ⟨a, b⟩ := same hc e
    exact ⟨d, hd, a, fun x hx k => by rw [← b x hx]; exact k⟩
/-- A part of a predicate covers it. -/
theorem part_covers {l r : List Cn} (hs : ∀ c ∈ r, c ∈ l) (hl : r.length ≤ l.length) (hr : ∀ c ∈ l, RvC c) (hm : mayPr l = true) : coversB r l = true := by
  have hp := mp_of hm hr
  have mr : Mp r := ⟨by have := hp.1; omega, fun c hc => hp.2 c (hs c hc)⟩
  exact covers_sub (fun c hc => hr c (hs c hc)) hr (may_of mr) hm fun c hc => ⟨c, hs c hc, rfl, fun x _ k => k⟩
theorem nil_covers {l : List Cn} (hr : ∀ c ∈ l, RvC c) (hm : mayPr l = true) : coversB [] l = true := part_covers (fun c hc => by cases hc) (Nat.zero_le _) hr hm
end Go.Proofs.YtfjfdajachcnjaaGreat.Gm
