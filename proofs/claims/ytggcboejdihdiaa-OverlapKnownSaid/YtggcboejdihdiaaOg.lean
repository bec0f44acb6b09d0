/- Package overlap's Overlaps and Any, walked; what they answer, as plain facts. -/
import Derived.Test.YtggcboejdihdiaaOf
import Derived.Test.YtggcboejdihdiaaPy
import Derived.Test.YtggcboejdihdiaaCt
set_option linter.unusedSimpArgs false
set_option linter.unusedVariables false
namespace Go.Proofs.Ytggcboejdihdiaa.Gm
open Go Go.RowKit
attribute [local go_sem ↓] Go.wp_at_zero Go.wp_at_succ

set_option maxHeartbeats 4000000 in
set_option maxRecDepth 100000 in
theorem overlaps_any (v0 v1 : Value) (p q : List Cn) (w : World) (hP : Cs w v0 p) (hQ : Cs w v1 q) (rp : ∀ c ∈ p, RvC c) (rq : ∀ c ∈ q, RvC c) : Calls Try.prog 6 #[v0, v1] w (Gives (.bool (overB p q)) w) := by
  have HE := Lib.hid (example_any v0 v1 p q w hP hQ rp rq)
  obtain ⟨p0, c0, rfl⟩ := hP.1.form
  obtain ⟨p1, c1, rfl⟩ := hQ.1.form
  clear hP hQ rp rq
  go_enter Try.func6, Try.ntmps6
  go_wp2_with fail
  refine HE.out.mono ?_; rintro e w1 ⟨v, rfl, ho, b1⟩
  obtain ⟨pv, cv, rfl⟩ := own_shape ho
  have HB1 : Hid (Below w.heap.size w (w1.alloc (.cells #[.string ⟨#[]⟩, .slice pv (exL p q).length cv] 47))) := Lib.hid (b1.alloc b1.size _)
  clear ho b1 HE
  generalize (exL p q).length = N at HB1 ⊢
  go_wp2_with fail
  go_ret
  exact ⟨rfl, HB1.out⟩
set_option maxHeartbeats 4000000 in
set_option maxRecDepth 100000 in
theorem any_any (v0 : Value) (p : List Cn) (w : World) (hP : Cs w v0 p) (rp : ∀ c ∈ p, RvC c) : Calls Try.prog 8 #[v0] w (Gives (.bool (overB p [])) w) := by
  have HE := Lib.hid (overlaps_any v0 (.slice none 0 0) p [] w hP (cs_nil w) rp (fun c hc => by cases hc))
  obtain ⟨p0, c0, rfl⟩ := hP.1.form
  clear hP rp
  go_enter Try.func8, Try.ntmps8
  go_wp2_with fail
  refine HE.out.mono ?_; rintro e w1 ⟨rfl, b1⟩
  have HB1 := Lib.hid b1
  clear b1 HE
  go_wp2_with fail
  go_ret
  exact ⟨rfl, HB1.out⟩

/-! ### Plain facts -/
theorem over_iff {p q : List Cn} (rp : ∀ c ∈ p, RvC c) (rq : ∀ c ∈ q, RvC c) : overB p q = true ↔ mayPr p = true ∧ mayPr q = true ∧ Meets p q := by
  unfold overB
  rw [Bool.and_eq_true, Bool.and_eq_true]
  constructor
  · rintro ⟨⟨mp, mq⟩, h⟩
    refine ⟨mp, mq, (meets_iff (mp_of mp rp) (mp_of mq rq) (names_both p q)).1 ?_⟩
    rw [List.any_eq_false]
    intro n hn
    have := List.all_eq_true.1 h n hn
    unfold emptyR
    rw [this]; decide
  · rintro ⟨mp, mq, h⟩
    refine ⟨⟨mp, mq⟩, List.all_eq_true.2 fun n hn => ?_⟩
    have := (meets_iff (mp_of mp rp) (mp_of mq rq) (names_both p q)).2 h
    rw [List.any_eq_false] at this
    have := this n hn
    unfold emptyR at this
    simpa using this
theorem may_nil : mayPr [] = true := rfl
theorem rv_nil : ∀ c ∈ ([] : List Cn), RvC c := fun c hc => by cases hc
/-- Who overlaps one that a third one covers overlaps that third one. -/
theorem over_covers {p q r : List Cn} (rp : ∀ c ∈ p, RvC c) (rq : ∀ c ∈ q, RvC c) (rr : ∀ c ∈ r, RvC c) (h : overB p q = true) (k : coversB r q = true) : overB p r = true := by
  obtain ⟨mp, mq, hm⟩ := (over_iff rp rq).1 h
  obtain ⟨mr, _, hc⟩ := (covers_iff rr rq).1 k
  exact (over_iff rp rr).2 ⟨mp, mr, meets_covers (mp_of mq rq) (mp_of mr rr) hm hc⟩
/-- One that covers another one, which matches anything, overlaps it. -/
theorem covers_over {p q : List Cn} (rp : ∀ c ∈ p, RvC c) (rq : ∀ c ∈ q, RvC c) (k : coversB p q = true) (h : overB q [] = true) : overB p q = true := by
  obtain ⟨mp, mq, hc⟩ := (covers_iff rp rq).1 k
  obtain ⟨_, _, hm⟩ := (over_iff rq rv_nil).1 h
  exact (over_iff rp rq).2 ⟨mp, mq, covers_meets (mp_of mp rp) hc hm⟩
/-- What matches nothing overlaps nobody, and is covered by all. -/
theorem over_nobody {p q : List Cn} (rp : ∀ c ∈ p, RvC c) (rq : ∀ c ∈ q, RvC c) (h : overB p [] = false) : overB p q = false := by
  cases hv : overB p q
  · rfl
  · obtain ⟨mp, _, hm⟩ := (over_iff rp rq).1 hv
    rw [(over_iff rp rv_nil).2 ⟨mp, may_nil, meets_nil hm⟩] at h
    cases h
theorem covered_all {p q : List Cn} (rp : ∀ c ∈ p, RvC c) (rq : ∀ c ∈ q, RvC c) (mp : mayPr p = true) (mq : mayPr q = true) (h : overB p [] = false) : coversB q p = true := by
  refine (covers_iff rq rp).2 ⟨mq, mp, .inl (nothing_of (mp_of mp rp) fun hm => ?_)⟩
  rw [(over_iff rp rv_nil).2 ⟨mp, may_nil, hm⟩] at h
  cases h
theorem over_symm {p q : List Cn} (rp : ∀ c ∈ p, RvC c) (rq : ∀ c ∈ q, RvC c) : overB p q = overB q p := by
  rw [Bool.eq_iff_iff, over_iff rp rq, over_iff rq rp]
  exact ⟨fun ⟨a, b, c⟩ => ⟨b, a, c.symm⟩, fun ⟨a, b, c⟩ => ⟨b, a, c.symm⟩⟩
/-- A name is shown just if both may be and do not overlap. -/
theorem apart_some (p q : List Cn) : (apR p q).isSome = (mayPr p && mayPr q && !overB p q) := by
  unfold apR overB
  by_cases h : (mayPr p && mayPr q) = true
  · rw [if_pos h, h, Bool.true_and, Bool.true_and]
    unfold apartB
    rw [Bool.eq_iff_iff, List.find?_isSome]
    rw [Bool.not_eq_true', List.all_eq_false]
    constructor
    · rintro ⟨x, hx, he⟩
      exact ⟨x, hx, by unfold emptyR at he; simpa using he⟩
    · rintro ⟨x, hx, he⟩
      exact ⟨x, hx, by unfold emptyR; simpa using he⟩
  · rw [if_neg h]
    rw [Bool.eq_false_iff.2 h]; rfl
/-- Of the name that is shown both together ask for nothing. -/
theorem apart_empty {p q : List Cn} {n : List UInt8} (h : apR p q = some n) : mayPr p = true ∧ mayPr q = true ∧ emptyR (bothR p q n) = true := by
  unfold apR at h
  by_cases hm : (mayPr p && mayPr q) = true
  · rw [if_pos hm] at h
    obtain ⟨mp, mq⟩ := (Bool.and_eq_true _ _).mp hm
    exact ⟨mp, mq, List.find?_some (p := fun x => emptyR (bothR p q x)) h⟩
  · rw [if_neg hm] at h; cases h
/-- Without their constraints of all other names they do not overlap either. -/
theorem only_rv {p : List Cn} (rp : ∀ c ∈ p, RvC c) (n : List UInt8) : ∀ c ∈ onlyP p n, RvC c := fun c hc => rp c (only_mem hc)
theorem only_over {p q : List Cn} (rp : ∀ c ∈ p, RvC c) (rq : ∀ c ∈ q, RvC c) {n : List UInt8} (h : apR p q = some n) : overB (onlyP p n) (onlyP q n) = false := by
  obtain ⟨mp, mq, he⟩ := apart_empty h
  cases hv : overB (onlyP p n) (onlyP q n)
  · rfl
  · exact absurd ((over_iff (only_rv rp n) (only_rv rq n)).1 hv).2.2 (only_apart (mp_of mp rp) (mp_of mq rq) he)
end Go.Proofs.Ytggcboejdihdiaa.Gm
