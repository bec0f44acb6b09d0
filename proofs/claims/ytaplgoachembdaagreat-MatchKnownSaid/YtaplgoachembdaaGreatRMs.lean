/- Parts of rows in memory, as sources of an append: of no program. -/
import Derived.Test.YtaplgoachembdaaGreatKj
set_option linter.unusedSimpArgs false
set_option linter.unusedVariables false
namespace Go.Proofs.YtaplgoachembdaaGreat.Gm
open Go Go.RowKit
attribute [local go_sem ↓] Go.wp_at_zero Go.wp_at_succ

section
variable {α : Type} [Inhabited α] {enc : α → List Value} {n : Nat} {w : World} {p : Option Addr} {cap : Nat} {l : List α}
theorem flat_back (hn0 : 0 < n) (hn : ∀ x, (enc x).length = n) (l : List α) (t : Nat) (u : Value) (h : (l.flatMap enc)[t]? = some u) : t / n < l.length ∧ t / n * n + t % n = t ∧ (enc (l.getD (t / n) default))[t % n]? = some u := by
  have ht : t < l.length * n := by have := (List.getElem?_eq_some_iff.1 h).1; rwa [flat_length hn] at this
  have hi : t / n < l.length := Nat.div_lt_of_lt_mul (by rw [Nat.mul_comm]; exact ht)
  have e : t / n * n + t % n = t := by rw [Nat.mul_comm]; exact Nat.div_add_mod t n
  have hlt : t % n < (enc (l.getD (t / n) default)).length := by rw [hn]; exact Nat.mod_lt _ hn0
  have h2 := flat_at hn l (t / n) (t % n) _ hi (List.getElem?_eq_getElem hlt)
  rw [e, h] at h2
  exact ⟨hi, e, by rw [List.getElem?_eq_getElem hlt, ← h2]⟩
theorem row_src (hn0 : 0 < n) (hn : ∀ x, (enc x).length = n) (h1 : ∀ x, ∀ u ∈ enc x, u.oneCell' = true) {v : Value} (h : RowIn enc n w v l) : Src w v l.length n (l.flatMap enc) := by
  obtain ⟨p, cap, b, o, rfl, hcap, h3, h4, h5⟩ := h
  cases p with
  | none =>
    have hl : l = [] := by
      by_cases hl : l = []
      · exact hl
      · have := (h3 hl).1; cases this
    subst hl
    have := h4 rfl rfl
    subst this
    exact .inl ⟨rfl, rfl, rfl⟩
  | some a =>
    refine .inr ⟨a, cap, rfl, flat_length hn l, fun j u hu => ?_, flat_one h1 l⟩
    obtain ⟨hi, e, hu2⟩ := flat_back hn0 hn l j u hu
    have hl : l ≠ [] := by rintro rfl; simp at hi
    obtain ⟨ha, hb⟩ := h3 hl
    simp only [Option.some.injEq] at ha
    subst ha
    have h6 := h5 (j / n) hi (j % n) u hu2
    rw [Nat.add_assoc, e] at h6
    rw [add_lit]
    exact h6
theorem row_pre {k : Nat} (hk : k ≤ l.length) (h : RowIn enc n w (.slice p l.length cap) l) : RowIn enc n w (.slice p k cap) (l.take k) := by
  obtain ⟨p', cap', b, o, hv, hcap, h3, h4, h5⟩ := h
  simp only [Value.slice.injEq, true_and] at hv
  obtain ⟨rfl, rfl⟩ := hv
  have hlen : (l.take k).length = k := by rw [List.length_take, Nat.min_eq_left hk]
  refine ⟨p, cap, b, o, by rw [hlen], by omega, fun hl => h3 (by rintro rfl; simp at hl), fun hl hp => ?_, fun i hi j u hu => ?_⟩
  · by_cases h0 : l = []
    · exact h4 h0 hp
    · have := (h3 h0).1; rw [hp] at this; cases this
  · rw [hlen] at hi
    have e : (l.take k).getD i default = l.getD i default := by rw [List.getD_eq_getElem?_getD, List.getD_eq_getElem?_getD, List.getElem?_take, if_pos hi]
    rw [e] at hu
    exact h5 i (by omega) j u hu
/-- Where the part behind k elements lies. -/
def sufP (p : Option Addr) (k n cap : Nat) : Option Addr := if cap = k then p else p.map fun a => a.add (k * n)
theorem row_suf {k : Nat} (hk : k ≤ l.length) (h : RowIn enc n w (.slice p l.length cap) l) : RowIn enc n w (.slice (sufP p k n cap) (l.length - k) (cap - k)) (l.drop k) := by
  obtain ⟨p', cap', b, o, hv, hcap, h3, h4, h5⟩ := h
  simp only [Value.slice.injEq, true_and] at hv
  obtain ⟨rfl, rfl⟩ := hv
  have hlen : (l.drop k).length = l.length - k := List.length_drop
  refine ⟨sufP p k n cap, cap - k, b, o + k * n, by rw [hlen], by omega, fun hl => ?_, fun hl hp => ?_, fun i hi j u hu => ?_⟩
  · have hkl : k < l.length := by
      by_cases h0 : k < l.length
      · exact h0
      · exact absurd (List.drop_eq_nil_of_le (by omega)) hl
    obtain ⟨hp, hb⟩ := h3 (by rintro rfl; simp at hkl)
    refine ⟨?_, hb⟩
    rw [sufP, if_neg (by omega), hp, Option.map_some, add_lit]
  · have hp' : p = none := by
      unfold sufP at hp
      split at hp
      · exact hp
      · simpa using hp
    by_cases h0 : l = []
    · have := h4 h0 hp'; omega
    · have := (h3 h0).1; rw [hp'] at this; cases this
  · rw [hlen] at hi
    have e : (l.drop k).getD i default = l.getD (k + i) default := by rw [List.getD_eq_getElem?_getD, List.getD_eq_getElem?_getD, List.getElem?_drop]
    rw [e] at hu
    have h6 := h5 (k + i) (by omega) j u hu
    rw [Nat.add_mul, ← Nat.add_assoc] at h6
    exact h6
end
/-- A slice's value that lies nowhere has no room. -/
theorem row_room {α : Type} [Inhabited α] {enc : α → List Value} {n : Nat} {w : World} {p : Option Addr} {cap : Nat} {l : List α} (h : RowIn enc n w (.slice p l.length cap) l) : l.length ≤ cap ∧ (p = none → cap = 0) := by
  obtain ⟨p', cap', b, o, hv, hcap, h3, h4, h5⟩ := h
  simp only [Value.slice.injEq, true_and] at hv
  obtain ⟨rfl, rfl⟩ := hv
  refine ⟨hcap, fun hp => ?_⟩
  by_cases h0 : l = []
  · exact h4 h0 hp
  · have := (h3 h0).1; rw [hp] at this; cases this
end Go.Proofs.YtaplgoachembdaaGreat.Gm
