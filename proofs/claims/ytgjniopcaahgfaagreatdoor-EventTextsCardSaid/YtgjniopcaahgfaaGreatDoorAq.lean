/- Parts of a slice of attributes that are appended: their cells. -/
import Derived.Test.YtgjniopcaahgfaaGreatDoorMh
import Derived.Test.YtgjniopcaahgfaaGreatDoorAp
set_option linter.unusedSimpArgs false
set_option linter.unusedVariables false
namespace Go.Proofs.YtgjniopcaahgfaaGreatDoor
open Go.RowKit

theorem cells_of_sl {W : World} {a : Addr} {cap : Nat} {l : List Attr} (h : Sl W (.slice (some a) l.length cap) l) : ∀ t u, (cellsA l)[t]? = some u → W.cell? (a.add t) = some u ∧ a.spot = none := by
  intro t u ht
  have ht' : t < l.length * 5 := by have := (List.getElem?_eq_some_iff.1 ht).1; rwa [cellsA_length] at this
  have hne : l ≠ [] := by rintro rfl; simp at ht'
  obtain ⟨p, cap', b, o, hv, hp, hC, _⟩ := h
  obtain ⟨rfl, hb⟩ := hp hne
  simp only [Value.slice.injEq, Option.some.injEq] at hv
  obtain ⟨rfl, _, rfl⟩ := hv
  have hi : t / 5 < l.length := Nat.div_lt_of_lt_mul (by omega)
  have e : t / 5 * 5 + t % 5 = t := by omega
  have h1 : (encA (l.getD (t / 5) default))[t % 5]? = some (encA (l.getD (t / 5) default))[t % 5]! := by
    rw [getElem!_pos _ _ (by rw [encA_length]; exact Nat.mod_lt _ (by decide))]
    exact List.getElem?_eq_getElem _
  have h2 := cellsA_at l (t / 5) (t % 5) _ hi h1
  rw [e, ht] at h2
  have h3 := hC (t / 5) hi (t % 5) u (by rw [h1, h2])
  rw [Nat.add_assoc, e] at h3
  refine ⟨?_, rfl⟩
  unfold Addr.add
  by_cases h0 : t = 0
  · subst h0; simpa using h3
  · simpa [h0] using h3
theorem cells_take {W : World} {a : Addr} {cap : Nat} {l : List Attr} (h : Sl W (.slice (some a) l.length cap) l) (K : Nat) : ∀ t u, (cellsA (l.take K))[t]? = some u → W.cell? (a.add t) = some u := by
  intro t u ht
  have e : cellsA l = cellsA (l.take K) ++ cellsA (l.drop K) := by rw [← cellsA_append, List.take_append_drop]
  refine (cells_of_sl h t u ?_).1
  rw [e, List.getElem?_append_left (List.getElem?_eq_some_iff.1 ht).1]; exact ht
theorem cells_drop {W : World} {a A : Addr} {cap : Nat} {l : List Attr} (h : Sl W (.slice (some a) l.length cap) l) (hcap : l.length ≤ cap) (K : Nat) (hA : (if cap = K then some a else some (a.add (K * 5))) = some A) : ∀ t u, (cellsA (l.drop K))[t]? = some u → W.cell? (A.add t) = some u := by
  intro t u ht
  have ht' : t < (l.length - K) * 5 := by have := (List.getElem?_eq_some_iff.1 ht).1; rwa [cellsA_length, List.length_drop] at this
  have hK : K < l.length := by omega
  rw [if_neg (by omega)] at hA
  simp only [Option.some.injEq] at hA
  have e : cellsA l = cellsA (l.take K) ++ cellsA (l.drop K) := by rw [← cellsA_append, List.take_append_drop]
  have hlen : (cellsA (l.take K)).length = K * 5 := by rw [cellsA_length, List.length_take, Nat.min_eq_left (by omega)]
  have h1 : (cellsA l)[K * 5 + t]? = some u := by
    rw [e, List.getElem?_append_right (by omega), hlen, show K * 5 + t - K * 5 = t by omega]; exact ht
  obtain ⟨h2, hsp⟩ := cells_of_sl h _ u h1
  subst hA
  obtain ⟨b, o, sp⟩ := a
  simp only at hsp
  subst hsp
  have hadd : ((⟨b, o, none⟩ : Addr).add (K * 5)).add t = (⟨b, o, none⟩ : Addr).add (K * 5 + t) := by
    unfold Addr.add
    by_cases hi : K * 5 = 0 <;> by_cases hj : t = 0 <;> simp [hi, hj]
    all_goals (try omega)
    all_goals (split <;> simp <;> omega)
  rw [hadd]; exact h2

end Go.Proofs.YtgjniopcaahgfaaGreatDoor
