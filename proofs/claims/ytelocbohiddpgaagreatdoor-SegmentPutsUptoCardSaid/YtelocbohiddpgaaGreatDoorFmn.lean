/- Layer 11: made: the frames of records that may be, and these records. -/
import Derived.Test.YtelocbohiddpgaaGreatDoorFmk
import Derived.Test.YtelocbohiddpgaaGreatDoorFmi
import Derived.Test.YtelocbohiddpgaaGreatDoorYua
set_option linter.unusedSimpArgs false
set_option linter.unusedVariables false
namespace Go.Proofs.YtelocbohiddpgaaGreatDoor.Crc
open Go Go.RowKit Gm
attribute [local go_sem ↓] Go.wp_at_zero Go.wp_at_succ

def madeL (l : List (List UInt8)) : List (List UInt8) := (l.filter mayR).take 40
def madeK (l : List (List UInt8)) (k : Nat) : List (List UInt8) := (l.take k).filter mayR
theorem madeK_next {l : List (List UInt8)} {k : Nat} (hk : k < l.length) : madeK l (k + 1) = madeK l k ++ (if mayR (l.getD k []) then [l.getD k []] else []) := by
  unfold madeK
  rw [List.take_succ_eq_append_getElem hk, List.filter_append, getD_at11 hk]
  cases h : mayR l[k] <;> simp [List.filter, h]
theorem madeK_all {l : List (List UInt8)} {k : Nat} (h40 : (madeK l k).length ≤ 40) (h : k = l.length ∨ (madeK l k).length = 40) : madeL l = madeK l k := by
  unfold madeL
  rcases h with h | h
  · have e : madeK l k = l.filter mayR := by unfold madeK; rw [h, List.take_length]
    rw [e] at h40 ⊢
    exact List.take_of_length_le h40
  · have e : l.filter mayR = madeK l k ++ (l.drop k).filter mayR := by unfold madeK; rw [← List.filter_append, List.take_append_drop]
    rw [e]
    exact List.take_left' h
theorem made_may {l : List (List UInt8)} : ∀ r ∈ madeL l, mayR r = true := fun r hr => (List.mem_filter.1 (List.mem_of_mem_take hr)).2
theorem made_len (l : List (List UInt8)) : (madeL l).length ≤ 40 := by unfold madeL; rw [List.length_take]; omega
theorem whole_le : ∀ (l : List (List UInt8)), (∀ r ∈ l, mayR r = true) → wholeL l ≤ l.length * 2056
  | [], _ => Nat.zero_le _
  | r :: l, h => by
    have h1 := (mayR_iff r).1 (h r (by simp))
    have h2 := whole_le l (fun x hx => h x (by simp [hx]))
    rw [wholeL_cons, List.length_cons]
    omega
theorem src_one {w : World} {g : Nat} {t : TypeId} {v : Value} (h : Blk w g t #[v]) (hv : v.oneCell' = true) : Src w (.slice (some ⟨g, 0, none⟩) 1 1) 1 1 [v] := by
  refine .inr ⟨⟨g, 0, none⟩, 1, rfl, rfl, fun j u hu => ?_, fun u hu => ?_⟩
  · have hj : j = 0 := by
      cases j with
      | zero => rfl
      | succ j => simp at hu
    subst hj
    have h0 := h.cell 0 (u := u) (by simpa using hu)
    simpa [add0_11] using h0
  · rw [List.mem_singleton] at hu; subst hu; exact hv
/-- What made leaves. -/
def MadeR (l : List (List UInt8)) (w : World) (e : Ending) (w' : World) : Prop := ∃ v1 v2, e = .returned (.tuple #[v1, v2]) ∧ OwnB w' w.heap.size v1 (frms (madeL l)) ∧ RowR w' v2 (madeL l) ∧ Below w.heap.size w w'
theorem own_apart11 {w w' : World} {base base2 : Nat} {t t2 : TypeId} {size size2 n n2 : Nat} {v v2 : Value} {xs xs2 : List Value} (h : w.ownsRow base t size v n xs) (h2 : w.ownsRow base2 t2 size2 v2 n2 xs2) (ht : t ≠ t2) (hg : w.grownBy w' v2.ownBlock) : w'.ownsRow base t size v n xs := by
  refine h.kept hg ?_
  rcases h.2 with ⟨rfl, _⟩ | ⟨g, cap, cur, rfl, _, hh, _⟩
  · exact .inl rfl
  · refine .inr fun e => ?_
    rcases h2.2 with ⟨rfl, _⟩ | ⟨g2, cap2, cur2, rfl, _, hh2, _⟩
    · simp [Value.ownBlock] at e
    · have : g = g2 := by simpa [Value.ownBlock] using e
      subst this
      rw [hh] at hh2
      simp only [Option.some.injEq, Obj.cells.injEq] at hh2
      exact ht hh2.2.1
end Go.Proofs.YtelocbohiddpgaaGreatDoor.Crc
