/- Layer 11: frames, plainly: what a frame is, the records of bytes, what is whole. -/
import Derived.Test.YtmbfhmjcphoddaaGreatDoorYb
set_option linter.unusedSimpArgs false
set_option linter.unusedVariables false
namespace Go.Proofs.YtmbfhmjcphoddaaGreatDoor.Crc
open Go

def head4 (n : Nat) : List UInt8 := [UInt8.ofNat n, UInt8.ofNat (n / 256), UInt8.ofNat (n / 65536), UInt8.ofNat (n / 16777216)]
def frm (r : List UInt8) : List UInt8 := putL (head4 r.length ++ r)
def mayR (r : List UInt8) : Bool := decide (1 ≤ r.length) && decide (r.length ≤ 2048)
theorem mayR_iff (r : List UInt8) : mayR r = true ↔ 1 ≤ r.length ∧ r.length ≤ 2048 := by unfold mayR; simp
def lenN (b : List UInt8) : Nat := (b.getD 0 0).toNat + 256 * (b.getD 1 0).toNat + 65536 * (b.getD 2 0).toNat + 16777216 * (b.getD 3 0).toNat
theorem head4_length (n : Nat) : (head4 n).length = 4 := rfl
theorem lenN_head (n : Nat) (h : n < 4294967296) (t : List UInt8) : lenN (head4 n ++ t) = n := by
  simp only [lenN, head4, List.cons_append, List.getD_cons_zero, List.getD_cons_succ, UInt8.toNat_ofNat']
  omega
theorem frm_eq (r : List UInt8) : frm r = head4 r.length ++ (r ++ le4 (sumL (head4 r.length ++ r))) := by
  unfold frm putL; rw [List.append_assoc]
theorem frm_length (r : List UInt8) : (frm r).length = r.length + 8 := by
  unfold frm; rw [putL_length, List.length_append, head4_length]; omega
theorem lenN_frm {r : List UInt8} (h : mayR r = true) (t : List UInt8) : lenN (frm r ++ t) = r.length := by
  rw [frm_eq, List.append_assoc]
  exact lenN_head _ (by have := (mayR_iff r).1 h; omega) _
def oneB (b : List UInt8) : Bool := decide (4 ≤ b.length) && decide (1 ≤ lenN b) && decide (lenN b ≤ 2048) && decide (lenN b + 8 ≤ b.length) && frameL (b.take (lenN b + 8))
/-- The record whose frame bytes begin with. -/
def oneR (b : List UInt8) : Option (List UInt8) := if oneB b then some ((b.drop 4).take (lenN b)) else none
theorem one_put (r t : List UInt8) (h : mayR r = true) : oneR (frm r ++ t) = some r := by
  have hm := (mayR_iff r).1 h
  have e : (frm r ++ t).take (r.length + 8) = frm r := by rw [← frm_length]; exact List.take_left' rfl
  have hb : oneB (frm r ++ t) = true := by
    unfold oneB
    rw [lenN_frm h, e]
    have hf : frameL (frm r) = true := frame_put _
    simp [hf, frm_length, hm]
    omega
  unfold oneR
  rw [if_pos hb, lenN_frm h, frm_eq]
  simp only [List.append_assoc]
  rw [List.drop_left' (head4_length _), List.take_left' rfl]
theorem head4_of (b : List UInt8) (h : 4 ≤ b.length) : b.take 4 = head4 (lenN b) := by
  match b, h with
  | x :: y :: z :: u :: t, _ =>
    have hx := x.toNat_lt
    have hy := y.toNat_lt
    have hz := z.toNat_lt
    have hu := u.toNat_lt
    simp only [List.take_succ_cons, List.take_zero, head4, lenN, List.getD_cons_zero, List.getD_cons_succ, List.cons.injEq, and_true]
    refine ⟨?_, ?_, ?_, ?_⟩ <;> (apply UInt8.toNat_inj.1; rw [UInt8.toNat_ofNat']; omega)
theorem one_is {b r : List UInt8} (h : oneR b = some r) : mayR r = true ∧ b = frm r ++ b.drop (r.length + 8) ∧ r.length = lenN b := by
  unfold oneR at h
  by_cases hb : oneB b = true
  · rw [if_pos hb] at h
    injection h with h
    unfold oneB at hb
    simp only [Bool.and_eq_true, decide_eq_true_eq] at hb
    obtain ⟨⟨⟨⟨h1, h2⟩, h3⟩, h4⟩, h5⟩ := hb
    have hl : r.length = lenN b := by rw [← h, List.length_take, List.length_drop]; omega
    refine ⟨by rw [mayR_iff]; omega, ?_, hl⟩
    unfold frameL at h5
    simp only [Bool.and_eq_true, decide_eq_true_eq, beq_iff_eq] at h5
    have hlt : (b.take (lenN b + 8)).length = lenN b + 8 := by rw [List.length_take]; omega
    rw [hlt, List.take_take] at h5
    have e1 : b.take (min (lenN b + 8 - 4) (lenN b + 8)) = head4 r.length ++ r := by
      have : min (lenN b + 8 - 4) (lenN b + 8) = 4 + lenN b := by omega
      rw [this, List.take_add, head4_of b h1, hl, h]
    rw [e1] at h5
    have e2 : frm r = b.take (lenN b + 8) := h5.2
    rw [hl, e2, List.take_append_drop]
  · rw [if_neg hb] at h; cases h
theorem one_le {b r : List UInt8} (h : oneR b = some r) : r.length + 8 ≤ b.length := by
  obtain ⟨_, h2, _⟩ := one_is h
  rw [h2, List.length_append, frm_length]; omega
def splitF : Nat → List UInt8 → List (List UInt8)
  | 0, _ => []
  | n + 1, b => match oneR b with
    | none => []
    | some r => r :: splitF n (b.drop (r.length + 8))
theorem splitF_fuel : ∀ (n m : Nat) (b : List UInt8), b.length ≤ n → b.length ≤ m → splitF n b = splitF m b := by
  intro n
  induction n with
  | zero =>
    intro m b h _
    have : b = [] := List.eq_nil_of_length_eq_zero (by omega)
    subst this
    cases m with
    | zero => rfl
    | succ m => simp [splitF, oneR, oneB]
  | succ n ih =>
    intro m b h1 h2
    cases m with
    | zero =>
      have : b = [] := List.eq_nil_of_length_eq_zero (by omega)
      subst this
      simp [splitF, oneR, oneB]
    | succ m =>
      unfold splitF
      cases h : oneR b with
      | none => rfl
      | some r =>
        have := one_le h
        simp only
        rw [ih m (b.drop (r.length + 8)) (by rw [List.length_drop]; omega) (by rw [List.length_drop]; omega)]
/-- The records of the frames of bytes. -/
def splitR (b : List UInt8) : List (List UInt8) := splitF b.length b
theorem split_none {b : List UInt8} (h : oneR b = none) : splitR b = [] := by
  unfold splitR
  cases hb : b.length with
  | zero => rfl
  | succ n => unfold splitF; rw [h]
theorem split_some {b r : List UInt8} (h : oneR b = some r) : splitR b = r :: splitR (b.drop (r.length + 8)) := by
  have := one_le h
  unfold splitR
  cases hb : b.length with
  | zero => omega
  | succ n =>
    rw [splitF, h]
    simp only
    rw [splitF_fuel n (b.drop (r.length + 8)).length (b.drop (r.length + 8)) (by rw [List.length_drop]; omega) (Nat.le_refl _)]
/-- How many bytes the frames of records have. -/
def wholeL (l : List (List UInt8)) : Nat := (l.map fun r => r.length + 8).sum
def frms (l : List (List UInt8)) : List UInt8 := l.flatMap frm
theorem frms_nil : frms [] = [] := rfl
theorem frms_cons (r : List UInt8) (l : List (List UInt8)) : frms (r :: l) = frm r ++ frms l := by simp [frms]
theorem frms_snoc (l : List (List UInt8)) (r : List UInt8) : frms (l ++ [r]) = frms l ++ frm r := by simp [frms]
theorem wholeL_cons (r : List UInt8) (l : List (List UInt8)) : wholeL (r :: l) = r.length + 8 + wholeL l := by simp [wholeL]
theorem wholeL_snoc (l : List (List UInt8)) (r : List UInt8) : wholeL (l ++ [r]) = wholeL l + (r.length + 8) := by simp [wholeL]
theorem wholeL_nil : wholeL [] = 0 := rfl
theorem frms_length : ∀ l : List (List UInt8), (frms l).length = wholeL l
  | [] => rfl
  | r :: l => by rw [frms_cons, wholeL_cons, List.length_append, frm_length, frms_length l]
theorem split_app : ∀ (l : List (List UInt8)) (t : List UInt8), (∀ r ∈ l, mayR r = true) → splitR (frms l ++ t) = l ++ splitR t
  | [], t, _ => rfl
  | r :: l, t, h => by
    rw [frms_cons, List.append_assoc, split_some (one_put r _ (h r (by simp))), ← frm_length, List.drop_left' rfl, split_app l t (fun x hx => h x (by simp [hx]))]
    rfl
theorem split_is : ∀ (n : Nat) (b : List UInt8), b.length ≤ n → b = frms (splitR b) ++ b.drop (wholeL (splitR b)) ∧ oneR (b.drop (wholeL (splitR b))) = none ∧ ∀ r ∈ splitR b, mayR r = true := by
  intro n
  induction n with
  | zero =>
    intro b h
    have : b = [] := List.eq_nil_of_length_eq_zero (by omega)
    subst this
    exact ⟨rfl, rfl, by intro r hr; cases hr⟩
  | succ n ih =>
    intro b hb
    cases h : oneR b with
    | none =>
      rw [split_none h]
      exact ⟨by simp [frms, wholeL], by simpa [wholeL] using h, by intro r hr; cases hr⟩
    | some r =>
      have hle := one_le h
      obtain ⟨h1, h2, _⟩ := one_is h
      obtain ⟨i1, i2, i3⟩ := ih (b.drop (r.length + 8)) (by rw [List.length_drop]; omega)
      rw [List.drop_drop] at i1 i2
      rw [split_some h, frms_cons, wholeL_cons]
      refine ⟨?_, i2, ?_⟩
      · rw [List.append_assoc, ← i1]; exact h2
      · intro x hx
        rcases List.mem_cons.1 hx with rfl | hx
        · exact h1
        · exact i3 x hx
theorem split_may (b : List UInt8) : ∀ r ∈ splitR b, mayR r = true := (split_is _ b (Nat.le_refl _)).2.2
theorem split_eq (b : List UInt8) : b = frms (splitR b) ++ b.drop (wholeL (splitR b)) := (split_is _ b (Nat.le_refl _)).1
theorem split_rest (b : List UInt8) : oneR (b.drop (wholeL (splitR b))) = none := (split_is _ b (Nat.le_refl _)).2.1
theorem split_le (b : List UInt8) : wholeL (splitR b) ≤ b.length := by
  have := congrArg List.length (split_eq b)
  rw [List.length_append, frms_length] at this
  omega
theorem split_take (b : List UInt8) : b.take (wholeL (splitR b)) = frms (splitR b) := by
  have h := split_eq b
  have e : (frms (splitR b)).length = wholeL (splitR b) := frms_length _
  generalize frms (splitR b) = F at *
  generalize wholeL (splitR b) = n at *
  rw [h]
  exact List.take_left' e
theorem split_more (b c : List UInt8) : splitR (b ++ c) = splitR b ++ splitR ((b ++ c).drop (wholeL (splitR b))) := by
  have h : b ++ c = frms (splitR b) ++ (b ++ c).drop (wholeL (splitR b)) := by
    rw [List.drop_append_of_le_length (split_le b), ← List.append_assoc, ← split_eq b]
  have := split_app (splitR b) ((b ++ c).drop (wholeL (splitR b))) (split_may b)
  rw [← h] at this
  exact this
/-- A beginning of a frame that is not all of it is none. -/
theorem one_short {x r t : List UInt8} (h : mayR r = true) (hx : x.length < r.length + 8) (h4 : 9 ≤ x.length → lenN x = r.length) : oneR x = none := by
  cases hr : oneR x with
  | none => rfl
  | some r' =>
    have := one_le hr
    obtain ⟨h1, _, h3⟩ := one_is hr
    have hm := (mayR_iff r').1 h1
    rw [h4 (by omega)] at h3
    omega
theorem lenN_take (b : List UInt8) (k : Nat) (h : 4 ≤ k) : lenN (b.take k) = lenN b := by
  unfold lenN
  simp only [List.getD_eq_getElem?_getD, List.getElem?_take]
  rw [if_pos (by omega), if_pos (by omega), if_pos (by omega), if_pos (by omega)]
theorem lenN_set (b : List UInt8) (k : Nat) (c : UInt8) (h : 4 ≤ k) : lenN (b.set k c) = lenN b := by
  unfold lenN
  simp only [List.getD_eq_getElem?_getD]
  rw [List.getElem?_set_ne (by omega), List.getElem?_set_ne (by omega), List.getElem?_set_ne (by omega), List.getElem?_set_ne (by omega)]
theorem lenN_frm' {r : List UInt8} (h : mayR r = true) : lenN (frm r) = r.length := by
  have := lenN_frm h []
  rwa [List.append_nil] at this
theorem one_cut {r : List UInt8} (h : mayR r = true) {k : Nat} (hk : k < r.length + 8) : oneR ((frm r).take k) = none :=
  one_short (t := []) h (by rw [List.length_take, frm_length]; omega) (fun h4 => by
    rw [List.length_take, frm_length] at h4
    rw [lenN_take _ _ (by omega), lenN_frm' h])
theorem one_torn {r : List UInt8} (h : mayR r = true) {k : Nat} (hk : k < r.length + 8) {c : UInt8} (hc : c ≠ (frm r).getD k 0) : oneR (((frm r).take (k + 1)).set k c) = none := by
  have hm := (mayR_iff r).1 h
  have hl := frm_length r
  by_cases hlast : k + 1 = r.length + 8
  · have e : (frm r).take (k + 1) = frm r := by rw [hlast, ← hl]; exact List.take_length
    rw [e]
    have hf := frame_turned (head4 r.length ++ r) (p := k) (by show k < (frm r).length; omega) (d := c) (by
      intro he
      apply hc
      rw [he, List.getD_eq_getElem?_getD, List.getElem?_eq_getElem (by omega)]
      rfl)
    have hb : oneB ((frm r).set k c) = false := by
      unfold oneB
      rw [lenN_set _ _ _ (by omega), lenN_frm' h]
      have : ((frm r).set k c).take (r.length + 8) = (frm r).set k c := by
        apply List.take_of_length_le
        rw [List.length_set, hl]; exact Nat.le_refl _
      rw [this]
      have hf' : frameL ((frm r).set k c) = false := hf
      rw [hf', Bool.and_false]
    unfold oneR
    rw [hb]
    rfl
  · refine one_short (t := []) h (by rw [List.length_set, List.length_take, hl]; omega) (fun h4 => ?_)
    rw [List.length_set, List.length_take, hl] at h4
    rw [lenN_set _ _ _ (by omega), lenN_take _ _ (by omega), lenN_frm' h]
theorem wholeL_app (l m : List (List UInt8)) : wholeL (l ++ m) = wholeL l + wholeL m := by simp [wholeL]
theorem split_at (b : List UInt8) (j : Nat) (hj : j ≤ (splitR b).length) : wholeL ((splitR b).take j) ≤ b.length ∧ oneR (b.drop (wholeL ((splitR b).take j))) = (splitR b)[j]? := by
  have h := split_eq b
  have hr := split_rest b
  have hm := split_may b
  have hle := split_le b
  generalize b.drop (wholeL (splitR b)) = t at *
  generalize splitR b = l at *
  have e : wholeL l = wholeL (l.take j) + wholeL (l.drop j) := by rw [← wholeL_app, List.take_append_drop]
  refine ⟨by omega, ?_⟩
  have e2 : b.drop (wholeL (l.take j)) = frms (l.drop j) ++ t := by
    have : b = frms (l.take j) ++ (frms (l.drop j) ++ t) := by
      rw [← List.append_assoc]
      unfold frms at *
      rw [← List.flatMap_append, List.take_append_drop]
      exact h
    rw [this]
    exact List.drop_left' (frms_length _)
  rw [e2]
  by_cases hlt : j < l.length
  · rw [List.drop_eq_getElem_cons hlt, frms_cons, List.append_assoc, one_put _ _ (hm _ (List.getElem_mem hlt)), List.getElem?_eq_getElem hlt]
  · rw [List.drop_of_length_le (by omega), List.getElem?_eq_none (by omega)]
    exact hr
theorem whole_next {l : List (List UInt8)} {j : Nat} {r : List UInt8} (h : l[j]? = some r) : wholeL (l.take (j + 1)) = wholeL (l.take j) + (r.length + 8) := by
  obtain ⟨hj, rfl⟩ := List.getElem?_eq_some_iff.1 h
  rw [List.take_succ_eq_append_getElem hj, wholeL_snoc]
end Go.Proofs.YtmbfhmjcphoddaaGreatDoor.Crc
