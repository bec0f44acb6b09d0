/- The sum of 32 bits as plain functions: a register that goes bit by bit; that it is linear, and that no stretch of at most 32 bits is lost. -/
import Derived.Test.YtelocbohiddpgaaGreatDoorProg
set_option linter.unusedSimpArgs false
set_option linter.unusedVariables false
namespace Go.Proofs.YtelocbohiddpgaaGreatDoor.Crc
open Go

def poly : BitVec 32 := 0x82f63b78#32
/-- One bit towards the lowest. -/
def stp (s : BitVec 32) : BitVec 32 := (s >>> 1) ^^^ (if s.getLsbD 0 then poly else 0#32)
theorem stp_xor (a b : BitVec 32) : stp (a ^^^ b) = stp a ^^^ stp b := by
  unfold stp
  rw [BitVec.ushiftRight_xor_distrib, BitVec.getLsbD_xor]
  generalize a >>> 1 = x
  generalize b >>> 1 = y
  cases a.getLsbD 0 <;> cases b.getLsbD 0
  · simp
  · simp [BitVec.xor_assoc]
  · rw [show (true ^^ false) = true from rfl]
    simp only [if_true, Bool.false_eq_true, if_false, BitVec.xor_zero]; ac_rfl
  · rw [show (true ^^ true) = false from rfl]
    simp only [if_true, Bool.false_eq_true, if_false, BitVec.xor_zero]
    rw [BitVec.xor_comm y poly, BitVec.xor_assoc x poly, ← BitVec.xor_assoc poly poly, BitVec.xor_self, BitVec.zero_xor]
theorem stp_zero : stp 0#32 = 0#32 := by decide
theorem stp_top (a : BitVec 32) : (stp a).getLsbD 31 = a.getLsbD 0 := by
  unfold stp
  rw [BitVec.getLsbD_xor, BitVec.getLsbD_ushiftRight]
  cases h : a.getLsbD 0 <;> simp [poly, BitVec.getLsbD_of_ge]
theorem stp_none {a : BitVec 32} (h : stp a = 0#32) : a = 0#32 := by
  have h0 : a.getLsbD 0 = false := by rw [← stp_top, h]; rfl
  unfold stp at h
  rw [h0] at h
  simp only [Bool.false_eq_true, if_false, BitVec.xor_zero] at h
  refine BitVec.eq_of_getLsbD_eq fun i hi => ?_
  rw [BitVec.getLsbD_zero]
  cases i with
  | zero => exact h0
  | succ i =>
    have := congrArg (fun x => BitVec.getLsbD x i) h
    simp only [BitVec.getLsbD_ushiftRight, BitVec.getLsbD_zero] at this
    rw [Nat.add_comm]; exact this
/-- n bits. -/
def stps : Nat → BitVec 32 → BitVec 32
  | 0, s => s
  | n + 1, s => stps n (stp s)
theorem stps_xor : ∀ (n : Nat) (a b : BitVec 32), stps n (a ^^^ b) = stps n a ^^^ stps n b
  | 0, _, _ => rfl
  | n + 1, a, b => by show stps n (stp (a ^^^ b)) = _; rw [stp_xor, stps_xor n]; rfl
theorem stps_zero : ∀ n : Nat, stps n 0#32 = 0#32
  | 0 => rfl
  | n + 1 => by show stps n (stp 0#32) = _; rw [stp_zero]; exact stps_zero n
theorem stps_none : ∀ (n : Nat) {a : BitVec 32}, stps n a = 0#32 → a = 0#32
  | 0, _, h => h
  | n + 1, _, h => stp_none (stps_none n h)
theorem stps_add (n m : Nat) (a : BitVec 32) : stps (n + m) a = stps m (stps n a) := by
  induction n generalizing a with
  | zero => rw [Nat.zero_add]; rfl
  | succ n ih => rw [Nat.add_right_comm]; exact ih (stp a)
def bitW (b : Bool) : BitVec 32 := if b then 1#32 else 0#32
theorem bitW_xor (a b : Bool) : bitW (a ^^ b) = bitW a ^^^ bitW b := by cases a <;> cases b <;> decide
/-- Bits go in, the first one first. -/
def absorb (s : BitVec 32) (l : List Bool) : BitVec 32 := l.foldl (fun s b => stp (s ^^^ bitW b)) s
theorem absorb_cons (s : BitVec 32) (b : Bool) (l : List Bool) : absorb s (b :: l) = absorb (stp (s ^^^ bitW b)) l := rfl
theorem absorb_append (s : BitVec 32) (l m : List Bool) : absorb s (l ++ m) = absorb (absorb s l) m := List.foldl_append
theorem absorb_xor : ∀ (l m : List Bool) (s t : BitVec 32), l.length = m.length → absorb (s ^^^ t) (List.zipWith (· ^^ ·) l m) = absorb s l ^^^ absorb t m
  | [], [], s, t, _ => rfl
  | [], _ :: _, _, _, h => by simp at h
  | _ :: _, [], _, _, h => by simp at h
  | a :: l, b :: m, s, t, h => by
    rw [List.zipWith_cons_cons, absorb_cons, absorb_cons, absorb_cons, bitW_xor, ← absorb_xor l m _ _ (by simpa using h), ← stp_xor]
    congr 2
    ac_rfl
theorem absorb_none : ∀ (n : Nat) (s : BitVec 32), absorb s (List.replicate n false) = stps n s
  | 0, _ => rfl
  | n + 1, s => by rw [List.replicate_succ, absorb_cons, absorb_none n]; show stps n (stp (s ^^^ 0#32)) = _; rw [BitVec.xor_zero]; rfl
/-- Bits as a number, the first one the lowest. -/
def ofBits : List Bool → BitVec 32
  | [] => 0#32
  | b :: l => bitW b ^^^ (ofBits l <<< 1)
theorem ofBits_high : ∀ (l : List Bool) (i : Nat), l.length ≤ i → (ofBits l).getLsbD i = false
  | [], i, _ => by simp [ofBits]
  | b :: l, i, h => by
    simp only [List.length_cons] at h
    unfold ofBits
    rw [BitVec.getLsbD_xor, BitVec.getLsbD_shiftLeft]
    have h1 : (bitW b).getLsbD i = false := by
      have hi : i ≠ 0 := by omega
      cases b
      · simp [bitW]
      · simp [bitW, BitVec.getLsbD_one, hi]
    have h2 : (ofBits l).getLsbD (i - 1) = false := ofBits_high l (i - 1) (by omega)
    rw [h1, h2]; simp
theorem stp_double {x : BitVec 32} (h : x.getLsbD 31 = false) : stp (x <<< 1) = x := by
  unfold stp
  have h0 : (x <<< 1).getLsbD 0 = false := by simp [BitVec.getLsbD_shiftLeft]
  rw [h0]
  simp only [Bool.false_eq_true, if_false, BitVec.xor_zero]
  refine BitVec.eq_of_getLsbD_eq fun i hi => ?_
  rw [BitVec.getLsbD_ushiftRight, BitVec.getLsbD_shiftLeft]
  by_cases hj : i = 31
  · subst hj; rw [h]; simp
  · have h1 : decide (1 + i < 32) = true := by simp; omega
    have h2 : decide (1 + i < 1) = false := by simp
    rw [h1, h2, Nat.add_sub_cancel_left]; simp
theorem absorb_word : ∀ (l : List Bool) (s : BitVec 32), l.length ≤ 32 → absorb s l = stps l.length (s ^^^ ofBits l)
  | [], s, _ => by show s = s ^^^ 0#32; rw [BitVec.xor_zero]
  | b :: l, s, h => by
    simp only [List.length_cons] at h
    have e : ofBits l = stp (ofBits l <<< 1) := (stp_double (ofBits_high l 31 (by omega))).symm
    rw [absorb_cons, absorb_word l _ (by omega)]
    show stps l.length (stp (s ^^^ bitW b) ^^^ ofBits l) = stps l.length (stp (s ^^^ (bitW b ^^^ (ofBits l <<< 1))))
    rw [← BitVec.xor_assoc, stp_xor (s ^^^ bitW b), ← e]
theorem ofBits_inj : ∀ (l : List Bool), l.length ≤ 32 → ofBits l = 0#32 → ∀ b ∈ l, b = false
  | [], _, _, b, hb => by cases hb
  | c :: l, h, e, b, hb => by
    simp only [List.length_cons] at h
    have h0 := congrArg (fun x => BitVec.getLsbD x 0) e
    simp only [ofBits, BitVec.getLsbD_xor, BitVec.getLsbD_shiftLeft, BitVec.getLsbD_zero] at h0
    have hc : c = false := by cases c <;> simp [bitW] at h0 ⊢
    subst hc
    have e' : ofBits l = 0#32 := by
      refine BitVec.eq_of_getLsbD_eq fun i hi => ?_
      rw [BitVec.getLsbD_zero]
      by_cases h31 : i = 31
      · subst h31; exact ofBits_high l 31 (by omega)
      · have := congrArg (fun x => BitVec.getLsbD x (i + 1)) e
        simp only [ofBits, BitVec.getLsbD_xor, BitVec.getLsbD_shiftLeft, BitVec.getLsbD_zero] at this
        have hlt : i + 1 < 32 := by omega
        simpa [bitW, hlt] using this
    rcases List.mem_cons.1 hb with rfl | hb
    · rfl
    · exact ofBits_inj l (by omega) e' b hb
/-- A stretch of at most 32 bits, one of them set, is not lost: whatever stands ahead of it and behind it. -/
theorem absorb_tells (k m : Nat) (w : List Bool) (hw : w.length ≤ 32) (h1 : true ∈ w) : absorb 0#32 (List.replicate k false ++ w ++ List.replicate m false) ≠ 0#32 := fun h => by
  rw [absorb_append, absorb_append, absorb_none m, absorb_none k, stps_zero, absorb_word w _ hw, BitVec.zero_xor] at h
  have := ofBits_inj w hw (stps_none _ (stps_none _ h)) true h1
  cases this
end Go.Proofs.YtelocbohiddpgaaGreatDoor.Crc
