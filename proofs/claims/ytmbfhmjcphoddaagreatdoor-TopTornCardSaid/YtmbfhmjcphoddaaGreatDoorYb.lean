/- The sum of bytes as plain functions: parts, linearity, frames; what one turned byte, and what a turned stretch of 32 bits makes of it. -/
import Derived.Test.YtmbfhmjcphoddaaGreatDoorProg
/- The sum of 32 bits as plain functions: a register that goes bit by bit; that it is linear, and that no stretch of at most 32 bits is lost. -/
set_option linter.unusedSimpArgs false
set_option linter.unusedVariables false
namespace Go.Proofs.YtmbfhmjcphoddaaGreatDoor.Crc
open Go

def poly : BitVec 32 := 0x82f63b78#32
/-- One bit towards the lowest. -/
def stp (s : BitVec 32) : BitVec 32 := (s >>> 1) ^^^ (if s.getLsbD 0 then poly else 0#32)
theorem stp_xor (a b : BitVec 32) : stp (a ^^^ b) = stp a ^^^ stp b := by
  unfold stp
  rw [BitVec.ushiftRight_xor_distrib, BitVec.getLsbD_xor]
  generalize a >>> 1 = x
  generalize b >>> 1 = y
  cases a.getLsbD 0 <;> cases b.getLsbD 0
  · simp
  · simp [BitVec.xor_assoc]
  · rw [show (true ^^ false) = true from rfl]
    simp only [if_true, Bool.false_eq_true, if_false, BitVec.xor_zero]; ac_rfl
  · rw [show (true ^^ true) = false from rfl]
    simp only [if_true, Bool.false_eq_true, if_false, BitVec.xor_zero]
    rw [BitVec.xor_comm y poly, BitVec.xor_assoc x poly, ← BitVec.xor_assoc poly poly, BitVec.xor_self, BitVec.zero_xor]
theorem stp_zero : stp 0#32 = 0#32 := by decide
theorem stp_top (a : BitVec 32) : (stp a).getLsbD 31 = a.getLsbD 0 := by
  unfold stp
  rw [BitVec.getLsbD_xor, BitVec.getLsbD_ushiftRight]
  cases h : a.getLsbD 0 <;> simp [poly, BitVec.getLsbD_of_ge]
theorem stp_none {a : BitVec 32} (h : stp a = 0#32) : a = 0#32 := by
  have h0 : a.getLsbD 0 = false := by rw [← stp_top, h]; rfl
  unfold stp at h
  rw [h0] at h
  simp only [Bool.false_eq_true, if_false, BitVec.xor_zero] at h
  refine BitVec.eq_of_getLsbD_eq fun i hi => ?_
  rw [BitVec.getLsbD_zero]
  cases i with
  | zero => exact h0
  | succ i =>
    have := congrArg (fun x => BitVec.getLsbD x i) h
    simp only [BitVec.getLsbD_ushiftRight, BitVec.getLsbD_zero] at this
    rw [Nat.add_comm]; exact this
/-- n bits. -/
def stps : Nat → BitVec 32 → BitVec 32
  | 0, s => s
  | n + 1, s => stps n (stp s)
theorem stps_xor : ∀ (n : Nat) (a b : BitVec 32), stps n (a ^^^ b) = stps n a ^^^ stps n b
  | 0, _, _ => rfl
  | n + 1, a, b => by show stps n (stp (a ^^^ b)) = _; rw [stp_xor, stps_xor n]; rfl
theorem stps_zero : ∀ n : Nat, stps n 0#32 = 0#32
  | 0 => rfl
  | n + 1 => by show stps n (stp 0#32) = _; rw [stp_zero]; exact stps_zero n
theorem stps_none : ∀ (n : Nat) {a : BitVec 32}, stps n a = 0#32 → a = 0#32
  | 0, _, h => h
  | n + 1, _, h => stp_none (stps_none n h)
theorem stps_add (n m : Nat) (a : BitVec 32) : stps (n + m) a = stps m (stps n a) := by
  induction n generalizing a with
  | zero => rw [Nat.zero_add]; rfl
  | succ n ih => rw [Nat.add_right_comm]; exact ih (stp a)
def bitW (b : Bool) : BitVec 32 := if b then 1#32 else 0#32
theorem bitW_xor (a b : Bool) : bitW (a ^^ b) = bitW a ^^^ bitW b := by cases a <;> cases b <;> decide
/-- Bits go in, the first one first. -/
def absorb (s : BitVec 32) (l : List Bool) : BitVec 32 := l.foldl (fun s b => stp (s ^^^ bitW b)) s
theorem absorb_cons (s : BitVec 32) (b : Bool) (l : List Bool) : absorb s (b :: l) = absorb (stp (s ^^^ bitW b)) l := rfl
theorem absorb_append (s : BitVec 32) (l m : List Bool) : absorb s (l ++ m) = absorb (absorb s l) m := List.foldl_append
theorem absorb_xor : ∀ (l m : List Bool) (s t : BitVec 32), l.length = m.length → absorb (s ^^^ t) (List.zipWith (· ^^ ·) l m) = absorb s l ^^^ absorb t m
  | [], [], s, t, _ => rfl
  | [], _ :: _, _, _, h => by simp at h
  | _ :: _, [], _, _, h => by simp at h
  | a :: l, b :: m, s, t, h => by
    rw [List.zipWith_cons_cons, absorb_cons, absorb_cons, absorb_cons, bitW_xor, ← absorb_xor l m _ _ (by simpa using h), ← stp_xor]
    congr 2
    ac_rfl
theorem absorb_none : ∀ (n : Nat) (s : BitVec 32), absorb s (List.replicate n false) = stps n s
  | 0, _ => rfl
  | n + 1, s => by rw [List.replicate_succ, absorb_cons, absorb_none n]; show stps n (stp (s ^^^ 0#32)) = _; rw [BitVec.xor_zero]; rfl
/-- Bits as a number, the first one the lowest. -/
def ofBits : List Bool → BitVec 32
  | [] => 0#32
  | b :: l => bitW b ^^^ (ofBits l <<< 1)
theorem ofBits_high : ∀ (l : List Bool) (i : Nat), l.length ≤ i → (ofBits l).getLsbD i = false
  | [], i, _ => by simp [ofBits]
  | b :: l, i, h => by
    simp only [List.length_cons] at h
    unfold ofBits
    rw [BitVec.getLsbD_xor, BitVec.getLsbD_shiftLeft]
    have h1 : (bitW b).getLsbD i = false := by
      have hi : i ≠ 0 := by omega
      cases b
      · simp [bitW]
      · simp [bitW, BitVec.getLsbD_one, hi]
    have h2 : (ofBits l).getLsbD (i - 1) = false := ofBits_high l (i - 1) (by omega)
    rw [h1, h2]; simp
theorem stp_double {x : BitVec 32} (h : x.getLsbD 31 = false) : stp (x <<< 1) = x := by
  unfold stp
  have h0 : (x <<< 1).getLsbD 0 = false := by simp [BitVec.getLsbD_shiftLeft]
  rw [h0]
  simp only [Bool.false_eq_true, if_false, BitVec.xor_zero]
  refine BitVec.eq_of_getLsbD_eq fun i hi => ?_
  rw [BitVec.getLsbD_ushiftRight, BitVec.getLsbD_shiftLeft]
  by_cases hj : i = 31
  · subst hj; rw [h]; simp
  · have h1 : decide (1 + i < 32) = true := by simp; omega
    have h2 : decide (1 + i < 1) = false := by simp
    rw [h1, h2, Nat.add_sub_cancel_left]; simp
theorem absorb_word : ∀ (l : List Bool) (s : BitVec 32), l.length ≤ 32 → absorb s l = stps l.length (s ^^^ ofBits l)
  | [], s, _ => by show s = s ^^^ 0#32; rw [BitVec.xor_zero]
  | b :: l, s, h => by
    simp only [List.length_cons] at h
    have e : ofBits l = stp (ofBits l <<< 1) := (stp_double (ofBits_high l 31 (by omega))).symm
    rw [absorb_cons, absorb_word l _ (by omega)]
    show stps l.length (stp (s ^^^ bitW b) ^^^ ofBits l) = stps l.length (stp (s ^^^ (bitW b ^^^ (ofBits l <<< 1))))
    rw [← BitVec.xor_assoc, stp_xor (s ^^^ bitW b), ← e]
theorem ofBits_inj : ∀ (l : List Bool), l.length ≤ 32 → ofBits l = 0#32 → ∀ b ∈ l, b = false
  | [], _, _, b, hb => by cases hb
  | c :: l, h, e, b, hb => by
    simp only [List.length_cons] at h
    have h0 := congrArg (fun x => BitVec.getLsbD x 0) e
    simp only [ofBits, BitVec.getLsbD_xor, BitVec.getLsbD_shiftLeft, BitVec.getLsbD_zero] at h0
    have hc : c = false := by cases c <;> simp [bitW] at h0 ⊢
    subst hc
    have e' : ofBits l = 0#32 := by
      refine BitVec.eq_of_getLsbD_eq fun i hi => ?_
      rw [BitVec.getLsbD_zero]
      by_cases h31 : i = 31
      · subst h31; exact ofBits_high l 31 (by omega)
      · have := congrArg (fun x => BitVec.getLsbD x (i + 1)) e
        simp only [ofBits, BitVec.getLsbD_xor, BitVec.getLsbD_shiftLeft, BitVec.getLsbD_zero] at this
        have hlt : i + 1 < 32 := by omega
        simpa [bitW, hlt] using this
    rcases List.mem_cons.1 hb with rfl | hb
    · rfl
    · exact ofBits_inj l (by omega) e' b hb
/-- A stretch of at most 32 bits, one of them set, is not lost: whatever stands ahead of it and behind it. -/
theorem absorb_tells (k m : Nat) (w : List Bool) (hw : w.length ≤ 32) (h1 : true ∈ w) : absorb 0#32 (List.replicate k false ++ w ++ List.replicate m false) ≠ 0#32 := fun h => by
  rw [absorb_append, absorb_append, absorb_none m, absorb_none k, stps_zero, absorb_word w _ hw, BitVec.zero_xor] at h
  have := ofBits_inj w hw (stps_none _ (stps_none _ h)) true h1
  cases this
end Go.Proofs.YtmbfhmjcphoddaaGreatDoor.Crc
set_option linter.unusedSimpArgs false
set_option linter.unusedVariables false
namespace Go.Proofs.YtmbfhmjcphoddaaGreatDoor.Crc
open Go

def byteW (c : UInt8) : BitVec 32 := BitVec.ofNat 32 c.toNat
theorem byteW_toNat (c : UInt8) : (byteW c).toNat = c.toNat := by
  unfold byteW
  rw [BitVec.toNat_ofNat]
  exact Nat.mod_eq_of_lt (Nat.lt_of_lt_of_le c.toNat_lt (by decide))
theorem byteW_xor (c d : UInt8) : byteW (c ^^^ d) = byteW c ^^^ byteW d := by
  apply BitVec.eq_of_toNat_eq
  rw [BitVec.toNat_xor, byteW_toNat, byteW_toNat, byteW_toNat, UInt8.toNat_xor]
theorem byteW_none {c : UInt8} (h : byteW c = 0#32) : c = 0 := by
  have := congrArg BitVec.toNat h
  rw [byteW_toNat] at this
  exact UInt8.toNat_inj.1 (by simpa using this)
/-- One byte. -/
def crcB (s : BitVec 32) (c : UInt8) : BitVec 32 := stps 8 (s ^^^ byteW c)
def crcL (s : BitVec 32) (l : List UInt8) : BitVec 32 := l.foldl crcB s
def ones : BitVec 32 := 0xffffffff#32
def extL (sum : BitVec 32) (l : List UInt8) : BitVec 32 := ones ^^^ crcL (ones ^^^ sum) l
def sumL (l : List UInt8) : BitVec 32 := extL 0#32 l
theorem ones_ones (s : BitVec 32) : ones ^^^ (ones ^^^ s) = s := by rw [← BitVec.xor_assoc, BitVec.xor_self, BitVec.zero_xor]
theorem crcL_append (s : BitVec 32) (l m : List UInt8) : crcL s (l ++ m) = crcL (crcL s l) m := List.foldl_append
theorem extL_append (s : BitVec 32) (l m : List UInt8) : extL (extL s l) m = extL s (l ++ m) := by unfold extL; rw [ones_ones, crcL_append]
theorem extL_nil (s : BitVec 32) : extL s [] = s := ones_ones s
theorem crcB_xor (s t : BitVec 32) (c d : UInt8) : crcB (s ^^^ t) (c ^^^ d) = crcB s c ^^^ crcB t d := by
  unfold crcB
  rw [← stps_xor, byteW_xor]
  congr 1
  ac_rfl
theorem crcL_xor : ∀ (l m : List UInt8) (s t : BitVec 32), l.length = m.length → crcL (s ^^^ t) (List.zipWith (· ^^^ ·) l m) = crcL s l ^^^ crcL t m
  | [], [], s, t, _ => rfl
  | [], _ :: _, _, _, h => by simp at h
  | _ :: _, [], _, _, h => by simp at h
  | a :: l, b :: m, s, t, h => by
    show crcL (crcB (s ^^^ t) (a ^^^ b)) (List.zipWith (· ^^^ ·) l m) = crcL (crcB s a) l ^^^ crcL (crcB t b) m
    rw [crcB_xor, crcL_xor l m _ _ (by simpa using h)]
/-- Of three texts of one length the sum of all three added is their sums added. -/
theorem sumL_three (a b c : List UInt8) (h : a.length = b.length) (h' : b.length = c.length) : sumL (List.zipWith (· ^^^ ·) (List.zipWith (· ^^^ ·) a b) c) = sumL a ^^^ sumL b ^^^ sumL c := by
  have e : (ones : BitVec 32) ^^^ 0#32 = (ones ^^^ ones) ^^^ ones := by decide
  have hz : (List.zipWith (· ^^^ ·) a b).length = c.length := by rw [List.length_zipWith]; omega
  unfold sumL extL
  rw [e, crcL_xor _ _ _ _ hz, crcL_xor _ _ _ _ h]
  rw [show (ones ^^^ ones) ^^^ ones = (ones : BitVec 32) by decide]
  generalize crcL ones a = x
  generalize crcL ones b = y
  generalize crcL ones c = z
  rw [show ones ^^^ x ^^^ (ones ^^^ y) ^^^ (ones ^^^ z) = (ones ^^^ ones) ^^^ (ones ^^^ (x ^^^ y ^^^ z)) by ac_rfl, BitVec.xor_self, BitVec.zero_xor]
/-- One byte turned makes another register, whatever stands behind it. -/
theorem crcL_far : ∀ (l : List UInt8) (s t : BitVec 32), crcL s l = crcL t l → s = t
  | [], _, _, h => h
  | c :: l, s, t, h => by
    have h1 := crcL_far l _ _ h
    unfold crcB at h1
    have h2 : stps 8 ((s ^^^ byteW c) ^^^ (t ^^^ byteW c)) = 0#32 := by rw [stps_xor, h1, BitVec.xor_self]
    have h3 := stps_none 8 h2
    rw [show s ^^^ byteW c ^^^ (t ^^^ byteW c) = (s ^^^ t) ^^^ (byteW c ^^^ byteW c) by ac_rfl, BitVec.xor_self, BitVec.xor_zero] at h3
    have : s ^^^ t ^^^ t = t := by rw [h3, BitVec.zero_xor]
    rwa [BitVec.xor_assoc, BitVec.xor_self, BitVec.xor_zero] at this
theorem crcB_tells {s : BitVec 32} {c d : UInt8} (h : crcB s c = crcB s d) : c = d := by
  unfold crcB at h
  have h2 : stps 8 ((s ^^^ byteW c) ^^^ (s ^^^ byteW d)) = 0#32 := by rw [stps_xor, h, BitVec.xor_self]
  have h3 := stps_none 8 h2
  rw [show s ^^^ byteW c ^^^ (s ^^^ byteW d) = (s ^^^ s) ^^^ (byteW c ^^^ byteW d) by ac_rfl, BitVec.xor_self, BitVec.zero_xor, ← byteW_xor] at h3
  have h4 := byteW_none h3
  have : c ^^^ d ^^^ d = d := by rw [h4]; simp
  rwa [UInt8.xor_assoc, UInt8.xor_self, UInt8.xor_zero] at this
theorem xor_left {a b c : BitVec 32} (h : a ^^^ b = a ^^^ c) : b = c := by
  have := congrArg (fun x => a ^^^ x) h
  simpa only [← BitVec.xor_assoc, BitVec.xor_self, BitVec.zero_xor] using this
theorem sum_tells {x y : List UInt8} {c d : UInt8} (h : sumL (x ++ c :: y) = sumL (x ++ d :: y)) : c = d := by
  unfold sumL extL at h
  have h1 := xor_left h
  rw [crcL_append, crcL_append] at h1
  exact crcB_tells (crcL_far y _ _ h1)

/-! ### Frames -/
def le4 (s : BitVec 32) : List UInt8 := [UInt8.ofNat s.toNat, UInt8.ofNat (s.toNat / 256), UInt8.ofNat (s.toNat / 65536), UInt8.ofNat (s.toNat / 16777216)]
theorem le4_length (s : BitVec 32) : (le4 s).length = 4 := rfl
theorem le4_inj {s t : BitVec 32} (h : le4 s = le4 t) : s = t := by
  apply BitVec.eq_of_toNat_eq
  have hs := s.isLt
  have ht := t.isLt
  simp only [le4, List.cons.injEq, and_true] at h
  obtain ⟨h0, h1, h2, h3⟩ := h
  have f := fun (a b : Nat) (e : UInt8.ofNat a = UInt8.ofNat b) => by
    have := congrArg UInt8.toNat e
    simpa only [UInt8.toNat_ofNat'] using this
  have e0 := f _ _ h0
  have e1 := f _ _ h1
  have e2 := f _ _ h2
  have e3 := f _ _ h3
  omega
def putL (l : List UInt8) : List UInt8 := l ++ le4 (sumL l)
theorem putL_length (l : List UInt8) : (putL l).length = l.length + 4 := by unfold putL; rw [List.length_append, le4_length]
theorem putL_take (l : List UInt8) : (putL l).take ((putL l).length - 4) = l := by
  rw [putL_length, Nat.add_sub_cancel]
  unfold putL
  rw [List.take_left']
  rfl
/-- What Take tells: nothing, or the bytes. -/
def frameL (f : List UInt8) : Bool := decide (4 ≤ f.length) && putL (f.take (f.length - 4)) == f
theorem frame_put (l : List UInt8) : frameL (putL l) = true := by
  unfold frameL
  rw [putL_take, putL_length]
  simp
/-- One byte turned: no frame. -/
theorem frame_turned (b : List UInt8) {p : Nat} (hp : p < (putL b).length) {d : UInt8} (hd : d ≠ (putL b)[p]) : frameL ((putL b).set p d) = false := by
  rw [Bool.eq_false_iff]
  intro h
  unfold frameL at h
  rw [Bool.and_eq_true, beq_iff_eq, List.length_set, putL_length] at h
  obtain ⟨_, h⟩ := h
  rw [Nat.add_sub_cancel] at h
  rw [putL_length] at hp
  have hget : ∀ i, i < b.length + 4 → i ≠ p → ((putL b).set p d)[i]? = (putL b)[i]? := fun i _ hne => by rw [List.getElem?_set_ne (Ne.symm hne)]
  by_cases hpb : p < b.length
  · -- the byte lies in the bytes
    have e1 : ((putL b).set p d).take b.length = b.set p d := by
      unfold putL
      rw [List.set_append_left _ _ hpb, List.take_left' (by simp)]
    rw [e1] at h
    have e2 : (putL b).set p d = b.set p d ++ le4 (sumL b) := by unfold putL; rw [List.set_append_left _ _ hpb]
    rw [e2] at h
    have h2 : le4 (sumL (b.set p d)) = le4 (sumL b) := by
      have := (List.append_inj h rfl).2
      exact this
    have h3 := le4_inj h2
    have hbp : (putL b)[p]'(by rw [putL_length]; omega) = b[p] := by unfold putL; rw [List.getElem_append_left hpb]
    rw [List.set_eq_take_append_cons_drop, if_pos hpb] at h3
    have e3 : b = b.take p ++ b[p] :: b.drop (p + 1) := by rw [List.getElem_cons_drop, List.take_append_drop]
    have h4 : sumL (b.take p ++ d :: b.drop (p + 1)) = sumL (b.take p ++ b[p] :: b.drop (p + 1)) := by rw [h3]; exact congrArg sumL e3
    exact hd (by rw [hbp]; exact sum_tells h4)
  · -- the byte lies in the sum
    have e1 : ((putL b).set p d).take b.length = b := by
      unfold putL
      rw [List.set_append_right _ _ (by omega), List.take_left' rfl]
    rw [e1] at h
    have : (putL b)[p]? = ((putL b).set p d)[p]? := congrArg (fun l : List UInt8 => l[p]?) h
    rw [List.getElem?_set_self (by rw [putL_length]; omega), List.getElem?_eq_getElem (by rw [putL_length]; omega)] at this
    exact hd (Option.some.inj this).symm

/-! ### A turned stretch -/
def bits8 (c : UInt8) : List Bool := (List.range 8).map fun i => c.toNat.testBit i
theorem bits8_all : (List.range 256).all (fun n => ofBits ((List.range 8).map fun i => n.testBit i) == BitVec.ofNat 32 n) = true := by decide +kernel
theorem bits8_of (c : UInt8) : ofBits (bits8 c) = byteW c := by
  have := List.all_eq_true.1 bits8_all c.toNat (List.mem_range.2 c.toNat_lt)
  exact beq_iff_eq.1 this
theorem crcB_bits (s : BitVec 32) (c : UInt8) : crcB s c = absorb s (bits8 c) := by
  rw [absorb_word _ _ (by simp [bits8]), bits8_of]
  rfl
def bitsL (l : List UInt8) : List Bool := l.flatMap bits8
theorem crcL_bits : ∀ (l : List UInt8) (s : BitVec 32), crcL s l = absorb s (bitsL l)
  | [], _ => rfl
  | c :: l, s => by
    show crcL (crcB s c) l = absorb s (bits8 c ++ bitsL l)
    rw [absorb_append, crcL_bits l, crcB_bits]
def bitAt (l : List UInt8) (j : Nat) : Bool := (l.getD (j / 8) 0).toNat.testBit (j % 8)
theorem bitsL_map : ∀ l : List UInt8, bitsL l = (List.range (8 * l.length)).map (bitAt l)
  | [] => rfl
  | c :: l => by
    have h1 : bits8 c = (List.range 8).map (bitAt (c :: l)) := by
      unfold bits8
      refine List.map_congr_left fun i hi => ?_
      have := List.mem_range.1 hi
      unfold bitAt
      rw [show i / 8 = 0 by omega, show i % 8 = i by omega]; rfl
    have h2 : bitsL l = (List.range (8 * l.length)).map (fun i => bitAt (c :: l) (8 + i)) := by
      rw [bitsL_map l]
      refine List.map_congr_left fun i hi => ?_
      unfold bitAt
      rw [show (8 + i) / 8 = i / 8 + 1 by omega, show (8 + i) % 8 = i % 8 by omega]; rfl
    show bits8 c ++ bitsL l = _
    rw [h1, h2, List.length_cons, Nat.mul_succ, Nat.add_comm (8 * l.length), List.range_add, List.map_append, List.map_map]
    rfl
/-- Bytes of which just a stretch of at most 32 bits, at least one, was turned have another sum. -/
theorem sum_stretch {l m : List UInt8} (h : l.length = m.length) (k : Nat) (bits : Nat) (hk : k + 32 ≤ 8 * l.length) (hb : ∃ i, i < 32 ∧ bits.testBit i = true)
    (hd : ∀ j, j < 8 * l.length → bitAt m j = (bitAt l j ^^ (decide (k ≤ j) && decide (j < k + 32) && bits.testBit (j - k)))) : sumL m ≠ sumL l := fun he => by
  unfold sumL extL at he
  have he2 := xor_left he
  have hz : (List.zipWith (· ^^^ ·) l (List.zipWith (· ^^^ ·) l m)) = m := by
    refine List.ext_getElem (by simp [h]) fun i h1 h2 => ?_
    simp only [List.getElem_zipWith]
    rw [← UInt8.xor_assoc, UInt8.xor_self, UInt8.zero_xor]
  have hx := crcL_xor l (List.zipWith (· ^^^ ·) l m) (ones ^^^ 0#32) 0#32 (by simp [h])
  rw [BitVec.xor_zero (x := ones ^^^ 0#32), hz, he2] at hx
  have h0 : crcL 0#32 (List.zipWith (· ^^^ ·) l m) = 0#32 := by
    have := congrArg (fun x => crcL (ones ^^^ 0#32) l ^^^ x) hx
    simp only [← BitVec.xor_assoc, BitVec.xor_self, BitVec.zero_xor] at this
    exact this.symm
  rw [crcL_bits, bitsL_map] at h0
  have hlen : (List.zipWith (· ^^^ ·) l m).length = l.length := by simp [h]
  have hbit : ∀ j, j < 8 * l.length → bitAt (List.zipWith (· ^^^ ·) l m) j = (decide (k ≤ j) && decide (j < k + 32) && bits.testBit (j - k)) := fun j hj => by
    have hj8 : j / 8 < l.length := by omega
    have e : bitAt (List.zipWith (· ^^^ ·) l m) j = (bitAt l j ^^ bitAt m j) := by
      unfold bitAt
      simp only [List.getD_eq_getElem?_getD]
      rw [List.getElem?_eq_getElem (by omega), List.getElem?_eq_getElem hj8, List.getElem?_eq_getElem (by omega), List.getElem_zipWith]
      simp only [Option.getD_some, UInt8.toNat_xor, Nat.testBit_xor]
    rw [e, hd j hj, ← Bool.xor_assoc, Bool.xor_self, Bool.false_xor]
  rw [hlen] at h0
  have hs : (List.range (8 * l.length)).map (bitAt (List.zipWith (· ^^^ ·) l m)) = List.replicate k false ++ (List.range 32).map (fun i => bits.testBit i) ++ List.replicate (8 * l.length - k - 32) false := by
    refine List.ext_getElem (by simp; omega) fun j h1 h2 => ?_
    simp only [List.length_map, List.length_range] at h1
    rw [List.getElem_map, List.getElem_range, hbit j h1]
    by_cases hjk : j < k
    · rw [List.getElem_append_left (by simp; omega), List.getElem_append_left (by simpa using hjk), List.getElem_replicate]
      simp [Nat.not_le.2 hjk]
    · by_cases hj2 : j < k + 32
      · rw [List.getElem_append_left (by simp; omega), List.getElem_append_right (by simpa using hjk), List.getElem_map, List.getElem_range]
        simp [Nat.not_lt.1 hjk, hj2]
      · rw [List.getElem_append_right (by simp; omega), List.getElem_replicate]
        simp [hj2]
  rw [hs] at h0
  obtain ⟨i, hi, hti⟩ := hb
  exact absorb_tells k _ _ (by simp) (List.mem_map.2 ⟨i, List.mem_range.2 hi, hti⟩) h0
end Go.Proofs.YtmbfhmjcphoddaaGreatDoor.Crc
