/- Layer 12: strconv.FormatUint at base 10; a number's text in a name. -/
import Derived.Test.YtelocbohiddpgaaGreatDoorSga
import Derived.Lib.ItoaNum
import Derived.Lib.ParseIntB
import Derived.Lib.Repeat
import Derived.Test.YtelocbohiddpgaaGreatDoorSgc
import Derived.Test.YtelocbohiddpgaaGreatDoorKL
import Derived.Test.YtelocbohiddpgaaGreatDoorShelf
import Derived.Lib.ItoaMem
import Derived.Lib.AppendIntMem
import Derived.Deep.RegionWith
/- Layer 12: names of segments, plainly. -/
set_option linter.unusedSimpArgs false
set_option linter.unusedVariables false
namespace Go.Proofs.YtelocbohiddpgaaGreatDoor.Crc
open Go

/-- The lowest k decimal digits of a number, the highest of them first. -/
def low10 : Nat → Nat → List UInt8
  | 0, _ => []
  | k + 1, n => low10 k (n / 10) ++ [UInt8.ofNat (48 + n % 10)]
theorem low10_length : ∀ k n, (low10 k n).length = k
  | 0, _ => rfl
  | k + 1, n => by simp [low10, low10_length k]
theorem low10_front : ∀ k n, low10 (k + 1) n = UInt8.ofNat (48 + n / 10 ^ k % 10) :: low10 k n
  | 0, n => by simp [low10]
  | k + 1, n => by
    have h := low10_front k (n / 10)
    rw [low10, h, Nat.div_div_eq_div_mul, ← Nat.pow_succ']
    rfl
theorem low10_zero : ∀ k, low10 k 0 = List.replicate k 48
  | 0 => rfl
  | k + 1 => by
    rw [low10, low10_zero k, List.replicate_succ']
    rfl
theorem low10_pad : ∀ (k n : Nat), 1 ≤ k → n < 10 ^ k → (Lib.decDigits n).length ≤ k ∧ low10 k n = List.replicate (k - (Lib.decDigits n).length) 48 ++ Lib.decDigits n := by
  intro k
  induction k with
  | zero => intro n h; omega
  | succ k ih =>
    intro n _ hn
    by_cases h10 : n < 10
    · rw [low10, show n / 10 = 0 by omega, low10_zero, Lib.decDigits, dif_pos h10, Nat.mod_eq_of_lt h10]
      refine ⟨by simp, by simp⟩
    · cases k with
      | zero => simp at hn; omega
      | succ k =>
        have h1 := ih (n / 10) (by omega) (by rw [Nat.pow_succ] at hn; omega)
        rw [low10, h1.2, Lib.decDigits, dif_neg h10]
        have h2 := h1.1
        refine ⟨by simp; exact h2, ?_⟩
        rw [← List.append_assoc, List.length_append, List.length_singleton]
        congr 3
        omega
/-- A segment's name. -/
def nameL (p n : Nat) : List UInt8 := 115 :: UInt8.ofNat (48 + p) :: 45 :: low10 13 n
theorem nameL_length (p n : Nat) : (nameL p n).length = 16 := by simp [nameL, low10_length]
/-- What digits say. -/
def numD : Nat → List UInt8 → Option Nat
  | acc, [] => some acc
  | acc, c :: r => if 48 ≤ c.toNat ∧ c.toNat ≤ 57 then numD (10 * acc + (c.toNat - 48)) r else none
theorem numD_lt : ∀ (L : List UInt8) (acc n : Nat), numD acc L = some n → n < (acc + 1) * 10 ^ L.length
  | [], acc, n, h => by simp [numD] at h; simp; omega
  | c :: r, acc, n, h => by
    unfold numD at h
    split at h
    · have h1 := numD_lt r _ n h
      rw [List.length_cons, Nat.pow_succ]
      have h2 : (10 * acc + (c.toNat - 48) + 1) * 10 ^ r.length ≤ ((acc + 1) * 10) * 10 ^ r.length := Nat.mul_le_mul_right _ (by omega)
      have h3 : (acc + 1) * 10 * 10 ^ r.length = (acc + 1) * (10 ^ r.length * 10) := by rw [Nat.mul_assoc, Nat.mul_comm 10]
      omega
    · cases h
theorem parse_numD : ∀ (L : List UInt8) (acc : Nat), (acc + 1) * 10 ^ L.length ≤ 10000000000000 → Lib.parseUintM 18446744073709551615 acc L = match numD acc L with
    | some n => .ok n
    | none => Lib.NumEnd.syntax
  | [], acc, h => rfl
  | c :: r, acc, h => by
    rw [List.length_cons, Nat.pow_succ] at h
    have h0 : 1 ≤ 10 ^ r.length := Nat.one_le_pow _ _ (by decide)
    have h9 : acc + 1 ≤ 1000000000000 := by
      have h3 : (acc + 1) * 10 ≤ (acc + 1) * (10 ^ r.length * 10) := Nat.mul_le_mul_left _ (by omega)
      omega
    unfold Lib.parseUintM numD
    by_cases hd : 48 ≤ c.toNat ∧ c.toNat ≤ 57
    · rw [if_pos hd, if_pos hd, if_neg (by omega), if_neg (by omega), Nat.mul_comm acc 10]
      refine parse_numD r _ ?_
      have h2 : (10 * acc + (c.toNat - 48) + 1) * 10 ^ r.length ≤ ((acc + 1) * 10) * 10 ^ r.length := Nat.mul_le_mul_right _ (by omega)
      have h3 : (acc + 1) * 10 * 10 ^ r.length = (acc + 1) * (10 ^ r.length * 10) := by rw [Nat.mul_assoc, Nat.mul_comm 10]
      omega
    · rw [if_neg hd, if_neg hd]
theorem parse_is {L : List UInt8} (h1 : L ≠ []) (h2 : L.length ≤ 13) : Lib.parseUintB 64 L = match numD 0 L with
    | some n => .ok n
    | none => Lib.NumEnd.syntax := by
  unfold Lib.parseUintB
  rw [if_neg h1]
  refine parse_numD L 0 ?_
  have h := Nat.pow_le_pow_right (n := 10) (by decide) h2
  rw [Nat.zero_add, Nat.one_mul]
  exact Nat.le_trans h (by decide)
theorem numD_app : ∀ (L : List UInt8) (acc : Nat) (c : UInt8), numD acc (L ++ [c]) = (numD acc L).bind fun n => if 48 ≤ c.toNat ∧ c.toNat ≤ 57 then some (10 * n + (c.toNat - 48)) else none
  | [], acc, c => by simp [numD]
  | x :: r, acc, c => by
    simp only [List.cons_append, numD]
    split
    · exact numD_app r _ c
    · rfl
/-- A number that stands in a name behind some bytes, of so many digits, from least to most: the number, and what is behind. -/
def takeP (ahead : List UInt8) (digits least most : Nat) (L : List UInt8) : Option (Nat × List UInt8) :=
  if Lib.hasPrefix L ahead then
    if digits ≤ (L.drop ahead.length).length then
      match numD 0 ((L.drop ahead.length).take digits) with
      | some n => if least ≤ n ∧ n ≤ most then some (n, (L.drop ahead.length).drop digits) else none
      | none => none
    else none
  else none
def parseL (L : List UInt8) : Option (Nat × Nat) := match takeP [115] 1 0 3 L with
  | none => none
  | some (p, b) => match takeP [45] 13 1 1099511627776 b with
    | none => none
    | some (n, b2) => if b2 = [] then some (p, n) else none
/-- What the document asks of a name. -/
def nameOk (L : List UInt8) : Bool := decide (L.length = 16) && decide ((L.getD 0 0).toNat = 115) && decide (48 ≤ (L.getD 1 0).toNat) && decide ((L.getD 1 0).toNat ≤ 51) && decide ((L.getD 2 0).toNat = 45)
theorem parseL_is (L : List UInt8) : parseL L = if nameOk L then (match numD 0 (L.drop 3) with
    | some n => if okN n then some ((L.getD 1 0).toNat - 48, n) else none
    | none => none) else none := by
  unfold parseL takeP nameOk Lib.hasPrefix
  rcases L with _ | ⟨a, _ | ⟨b, _ | ⟨c, t⟩⟩⟩
  · rfl
  · by_cases ha : a = 115 <;> simp [ha, List.isPrefixOf]
  · by_cases ha : a = 115
    · subst ha
      simp only [List.isPrefixOf, beq_self_eq_true, Bool.and_self, Bool.true_and, if_true, List.length_singleton, List.drop_succ_cons, List.drop_zero, List.length_cons, List.length_nil, Nat.zero_add, Nat.le_refl, List.take_succ_cons, List.take_zero, numD]
      by_cases hb : 48 ≤ b.toNat ∧ b.toNat ≤ 57
      · by_cases h3 : b.toNat ≤ 51 <;> simp [hb, h3]
      · simp [hb]
    · have : ((115 : UInt8) == a) = false := beq_eq_false_iff_ne.2 (fun e => ha e.symm)
      simp [List.isPrefixOf, this]
  · by_cases ha : a = 115
    · subst ha
      by_cases hb : 48 ≤ b.toNat ∧ b.toNat ≤ 51
      · have hb2 : 48 ≤ b.toNat ∧ b.toNat ≤ 57 := by omega
        have hb3 : 10 * 0 + (b.toNat - 48) ≤ 3 := by omega
        by_cases hc : c = 45
        · subst hc
          by_cases h13 : t.length = 13
          · have h16 : t.length + 1 + 1 + 1 = 16 := by omega
            have ht : t.take 13 = t := List.take_of_length_le (by omega)
            have hd : t.drop 13 = [] := List.drop_of_length_le (by omega)
            cases hn : numD 0 t with
            | none => simp [List.isPrefixOf, numD, hb, hb2, hb3, h13, ht, hd, hn]
            | some n => by_cases ho : 1 ≤ n ∧ n ≤ 1099511627776 <;> simp [List.isPrefixOf, numD, hb, hb2, hb3, h13, ht, hd, hn, ho, okN]
          · have h16 : ¬ (t.length + 1 + 1 + 1 = 16) := by omega
            by_cases hlt : 13 ≤ t.length
            · have hd : ¬ (t.drop 13 = []) := by rw [List.drop_eq_nil_iff]; omega
              cases hn : numD 0 (t.take 13) with
              | none => simp [List.isPrefixOf, numD, hb, hb2, hb3, hlt, hn, h13]
              | some n => by_cases ho : 1 ≤ n ∧ n ≤ 1099511627776 <;> simp [List.isPrefixOf, numD, hb, hb2, hb3, hlt, hd, hn, ho, h13]
            · simp [List.isPrefixOf, numD, hb, hb2, hb3, hlt, h13]
        · have hc2 : ((45 : UInt8) == c) = false := beq_eq_false_iff_ne.2 (fun e => hc e.symm)
          have hc3 : ¬ (c.toNat = 45) := fun e => hc (UInt8.toNat_inj.1 (by rw [e]; rfl))
          simp [List.isPrefixOf, numD, hb, hb2, hb3, hc2, hc3]
      · by_cases hb2 : 48 ≤ b.toNat ∧ b.toNat ≤ 57
        · have hb3 : ¬ (10 * 0 + (b.toNat - 48) ≤ 3) := by omega
          have hb4 : ¬ (b.toNat ≤ 51) := by omega
          simp [List.isPrefixOf, numD, hb2, hb3, hb4]
        · have hb5 : (decide (48 ≤ b.toNat) && decide (b.toNat ≤ 51)) = false := by simp; omega
          simp [List.isPrefixOf, numD, hb2]
          intros; omega
    · have h1 : ((115 : UInt8) == a) = false := beq_eq_false_iff_ne.2 (fun e => ha e.symm)
      have h2 : ¬ (a.toNat = 115) := fun e => ha (UInt8.toNat_inj.1 (by rw [e]; rfl))
      simp [List.isPrefixOf, h1, h2]
end Go.Proofs.YtelocbohiddpgaaGreatDoor.Crc
set_option linter.unusedSimpArgs false
set_option linter.unusedVariables false
namespace Go.Proofs.YtelocbohiddpgaaGreatDoor.Crc
open Go Go.RowKit Gm Go.Shelf Go.Sort Go.Lib
attribute [local go_sem ↓] Go.wp_at_zero Go.wp_at_succ

theorem gPow12 : Tryz.prog.globalNamed "internal/strconv.uint64pow10" = some 1 := by kernel_rfl
theorem gSyntax12 : Tryz.prog.globalNamed "strconv.ErrSyntax" = some 2 := by kernel_rfl
theorem var_stays12 {w w' : World} {n : String} {g : Nat} {cs : Array Value} (hg : Tryz.prog.globalNamed n = some g) (hb : Below w.heap.size w w') (hv : w.var? Tryz.prog n = some cs) : w'.var? Tryz.prog n = some cs := by
  refine var?_below hb hg ?_ hv
  unfold World.var? at hv
  simp only [hg, Option.bind_some] at hv
  rcases Nat.lt_or_ge g w.heap.size with h' | h'
  · exact h'
  · simp [Array.getElem?_eq_none h'] at hv
/-- What the calls on names ask of the library's variables. -/
def EnvN (w : World) : Prop := Lib.TabIs Tryz.prog w "internal/strconv.uint64pow10" .u64 Lib.pow10Tab ∧ ∃ tp p, w.var? Tryz.prog "strconv.ErrSyntax" = some #[.iface tp p]
theorem EnvN.below {w w' : World} (h : EnvN w) (hb : Below w.heap.size w w') : EnvN w' := by
  obtain ⟨h1, t2, p2, h2⟩ := h
  exact ⟨var_stays12 gPow12 hb h1, t2, p2, var_stays12 gSyntax12 hb h2⟩
set_option maxHeartbeats 6400000 in
set_option maxRecDepth 100000 in
theorem fmtu_in (u : Nat) (hu64 : u < 18446744073709551616) (w : World) (hN : EnvN w) : Calls Tryz.prog 120 #[.int .u64 (u : Int), .int .i64 10] w (Gives (.string ⟨(Lib.decDigits u).toArray⟩) w) := by
  by_cases hs : u < 100
  · have iu : (u : Int) < 100 := by omega
    have iw : IntKind.i64.wrap (u : Int) = (u : Int) := by rw [IntKind.wrap_i64]; omega
    have HS := Lib.hid (Tryz.internal_strconv_small u hs)
    go_enter Tryz.func120, Tryz.ntmps120
    go_wp2_with fail
    refine (HS.out _).mono ?_; rintro e w1 ⟨rfl, rfl⟩
    go_wp2_with fail
    go_ret
    exact ⟨rfl, Below.refl _ _⟩
  · have hu1 : 1 ≤ u := by omega
    have iu : ¬ ((u : Int) < 100) := by omega
    have hnd20 : Lib.nDigits u ≤ 20 := by have := Lib.numDigits_eq u hu1 hu64; split at this <;> omega
    have hal : Tryz.prog.arrayLen 214 = 24 := by simp [Program.arrayLen, Tryz.underlying214]
    have hsl : ∀ W, (Instr.sliceAt 214 (.pointer (some ⟨w.heap.size, 0, none⟩)) none (some (.int .i64 (Lib.nDigits u : Int))) none).run Tryz.prog W = .ok (.slice (some ⟨w.heap.size, 0, none⟩) (Lib.nDigits u) 24) W := fun W => by
      rw [run_sliceAt_array_h W 214 ⟨w.heap.size, 0, none⟩ (by simp [Program.arrayLen, Program.elem, Tryz.underlying214]) .i64 (Lib.nDigits u : Int) (by omega) (by rw [hal]; omega)]
      go_simp
    have hH0 := Lib.holds_zero0 w 214 (Lib.nDigits u) (by omega)
    have hfmt := Tryz.internal_strconv_formatBase10 w.heap.size 0 24 u (Array.replicate (Lib.nDigits u) 0) (w.alloc (.cells Lib.zeros24 214)) hH0 (by rw [Array.size_replicate]; exact Lib.lt_pow_nDigits u) hu64 (by rw [Array.size_replicate]; omega)
    rw [Array.size_replicate] at hfmt
    have HH0 := Lib.hid hH0
    have HFmt := Lib.hid hfmt
    have HND := Lib.hid (Tryz.internal_strconv_numDigits u hu1 hu64 _ (Lib.tabIs_alloc hN.1 (.cells Lib.zeros24 214)))
    clear hH0 hal hN hfmt
    go_enter Tryz.func120, Tryz.ntmps120
    go_wp2_with fail
    refine HND.out.mono ?_; rintro e w' ⟨rfl, rfl⟩
    go_wp2_with fail
    refine HFmt.out.mono ?_; rintro e w' ⟨rfl, k, v', dk, rfl, hF⟩
    obtain ⟨os, eo⟩ := Lib.fin_at w (.cells Lib.zeros24 214) dk k 0
    have hB := Lib.below_grow w.heap.size w (Nat.le_refl _) k os
    rw [← eo] at hB
    have hcells : ∀ j (hj : j < (Lib.decDigits u).length), ((putRow (fun (b : UInt8) => Value.int .u8 (b.toNat : Int)) (w.alloc (.cells Lib.zeros24 214)) w.heap.size 0 dk).drewN k).cell? ((⟨w.heap.size, 0, none⟩ : Addr).add j) = some (.int .u8 ((Lib.decDigits u)[j].toNat : Int)) := fun j hj => by
      rw [Lib.row_is_numeral hF j hj, Lib.add_plain, World.cell?_drewN]
      exact cell?_putRow (fun (b : UInt8) => Value.int .u8 (b.toNat : Int)) _ w.heap.size 0 _ dk HH0.out (by rw [hF.size, Array.size_replicate]) j (by rw [hF.size]; rw [Lib.decDigits_length] at hj; exact hj)
    have hcv := run_convert_bytes_back (P := Tryz.prog) _ 23 9 5 ⟨w.heap.size, 0, none⟩ 24 (Lib.decDigits u) Tryz.underlying23 Tryz.underlying5 Tryz.underlying9 hcells
    rw [Lib.decDigits_length] at hcv
    obtain ⟨W2, hW2⟩ : ∃ W2, (putRow (fun (b : UInt8) => Value.int .u8 (b.toNat : Int)) (w.alloc (.cells Lib.zeros24 214)) w.heap.size 0 dk).drewN k = W2 := ⟨_, rfl⟩
    rw [hW2] at hB hcv ⊢
    have HB := Lib.hid hB
    clear hcells hF hW2 eo hB HFmt HND HH0
    go_wp2_with fail
    go_ret
    exact ⟨rfl, HB.out⟩
theorem fmtu_any (u : Nat) (hu64 : u < 18446744073709551616) (w : World) (hN : EnvN w) : Calls Tryz.prog 96 #[.int .u64 (u : Int), .int .i64 10] w (Gives (.string ⟨(Lib.decDigits u).toArray⟩) w) := by
  have HF := Lib.hid (fmtu_in u hu64 w hN)
  clear hN
  go_enter Tryz.func96, Tryz.ntmps96
  go_wp2_with fail
  refine HF.out.mono ?_; rintro e w1 ⟨rfl, b1⟩
  go_wp2_with fail
  go_ret
  exact ⟨rfl, b1⟩
theorem repeat_48 (c : Nat) (w : World) (hc : c ≤ 100) : Calls Tryz.prog 97 #[.string ⟨#[48]⟩, .int .i64 (c : Int)] w (Gives (.string ⟨(List.replicate c (48 : UInt8)).toArray⟩) w) := by
  have h := Tryz.strings_Repeat ⟨#[48]⟩ c w (by omega) (by have : (⟨#[48]⟩ : ByteArray).size = 1 := rfl; rw [this]; omega)
  have e : Lib.repeatL (⟨#[48]⟩ : ByteArray).data.toList c = List.replicate c 48 := by
    have := Lib.repeatL_replicate 48 1 c
    rw [Nat.mul_one] at this
    exact this
  rw [e] at h
  exact h
theorem str_app12 (a b : List UInt8) : (⟨a.toArray⟩ : ByteArray) ++ ⟨b.toArray⟩ = ⟨(a ++ b).toArray⟩ := by
  apply ByteArray.ext
  simp
set_option maxHeartbeats 4000000 in
set_option maxRecDepth 100000 in
/-- A number's text: what is ahead, noughts, the digits. -/
theorem ptext_any (a : List UInt8) (ha : a.length ≤ 100) (d l m n : Nat) (hd : d ≤ 100) (hd1 : 1 ≤ d) (hn : n < 10 ^ d) (hn64 : n < 18446744073709551616) (w : World) (hN : EnvN w) : Calls Tryz.prog 71 #[partV ⟨a.toArray⟩ d l m, .int .u64 (n : Int)] w (Gives (.string ⟨(a ++ low10 d n).toArray⟩) w) := by
  obtain ⟨hlen, hpad⟩ := low10_pad d n hd1 hn
  have B0 := below_one w (.cells #[.string ⟨a.toArray⟩, .int .i64 (d : Int), .int .u64 (l : Int), .int .u64 (m : Int)] 119)
  have K0 := Blk.new w 119 #[.string ⟨a.toArray⟩, .int .i64 (d : Int), .int .u64 (l : Int), .int .u64 (m : Int)]
  obtain ⟨W0, hW0⟩ : ∃ W0, w.alloc (.cells #[.string ⟨a.toArray⟩, .int .i64 (d : Int), .int .u64 (l : Int), .int .u64 (m : Int)] 119) = W0 := ⟨_, rfl⟩
  rw [hW0] at B0 K0
  have HF := Lib.hid (fmtu_any n hn64 W0 (hN.below B0))
  have hsz : (⟨(Lib.decDigits n).toArray⟩ : ByteArray).size = (Lib.decDigits n).length := by simp [ByteArray.size]
  obtain ⟨D, hD⟩ : ∃ D, Lib.decDigits n = D := ⟨_, rfl⟩
  rw [hD] at hlen hpad HF hsz
  obtain ⟨nd, hnd⟩ : ∃ k, D.length = k := ⟨_, rfl⟩
  rw [hnd] at hlen hpad hsz
  obtain ⟨c, hc⟩ : ∃ c, d - nd = c := ⟨_, rfl⟩
  rw [hc] at hpad
  have hsub : (d : Int) - (nd : Int) = (c : Int) := by omega
  have HRp := Lib.hid (fun X => repeat_48 c X (by omega))
  have HW0 := Lib.hid hW0
  have HB0 := Lib.hid B0
  have HK0 := Lib.hid K0
  have HPad := Lib.hid hpad
  have hsa : (⟨a.toArray⟩ : ByteArray).size = a.length := by simp [ByteArray.size]
  have hsr : (⟨(List.replicate c (48 : UInt8)).toArray⟩ : ByteArray).size = c := by simp [ByteArray.size]
  have HS := Lib.hid hsa
  have HS2 := Lib.hid hsr
  clear hN hW0 B0 K0 hD hnd hpad hsa hsr
  go_enter Tryz.func71, Tryz.ntmps71
  go_wp2_with fail
  rw [HW0.out]
  go_wp2_with fail
  refine HF.out.mono ?_; rintro e w1 ⟨rfl, b1⟩
  have K1 := HK0.out.later b1
  have k0 := K1.cell 0 rfl
  have k1 := K1.cell 1 rfl
  have HB1 := Lib.hid (then_ HB0.out b1)
  clear b1 HF K1
  have hfin : (⟨a.toArray⟩ : ByteArray) ++ ⟨(List.replicate c (48 : UInt8)).toArray⟩ ++ ⟨D.toArray⟩ = ⟨(a ++ low10 d n).toArray⟩ := by
    rw [str_app12, str_app12, HPad.out, List.append_assoc]
  have HFin := Lib.hid hfin
  obtain ⟨sa, hsa⟩ : ∃ s : ByteArray, ⟨a.toArray⟩ = s := ⟨_, rfl⟩
  obtain ⟨sr, hsr⟩ : ∃ s : ByteArray, ⟨(List.replicate c (48 : UInt8)).toArray⟩ = s := ⟨_, rfl⟩
  obtain ⟨sd, hsd⟩ : ∃ s : ByteArray, ⟨D.toArray⟩ = s := ⟨_, rfl⟩
  rw [hsa] at HFin k0 HS ⊢
  rw [hsr] at HFin HRp HS2
  rw [hsd] at HFin hsz ⊢
  have z1 : sa.size ≤ 100 := by rw [HS.out]; exact ha
  have z2 : sr.size ≤ 100 := by rw [HS2.out]; omega
  have z3 : sd.size ≤ 100 := by omega
  have z4 : (sa ++ sr).size ≤ 200 := by rw [ByteArray.size_append]; omega
  have y1 : (sa.size : Int) ≤ 8388608 := by omega
  have y2 : (sr.size : Int) ≤ 8388608 := by omega
  have y3 : (sd.size : Int) ≤ 8388608 := by omega
  have y4 : ((sa ++ sr).size : Int) ≤ 8388608 := by omega
  have hwc : IntKind.i64.wrap (c : Int) = (c : Int) := by rw [IntKind.wrap_i64]; omega
  have a1 := fun X : World => run_string_add (P := Tryz.prog) X sa sr y1 y2
  have a2 := fun X : World => run_string_add (P := Tryz.prog) X (sa ++ sr) sd y4 y3
  clear z1 z2 z3 z4
  have q0 := fun (z : Later w1) => Later.cell k0 z
  have q1 := fun (z : Later w1) => Later.cell k1 z
  clear hfin hsa hsr hsd k0 k1
  go_wp2_with fail
  refine wp_region_later (by kernel_rfl) (by kernel_rfl) ?_
  repeat (quiet_step ((first | (go_at_call 97; with_reducible exact later_call _ (HRp.out _)))))
  refine wpQuiet_nil ?_
  intro wz hw'
  obtain ⟨⟨_, hbz⟩, rfl⟩ := hw'
  have HBz := Lib.hid (then_ HB1.out hbz)
  clear hbz q0 q1
  go_wp2_with fail
  go_ret
  exact ⟨by rw [HFin.out]; rfl, HBz.out⟩
end Go.Proofs.YtelocbohiddpgaaGreatDoor.Crc
