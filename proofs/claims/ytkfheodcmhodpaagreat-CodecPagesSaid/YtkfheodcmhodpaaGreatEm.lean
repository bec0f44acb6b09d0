/- The contract of the document's May of values. -/
import Derived.Test.YtkfheodcmhodpaaGreatA
import Derived.Lib.Small
import Derived.Lib.Bytealg
import Derived.Laws.IdiomStrings
import Derived.Test.YtkfheodcmhodpaaGreatGm
/- Plain facts on the order of texts, byte by byte: two ways to say it; it is one. -/
set_option linter.unusedSimpArgs false
set_option linter.unusedVariables false
namespace Go.Proofs.YtkfheodcmhodpaaGreat
open Go.RowKit

/-! ### The order of texts: two ways to say it -/
theorem same_of {a b : UInt8} (h : ¬ a < b) (h2 : ¬ b < a) : a = b := by
  have h3 : ¬ a.toNat < b.toNat := fun e => h (UInt8.lt_iff_toNat_lt.2 e)
  have h4 : ¬ b.toNat < a.toNat := fun e => h2 (UInt8.lt_iff_toNat_lt.2 e)
  exact UInt8.toNat_inj.1 (by omega)
theorem less_iff : ∀ (x y : List UInt8), Op.bytesLess x y = (Lib.compareBytes x y == -1)
  | [], [] => rfl
  | [], _ :: _ => rfl
  | _ :: _, [] => rfl
  | a :: x, b :: y => by
    simp only [Op.bytesLess, Lib.compareBytes]
    rw [less_iff x y]
    by_cases h : a < b
    · simp [h]
    · by_cases h2 : b < a
      · have : ¬ a = b := fun e => h (e ▸ (e ▸ h2 : a < a))
        simp [h, h2, this]
      · have : a = b := same_of h h2
        subst this
        simp [h]
theorem compareBytes_neg : ∀ (x y : List UInt8), Lib.compareBytes y x = - Lib.compareBytes x y
  | [], [] => rfl
  | [], _ :: _ => rfl
  | _ :: _, [] => rfl
  | a :: x, b :: y => by
    simp only [Lib.compareBytes]
    by_cases h : a < b
    · have h2 : ¬ b < a := by have := UInt8.lt_iff_toNat_lt.1 h; intro h2; have := UInt8.lt_iff_toNat_lt.1 h2; omega
      simp [h, h2]
    · by_cases h2 : b < a
      · simp [h, h2]
      · simp [h, h2, compareBytes_neg x y]
theorem compareBytes_three : ∀ (x y : List UInt8), Lib.compareBytes x y = -1 ∨ (Lib.compareBytes x y = 0 ∧ x = y) ∨ Lib.compareBytes x y = 1
  | [], [] => .inr (.inl ⟨rfl, rfl⟩)
  | [], _ :: _ => .inl rfl
  | _ :: _, [] => .inr (.inr rfl)
  | a :: x, b :: y => by
    simp only [Lib.compareBytes]
    by_cases h : a < b
    · simp [h]
    · by_cases h2 : b < a
      · simp [h, h2]
      · have e : a = b := same_of h h2
        subst e
        simp only [h, if_false, List.cons.injEq, true_and]
        exact compareBytes_three x y
theorem compareBytes_self (x : List UInt8) : Lib.compareBytes x x = 0 := by
  have := compareBytes_neg x x
  omega

theorem bytes_lt3 : ∀ (x y z : List UInt8), Lib.compareBytes x y = -1 → Lib.compareBytes y z = -1 → Lib.compareBytes x z = -1
  | x, [], z, h, h2 => by cases x <;> simp [Lib.compareBytes] at h
  | x, b :: y, [], h, h2 => by simp [Lib.compareBytes] at h2
  | [], b :: y, c :: z, h, h2 => rfl
  | a :: x, b :: y, c :: z, h, h2 => by
    simp only [Lib.compareBytes, UInt8.lt_iff_toNat_lt] at h h2 ⊢
    by_cases h3 : a.toNat < b.toNat
    · by_cases h4 : b.toNat < c.toNat
      · rw [if_pos (by omega)]
      · rw [if_neg h4] at h2
        by_cases h5 : c.toNat < b.toNat
        · rw [if_pos h5] at h2; omega
        · rw [if_pos (by omega)]
    · rw [if_neg h3] at h
      by_cases h4 : b.toNat < a.toNat
      · rw [if_pos h4] at h; omega
      · rw [if_neg h4] at h
        by_cases h5 : b.toNat < c.toNat
        · rw [if_pos (by omega)]
        · rw [if_neg h5] at h2
          by_cases h6 : c.toNat < b.toNat
          · rw [if_pos h6] at h2; omega
          · rw [if_neg h6] at h2
            rw [if_neg (by omega), if_neg (by omega)]
            exact bytes_lt3 x y z h h2
end Go.Proofs.YtkfheodcmhodpaaGreat
/- The contracts of the document's own answers: which values may be; their order. -/
/- The order of values, as a plain function; a box of four cells. -/
set_option linter.unusedSimpArgs false
set_option linter.unusedVariables false
namespace Go.Proofs.YtkfheodcmhodpaaGreat
open Go.RowKit

/-- A value lies in memory from g on. -/
def At4 (w : World) (g : Nat) (k n : Int) (s : ByteArray) (b : Bool) : Prop := w.cell? ⟨g, 0, none⟩ = some (.int .i64 k) ∧ w.cell? ⟨g, 1, none⟩ = some (.int .i64 n) ∧ w.cell? ⟨g, 2, none⟩ = some (.string s) ∧ w.cell? ⟨g, 3, none⟩ = some (.bool b)
theorem At4.new (w : World) (k n : Int) (s : ByteArray) (b : Bool) : At4 (w.alloc (.cells #[.int .i64 k, .int .i64 n, .string s, .bool b] 69)) w.heap.size k n s b := by
  refine ⟨?_, ?_, ?_, ?_⟩ <;> simp
theorem At4.below {w w' : World} {g : Nat} {k n : Int} {s : ByteArray} {b : Bool} (h : At4 w g k n s b) (hb : Below w.heap.size w w') : At4 w' g k n s b :=
  ⟨cell_later hb h.1, cell_later hb h.2.1, cell_later hb h.2.2.1, cell_later hb h.2.2.2⟩
theorem At4.alloc {w : World} {g : Nat} {k n : Int} {s : ByteArray} {b : Bool} (h : At4 w g k n s b) (o : Obj) : At4 (w.alloc o) g k n s b := h.below ((Below.refl _ w).alloc (Nat.le_refl _) o)

def cmpI (x y : Int) : Int := if x < y then -1 else if y < x then 1 else 0
def cmpB (a b : Bool) : Int := if a = b then 0 else if b then -1 else 1
def cmpV (k n : Int) (s : ByteArray) (b : Bool) (k' n' : Int) (s' : ByteArray) (b' : Bool) : Int :=
  if k = k' then (if k = 1 then cmpI n n' else if k = 2 then Lib.compareBytes s.data.toList s'.data.toList else if k = 3 then cmpB b b' else 0) else cmpI k k'

theorem ret_i64 {a b : Int} (h : a = b) : Ending.returned (.int .i64 a) = .returned (.int .i64 b) := by rw [h]
theorem two_new (w : World) (k n : Int) (s : ByteArray) (b : Bool) (k' n' : Int) (s' : ByteArray) (b' : Bool) :
    At4 ((w.alloc (.cells #[.int .i64 k, .int .i64 n, .string s, .bool b] 69)).alloc (.cells #[.int .i64 k', .int .i64 n', .string s', .bool b'] 69)) (w.heap.size + 1) k' n' s' b' := by
  have := At4.new (w.alloc (.cells #[.int .i64 k, .int .i64 n, .string s, .bool b] 69)) k' n' s' b'
  simpa using this

end Go.Proofs.YtkfheodcmhodpaaGreat
/- Small facts on bytes and on which values may be. -/
set_option linter.unusedSimpArgs false
set_option linter.unusedVariables false
namespace Go.Proofs.YtkfheodcmhodpaaGreat
open Go.RowKit

theorem toList_data (s : ByteArray) : s.toList = s.data.toList := ByteArray.toList_eq s
theorem bytes_eq {a b : ByteArray} (h : a.data.toList = b.data.toList) : a = b := by
  obtain ⟨⟨l⟩⟩ := a; obtain ⟨⟨m⟩⟩ := b
  simp only at h
  subst h; rfl
theorem mayB_1 (n : Int) (s : ByteArray) (b : Bool) : mayB 1 n s b = (s.toList.isEmpty && !b) := by simp [mayB]
theorem mayB_2 (n : Int) (s : ByteArray) (b : Bool) : mayB 2 n s b = (decide (s.size ≤ 32) && (n == 0 && !b)) := by simp [mayB]
theorem mayB_3 (n : Int) (s : ByteArray) (b : Bool) : mayB 3 n s b = (n == 0 && s.toList.isEmpty) := by simp [mayB]
end Go.Proofs.YtkfheodcmhodpaaGreat
set_option linter.unusedSimpArgs false
set_option linter.unusedVariables false
namespace Go.Proofs.YtkfheodcmhodpaaGreat
open Go.RowKit

set_option maxHeartbeats 1000000 in
set_option maxRecDepth 20000 in
theorem refmay_1 (n : Int) (s : ByteArray) (b : Bool) (w : World) : Calls Tryz.prog 72 #[val 1 n s b] w (Gives (.bool (mayB 1 n s b)) w) := by
  rw [mayB_1]
  cases he : s.toList.isEmpty <;> cases b
  all_goals
    go_enter Tryz.func72, Tryz.ntmps72
    go_wp2
    go_ret
    exact ⟨rfl, (Below.refl _ _).alloc (Nat.le_refl _) _⟩
set_option maxHeartbeats 1000000 in
set_option maxRecDepth 20000 in
theorem refmay_2 (n : Int) (s : ByteArray) (b : Bool) (w : World) : Calls Tryz.prog 72 #[val 2 n s b] w (Gives (.bool (mayB 2 n s b)) w) := by
  rw [mayB_2]
  by_cases h : s.size ≤ 32
  · rw [decide_eq_true h]
    have hd : decide ((s.size : Int) ≤ 32) = true := by simp; omega
    cases hn : (n == 0) <;> cases b
    all_goals
      go_enter Tryz.func72, Tryz.ntmps72
      go_wp2
      go_ret
      exact ⟨rfl, (Below.refl _ _).alloc (Nat.le_refl _) _⟩
  · rw [decide_eq_false h]
    have hd : decide ((s.size : Int) ≤ 32) = false := by simp; omega
    cases hn : (n == 0) <;> cases b
    all_goals
      go_enter Tryz.func72, Tryz.ntmps72
      go_wp2
      go_ret
      exact ⟨rfl, (Below.refl _ _).alloc (Nat.le_refl _) _⟩
set_option maxHeartbeats 1000000 in
set_option maxRecDepth 20000 in
theorem refmay_3 (n : Int) (s : ByteArray) (b : Bool) (w : World) : Calls Tryz.prog 72 #[val 3 n s b] w (Gives (.bool (mayB 3 n s b)) w) := by
  rw [mayB_3]
  cases he : s.toList.isEmpty <;> cases hn : (n == 0)
  all_goals
    go_enter Tryz.func72, Tryz.ntmps72
    go_wp2
    go_ret
    exact ⟨rfl, (Below.refl _ _).alloc (Nat.le_refl _) _⟩
set_option maxHeartbeats 1000000 in
set_option maxRecDepth 20000 in
theorem refmay_none (k n : Int) (s : ByteArray) (b : Bool) (w : World) (h1 : (k == 1) = false) (h2 : (k == 2) = false) (h3 : (k == 3) = false) : Calls Tryz.prog 72 #[val k n s b] w (Gives (.bool false) w) := by
  go_enter Tryz.func72, Tryz.ntmps72
  go_wp2
  go_ret
  exact ⟨rfl, (Below.refl _ _).alloc (Nat.le_refl _) _⟩
theorem refmay_any (k n : Int) (s : ByteArray) (b : Bool) (w : World) : Calls Tryz.prog 72 #[val k n s b] w (Gives (.bool (mayB k n s b)) w) := by
  by_cases h1 : k = 1
  · subst h1; exact refmay_1 n s b w
  by_cases h2 : k = 2
  · subst h2; exact refmay_2 n s b w
  by_cases h3 : k = 3
  · subst h3; exact refmay_3 n s b w
  · have := refmay_none k n s b w (by simpa using h1) (by simpa using h2) (by simpa using h3)
    rwa [show mayB k n s b = false by simp [mayB, h1, h2, h3]]
end Go.Proofs.YtkfheodcmhodpaaGreat
set_option linter.unusedSimpArgs false
set_option linter.unusedVariables false
namespace Go.Proofs.YtkfheodcmhodpaaGreat.Gm
open Go Go.RowKit
attribute [local go_sem ↓] Go.wp_at_zero Go.wp_at_succ

set_option maxHeartbeats 1000000 in
set_option maxRecDepth 20000 in
theorem refmay_1 (n : Int) (s : ByteArray) (b : Bool) (w : World) : Calls Tryz.prog 72 #[val 1 n s b] w (Gives (.bool (mayB 1 n s b)) w) := by
  rw [mayB_1]
  cases he : s.toList.isEmpty <;> cases b
  all_goals
    go_enter Tryz.func72, Tryz.ntmps72
    go_wp2
    go_ret
    exact ⟨rfl, (Below.refl _ _).alloc (Nat.le_refl _) _⟩
set_option maxHeartbeats 1000000 in
set_option maxRecDepth 20000 in
theorem refmay_2 (n : Int) (s : ByteArray) (b : Bool) (w : World) : Calls Tryz.prog 72 #[val 2 n s b] w (Gives (.bool (mayB 2 n s b)) w) := by
  rw [mayB_2]
  by_cases h : s.size ≤ 32
  · rw [decide_eq_true h]
    have hd : decide ((s.size : Int) ≤ 32) = true := by simp; omega
    cases hn : (n == 0) <;> cases b
    all_goals
      go_enter Tryz.func72, Tryz.ntmps72
      go_wp2
      go_ret
      exact ⟨rfl, (Below.refl _ _).alloc (Nat.le_refl _) _⟩
  · rw [decide_eq_false h]
    have hd : decide ((s.size : Int) ≤ 32) = false := by simp; omega
    cases hn : (n == 0) <;> cases b
    all_goals
      go_enter Tryz.func72, Tryz.ntmps72
      go_wp2
      go_ret
      exact ⟨rfl, (Below.refl _ _).alloc (Nat.le_refl _) _⟩
set_option maxHeartbeats 1000000 in
set_option maxRecDepth 20000 in
theorem refmay_3 (n : Int) (s : ByteArray) (b : Bool) (w : World) : Calls Tryz.prog 72 #[val 3 n s b] w (Gives (.bool (mayB 3 n s b)) w) := by
  rw [mayB_3]
  cases he : s.toList.isEmpty <;> cases hn : (n == 0)
  all_goals
    go_enter Tryz.func72, Tryz.ntmps72
    go_wp2
    go_ret
    exact ⟨rfl, (Below.refl _ _).alloc (Nat.le_refl _) _⟩
set_option maxHeartbeats 1000000 in
set_option maxRecDepth 20000 in
theorem refmay_none (k n : Int) (s : ByteArray) (b : Bool) (w : World) (h1 : (k == 1) = false) (h2 : (k == 2) = false) (h3 : (k == 3) = false) : Calls Tryz.prog 72 #[val k n s b] w (Gives (.bool false) w) := by
  go_enter Tryz.func72, Tryz.ntmps72
  go_wp2
  go_ret
  exact ⟨rfl, (Below.refl _ _).alloc (Nat.le_refl _) _⟩
theorem refmay_any (k n : Int) (s : ByteArray) (b : Bool) (w : World) : Calls Tryz.prog 72 #[val k n s b] w (Gives (.bool (mayB k n s b)) w) := by
  by_cases h1 : k = 1
  · subst h1; exact refmay_1 n s b w
  by_cases h2 : k = 2
  · subst h2; exact refmay_2 n s b w
  by_cases h3 : k = 3
  · subst h3; exact refmay_3 n s b w
  · have := refmay_none k n s b w (by simpa using h1) (by simpa using h2) (by simpa using h3)
    rwa [show mayB k n s b = false by simp [mayB, h1, h2, h3]]
end Go.Proofs.YtkfheodcmhodpaaGreat.Gm
