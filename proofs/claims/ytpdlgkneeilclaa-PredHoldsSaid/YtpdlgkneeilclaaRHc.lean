/- The contract of the document's Holds: Prefix; all of them together. -/
import Derived.Test.YtpdlgkneeilclaaRHb
import Derived.Test.YtpdlgkneeilclaaRHj
import Derived.Test.YtpdlgkneeilclaaRHk
import Derived.Test.YtpdlgkneeilclaaRHl
set_option linter.unusedSimpArgs false
set_option linter.unusedVariables false
namespace Go.Proofs.Ytpdlgkneeilclaa.Gm
open Go Go.RowKit
attribute [local go_sem ↓] Go.wp_at_zero Go.wp_at_succ

theorem rholds_8 (nm : ByteArray) (v : Vl) (sp : Option Addr) (m sc : Nat) (w : World) (x : Vl) (hk : x.k = v.k) : Calls Try.prog 23 #[.agg #[.string nm, .int .i64 8, .int .i64 v.k, .int .i64 v.n, .string v.s, .bool v.b, .slice sp m sc], vv x] w (Gives (.bool (beginsB x v)) w) := by
  have ek : (x.k != v.k) = false := by simpa using hk
  have hvk : (v.k == 2) = (x.k == 2) := by rw [hk]
  have hbe : beginsB x v = ((x.k == 2) && Lib.hasPrefix x.s.data.toList v.s.data.toList) := by
    rw [beginsB, hvk]; cases (x.k == 2) <;> rfl
  rw [hbe]
  cases h2 : (x.k == 2) with
  | false => exact rholds_8a nm v sp m sc w x ek h2
  | true =>
    rw [Bool.true_and]
    by_cases hz : v.s.size ≤ x.s.size
    · exact rholds_8b nm v sp m sc w x _ ek h2 hz rfl
    · rw [prefix_no _ _ hz]; exact rholds_8c nm v sp m sc w x ek h2 hz
theorem rholds_any (c : Cn) (x : Vl) (w : World) (hS : Vs w c.sv c.set) : Calls Try.prog 23 #[.agg #[.string c.nm, .int .i64 c.op, .int .i64 c.v.k, .int .i64 c.v.n, .string c.v.s, .bool c.v.b, .slice c.sp c.set.length c.sc], vv x] w (Gives (.bool (holdsB c x)) w) := by
  obtain ⟨nm, op, v, sp, sc, l⟩ := c
  simp only [holdsB]
  by_cases h1 : op = 1
  · subst h1; simpa using rholds_1 nm v sp l.length sc w x
  by_cases h9 : op = 9
  · subst h9; simpa using rholds_9 nm v sp sc w x l hS
  rw [if_neg h1, if_neg h9]
  by_cases hk : x.k = v.k
  · by_cases ho : 2 ≤ op ∧ op ≤ 7
    · rw [if_pos ho, show (x.k == v.k) = true by simpa using hk, Bool.true_and]
      exact rholds_ord nm v sp l.length sc w x op (by omega) hk
    · rw [if_neg ho]
      by_cases h8 : op = 8
      · subst h8; rw [if_pos rfl]; exact rholds_8 nm v sp l.length sc w x hk
      · rw [if_neg h8]; exact rholds_other nm v sp l.length sc w x op (by omega) hk
  · have hf := rholds_kind nm v sp l.length sc w x op h1 h9 hk
    by_cases ho : 2 ≤ op ∧ op ≤ 7
    · rw [if_pos ho, show (x.k == v.k) = false by simpa using hk, Bool.false_and]; exact hf
    · rw [if_neg ho]
      by_cases h8 : op = 8
      · rw [if_pos h8, show beginsB x v = false from ?_]
        · exact hf
        · unfold beginsB
          cases h2 : (x.k == 2)
          · rfl
          · rw [Bool.true_and, show (v.k == 2) = false by simp at h2 ⊢; omega, Bool.false_and]
      · rw [if_neg h8]; exact hf
end Go.Proofs.Ytpdlgkneeilclaa.Gm
