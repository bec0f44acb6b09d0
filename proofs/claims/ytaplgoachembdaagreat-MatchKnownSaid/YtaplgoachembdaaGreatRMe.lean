/- Parts of rows in memory, as sources of an append. -/
import Derived.Test.YtaplgoachembdaaGreatKm
import Derived.Test.YtaplgoachembdaaGreatRMs
set_option linter.unusedSimpArgs false
set_option linter.unusedVariables false
namespace Go.Proofs.YtaplgoachembdaaGreat.Gm
open Go Go.RowKit
attribute [local go_sem ↓] Go.wp_at_zero Go.wp_at_succ

theorem slice_pre_v (p : Option Addr) (m cap k : Nat) (hk : k ≤ m) (hc : m ≤ cap) (hp : p = none → cap = 0) (W : World) : (Instr.slice 43 (.slice p m cap) none (some (.int .i64 (k : Int))) none).run Tryz.prog W = .ok (.slice p k cap) W := by
  cases p with
  | none =>
    have := hp rfl
    subst this
    have : k = 0 := by omega
    subst this
    have : m = 0 := by omega
    subst this
    go_simp
  | some a =>
    have h1 : (k : Int) ≤ (cap : Int) := by omega
    have h2 : k ≤ cap := by omega
    go_simp
theorem slice_suf_v (p : Option Addr) (m cap k : Nat) (hk : k ≤ m) (hc : m ≤ cap) (hp : p = none → cap = 0) (W : World) : (Instr.slice 43 (.slice p m cap) (some (.int .i64 (k : Int))) none none).run Tryz.prog W = .ok (.slice (sufP p k 4 cap) (m - k) (cap - k)) W := by
  cases p with
  | none =>
    have := hp rfl
    subst this
    have : k = 0 := by omega
    subst this
    have : m = 0 := by omega
    subst this
    rw [show sufP none 0 4 0 = none from rfl]
    go_simp
  | some a =>
    have h1 : (k : Int) ≤ (cap : Int) := by omega
    have h2 : k ≤ cap := by omega
    by_cases h3 : cap = k
    · subst h3
      have : m = cap := by omega
      subst this
      rw [show sufP (some a) m 4 m = some a by simp [sufP]]
      go_simp
    · have h4 : ¬ ((cap : Int) = (k : Int)) := by omega
      rw [show sufP (some a) k 4 cap = some (a.add (k * 4)) by simp [sufP, h3]]
      go_simp
theorem slice_pre_c (p : Option Addr) (m cap k : Nat) (hk : k ≤ m) (hc : m ≤ cap) (hp : p = none → cap = 0) (W : World) : (Instr.slice 31 (.slice p m cap) none (some (.int .i64 (k : Int))) none).run Tryz.prog W = .ok (.slice p k cap) W := by
  cases p with
  | none =>
    have := hp rfl
    subst this
    have : k = 0 := by omega
    subst this
    have : m = 0 := by omega
    subst this
    go_simp
  | some a =>
    have h1 : (k : Int) ≤ (cap : Int) := by omega
    have h2 : k ≤ cap := by omega
    go_simp
theorem slice_suf_c (p : Option Addr) (m cap k : Nat) (hk : k ≤ m) (hc : m ≤ cap) (hp : p = none → cap = 0) (W : World) : (Instr.slice 31 (.slice p m cap) (some (.int .i64 (k : Int))) none none).run Tryz.prog W = .ok (.slice (sufP p k 7 cap) (m - k) (cap - k)) W := by
  cases p with
  | none =>
    have := hp rfl
    subst this
    have : k = 0 := by omega
    subst this
    have : m = 0 := by omega
    subst this
    rw [show sufP none 0 7 0 = none from rfl]
    go_simp
  | some a =>
    have h1 : (k : Int) ≤ (cap : Int) := by omega
    have h2 : k ≤ cap := by omega
    by_cases h3 : cap = k
    · subst h3
      have : m = cap := by omega
      subst this
      rw [show sufP (some a) m 7 m = some a by simp [sufP]]
      go_simp
    · have h4 : ¬ ((cap : Int) = (k : Int)) := by omega
      rw [show sufP (some a) k 7 cap = some (a.add (k * 7)) by simp [sufP, h3]]
      go_simp
end Go.Proofs.YtaplgoachembdaaGreat.Gm
