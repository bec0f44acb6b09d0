/- The contracts of package pred's Normal, Compare and Same. -/
import Derived.Test.YtpdlgkneeilclaaKn
import Derived.Test.YtpdlgkneeilclaaKp
set_option linter.unusedSimpArgs false
set_option linter.unusedVariables false
namespace Go.Proofs.Ytpdlgkneeilclaa.Gm
open Go Go.RowKit
attribute [local go_sem ↓] Go.wp_at_zero Go.wp_at_succ

theorem may_set {c : Cn} (h : mayCn c = true) : c.set.length ≤ 6 := by
  have h2 : mayOp c.op c.v c.set = true := by simp only [mayCn, Bool.and_eq_true] at h; exact h.2
  unfold mayOp at h2
  split at h2
  · simp only [Bool.and_eq_true, decide_eq_true_eq] at h2; omega
  · split at h2
    · simp only [maySt, Bool.and_eq_true, decide_eq_true_eq] at h2; omega
    · split at h2
      · simp only [Bool.and_eq_true, decide_eq_true_eq] at h2; omega
      · split at h2
        · simp only [Bool.and_eq_true, decide_eq_true_eq] at h2; omega
        · cases h2
theorem may_len {l : List Cn} (h : mayPr l = true) : l.length ≤ 6 ∧ ∀ d ∈ l, d.set.length ≤ 6 := by
  simp only [mayPr, Bool.and_eq_true, decide_eq_true_eq, List.all_eq_true] at h
  exact ⟨h.1, fun d hd => may_set (h.2 d hd)⟩
/-- What a normal form is: a row of the call's own, in order. -/
structure Norm (l : List Cn) (w w' : World) (p : Option Addr) (cap : Nat) (r : List Cn) : Prop where
  own : OwnC w' w.heap.size (.slice p r.length cap) r
  rise : Rising cmpC r
  is : r.map bare = sortL cmpC (l.map normC)
  sets : ∀ d ∈ r, d.set.length ≤ 100000
  len : r.length ≤ l.length
  bel : Below w.heap.size w w'
def NormR (l : List Cn) (w : World) (e : Ending) (w' : World) : Prop := ∃ p cap r, e = .returned (.tuple #[.slice p r.length cap, .int .i64 0]) ∧ Norm l w w' p cap r

set_option maxHeartbeats 2000000 in
set_option maxRecDepth 20000 in
theorem normal_no (v : Value) (l : List Cn) (w : World) (hA : Cs w v l) (h : mayPr l = false) : Calls Try.prog 10 #[v] w (Gives (.tuple #[.slice none 0 0, .int .i64 30]) w) := by
  obtain ⟨p, cap, rfl⟩ := hA.1.form
  have HM := maypred_any _ l w hA
  rw [h] at HM
  have HM := Lib.hid HM
  clear hA h
  go_enter Try.func10, Try.ntmps10
  go_wp2_with fail
  refine HM.out.mono ?_; rintro e w1 ⟨rfl, b1⟩
  go_wp2_with fail
  go_ret2
  exact ⟨rfl, b1⟩
set_option maxHeartbeats 2000000 in
set_option maxRecDepth 20000 in
theorem normal_yes (v : Value) (l : List Cn) (w : World) (hA : Cs w v l) (h : mayPr l = true) : Calls Try.prog 10 #[v] w (NormR l w) := by
  obtain ⟨p, cap, rfl⟩ := hA.1.form
  have HM := maypred_any _ l w hA
  rw [h] at HM
  have hl := may_len h
  have HM := Lib.hid HM
  have HG := Lib.hid (fun W (hb : Below w.heap.size w W) => gather_c _ l W (hA.later hb) (by omega) (fun d hd => by have := hl.2 d hd; omega))
  clear hA h hl
  go_enter Try.func10, Try.ntmps10
  go_wp2_with fail
  refine HM.out.mono ?_; rintro e w1 ⟨rfl, b1⟩
  have HB1 := Lib.hid b1
  clear b1
  go_wp2_with fail
  refine (HG.out w1 HB1.out).mono ?_; rintro e w2 ⟨p2, cap2, r, rfl, h1, h2, h3, h4, h5, h6⟩
  have HN : Hid (Norm l w w2 p2 cap2 r) := Lib.hid ⟨⟨own_base h1.1 HB1.out.size, fun d hd => own_base (h1.2 d hd) HB1.out.size⟩, h2, h3, h4, h5, then_ HB1.out h6⟩
  clear h1 h2 h3 h4 h5 h6
  go_wp2_with fail
  go_ret2
  exact ⟨p2, cap2, r, rfl, HN.out⟩
theorem pcompare_any (va vb : Value) (a b : List Cn) (w : World) (hA : Cs w va a) (hB : Cs w vb b) : Calls Try.prog 15 #[va, vb] w (Gives (.int .i64 (cmpL cmpC a b)) w) := by
  have HC := Lib.hid (cmpf_c va vb a b w hA hB)
  obtain ⟨p, cap, rfl⟩ := hA.1.form
  obtain ⟨p', cap', rfl⟩ := hB.1.form
  generalize cmpL cmpC a b = R at HC ⊢
  clear hA hB
  go_enter Try.func15, Try.ntmps15
  go_wp2_with fail
  refine HC.out.mono ?_; rintro e w1 ⟨rfl, b1⟩
  go_wp2_with fail
  go_ret
  exact ⟨rfl, b1⟩
theorem psame_any (va vb : Value) (a b : List Cn) (w : World) (hA : Cs w va a) (hB : Cs w vb b) : Calls Try.prog 16 #[va, vb] w (Gives (.bool (decide (cmpL cmpC a b = 0))) w) := by
  have HC := Lib.hid (pcompare_any va vb a b w hA hB)
  obtain ⟨p, cap, rfl⟩ := hA.1.form
  obtain ⟨p', cap', rfl⟩ := hB.1.form
  generalize cmpL cmpC a b = R at HC ⊢
  have e : (R == 0) = decide (R = 0) := by by_cases h : R = 0 <;> simp [h]
  generalize decide (R = 0) = d at e ⊢
  clear hA hB
  go_enter Try.func16, Try.ntmps16
  go_wp2_with fail
  refine HC.out.mono ?_; rintro e w1 ⟨rfl, b1⟩
  go_wp2_with fail
  go_ret
  exact ⟨rfl, b1⟩
end Go.Proofs.Ytpdlgkneeilclaa.Gm
