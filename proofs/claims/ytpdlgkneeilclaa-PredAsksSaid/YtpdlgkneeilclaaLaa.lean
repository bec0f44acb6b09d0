/- What the operators answer, and how they go together. -/
import Derived.Test.YtpdlgkneeilclaaKz
set_option linter.unusedSimpArgs false
set_option linter.unusedVariables false
namespace Go.Proofs.Ytpdlgkneeilclaa.Gm
open Go Go.RowKit
attribute [local go_sem ↓] Go.wp_at_zero Go.wp_at_succ

theorem asks1 (op : Int) (x v : Vl) (gx gv : Nat) (W : World) (h1 : Four W gx 0 x) (h2 : Four W gv 0 v) :
    Calls Try.prog 26 #[.int .i64 op, .pointer (some ⟨gx, 0, none⟩), .pointer (some ⟨gv, 0, none⟩)] W (Gives (.bool (holdsB ⟨sA, op, x, none, 0, []⟩ v)) W) := by
  obtain ⟨a0, a1, a2, a3⟩ := h1
  obtain ⟨b0, b1, b2, b3⟩ := h2
  have HH := Lib.hid (holds_any ⟨sA, op, x, none, 0, []⟩ v W (vs_nil _))
  generalize holdsB ⟨sA, op, x, none, 0, []⟩ v = r at HH ⊢
  go_enter Try.func26, Try.ntmps26
  go_wp2_with fail
  refine HH.out.mono ?_; rintro e w1 ⟨rfl, hb1⟩
  go_wp2_with fail
  go_ret
  exact ⟨rfl, hb1⟩
/-- A text is at least what it begins with. -/
theorem prefix_ge : ∀ (a p : List UInt8), Lib.hasPrefix a p = true → 0 ≤ Lib.compareBytes a p
  | [], [], _ => by decide
  | _ :: _, [], _ => by simp [Lib.compareBytes]
  | [], _ :: _, h => by simp [Lib.hasPrefix] at h
  | x :: a, y :: p, h => by
    simp only [Lib.hasPrefix, List.isPrefixOf_cons_cons, Bool.and_eq_true, beq_iff_eq] at h
    obtain ⟨rfl, h2⟩ := h
    have ih := prefix_ge a p h2
    have hn : ¬ y < y := by rw [UInt8.lt_iff_toNat_lt]; omega
    simp only [Lib.compareBytes, if_neg hn]
    exact ih
theorem begins_ge {v x : Vl} (h : beginsB v x = true) : 0 ≤ cv v x := by
  simp only [beginsB, Bool.and_eq_true, beq_iff_eq] at h
  obtain ⟨h1, h2, h3⟩ := h
  unfold cv cmpV
  rw [if_pos (by rw [h1, h2]), if_neg (by omega), if_pos h1]
  exact prefix_ge _ _ h3
/-- What each operator answers, and how they go together. -/
structure Goes (h : Int → Bool) (same : Bool) (r : Int) : Prop where
  has : h 1 = true
  eq : h 2 = (same && r == 0)
  ne : h 3 = (same && r != 0)
  lt : h 4 = (same && decide (r < 0))
  le : h 5 = (same && decide (r ≤ 0))
  gt : h 6 = (same && decide (0 < r))
  ge : h 7 = (same && decide (0 ≤ r))
  pre : h 8 = true → same = true ∧ 0 ≤ r
theorem goes_of (x v : Vl) : Goes (fun op => holdsB ⟨sA, op, x, none, 0, []⟩ v) (v.k == x.k) (cv v x) := by
  refine ⟨rfl, rfl, rfl, rfl, rfl, rfl, rfl, fun h => ?_⟩
  have h' : beginsB v x = true := h
  refine ⟨?_, begins_ge h'⟩
  simp only [beginsB, Bool.and_eq_true, beq_iff_eq] at h'
  rw [beq_iff_eq, h'.1, h'.2.1]
/-- How many of three are true, up to the kth. -/
def cnt3 (a b c : Bool) (k : Nat) : Int := ((([a, b, c].take k).filter id).length : Int)
theorem vals_at (l : List Vl) (hl : l.length ≤ 1000) (w : World) (G : Nat) (hG : w.heap.size = G) : Vs (w.alloc (.cells (l.flatMap encV).toArray 34)) (.slice (some ⟨G, 0, none⟩) l.length l.length) l := ⟨row_blk (enc := encV) (l := l) encV_length (hG ▸ Blk.new w _ _), by omega⟩
theorem in_is (v x y : Vl) (sp : Option Addr) (sc : Nat) : holdsB ⟨sA, 9, default, sp, sc, [y, x]⟩ v = (cv v x == 0 || cv v y == 0) := by
  show ([y, x].any fun z => cv v z == 0) = _
  simp [Bool.or_comm]
theorem cv_three (v x : Vl) : cv v x = -1 ∨ cv v x = 0 ∨ cv v x = 1 := cmpV_three (parts v) (parts x)

end Go.Proofs.Ytpdlgkneeilclaa.Gm
