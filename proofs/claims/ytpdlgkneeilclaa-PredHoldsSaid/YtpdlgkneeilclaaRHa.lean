/- The contract of the document's Holds. -/
import Derived.Test.YtpdlgkneeilclaaKu
import Derived.Test.YtpdlgkneeilclaaKL
import Derived.Test.YtpdlgkneeilclaaKb
set_option linter.unusedSimpArgs false
set_option linter.unusedVariables false
namespace Go.Proofs.Ytpdlgkneeilclaa.Gm
open Go Go.RowKit
attribute [local go_sem ↓] Go.wp_at_zero Go.wp_at_succ

section
variable (nm : ByteArray) (v : Vl) (sp : Option Addr) (m sc : Nat) (w : World) (x : Vl)
set_option maxHeartbeats 4000000 in
set_option maxRecDepth 100000 in
theorem rholds_1 : Calls Try.prog 23 #[.agg #[.string nm, .int .i64 1, .int .i64 v.k, .int .i64 v.n, .string v.s, .bool v.b, .slice sp m sc], vv x] w (Gives (.bool true) w) := by
  go_enter Try.func23, Try.ntmps23
  go_wp2
  go_ret
  exact ⟨rfl, ((Below.refl _ w).alloc (Nat.le_refl _) _).alloc (by simp) _⟩
set_option maxHeartbeats 4000000 in
set_option maxRecDepth 100000 in
theorem rholds_kind (op : Int) (h1 : ¬ op = 1) (h9 : ¬ op = 9) (hk : ¬ x.k = v.k) : Calls Try.prog 23 #[.agg #[.string nm, .int .i64 op, .int .i64 v.k, .int .i64 v.n, .string v.s, .bool v.b, .slice sp m sc], vv x] w (Gives (.bool false) w) := by
  have e1 : (op == 1) = false := by simpa using h1
  have e9 : (op == 9) = false := by simpa using h9
  have ek : (x.k != v.k) = true := by simpa using hk
  clear h1 h9 hk
  go_enter Try.func23, Try.ntmps23
  go_wp2
  go_ret
  exact ⟨rfl, ((Below.refl _ w).alloc (Nat.le_refl _) _).alloc (by simp) _⟩
/-- The two boxes, behind the call of Compare. -/
theorem two_boxes {op : Int} {w1 : World} (b : Below ((w.alloc (.cells #[.string nm, .int .i64 op, .int .i64 v.k, .int .i64 v.n, .string v.s, .bool v.b, .slice sp m sc] 37)).alloc (.cells #[.int .i64 x.k, .int .i64 x.n, .string x.s, .bool x.b] 34)).heap.size ((w.alloc (.cells #[.string nm, .int .i64 op, .int .i64 v.k, .int .i64 v.n, .string v.s, .bool v.b, .slice sp m sc] 37)).alloc (.cells #[.int .i64 x.k, .int .i64 x.n, .string x.s, .bool x.b] 34)) w1) :
    Blk w1 w.heap.size 37 #[.string nm, .int .i64 op, .int .i64 v.k, .int .i64 v.n, .string v.s, .bool v.b, .slice sp m sc] ∧ Blk w1 (w.heap.size + 1) 34 #[.int .i64 x.k, .int .i64 x.n, .string x.s, .bool x.b] ∧ Below w.heap.size w w1 :=
  ⟨((Blk.new _ _ _).alloc _).later b, (by simpa using Blk.new (w.alloc (.cells #[.string nm, .int .i64 op, .int .i64 v.k, .int .i64 v.n, .string v.s, .bool v.b, .slice sp m sc] 37)) 34 #[.int .i64 x.k, .int .i64 x.n, .string x.s, .bool x.b] : Blk _ _ _ _).later b,
    (((Below.refl _ w).alloc (Nat.le_refl _) _).alloc (by simp) _).trans (b.mono (by simp; omega))⟩
set_option maxHeartbeats 4000000 in
set_option maxRecDepth 100000 in
theorem rholds_ord (op : Int) (ho : op = 2 ∨ op = 3 ∨ op = 4 ∨ op = 5 ∨ op = 6 ∨ op = 7) (hk : x.k = v.k) : Calls Try.prog 23 #[.agg #[.string nm, .int .i64 op, .int .i64 v.k, .int .i64 v.n, .string v.s, .bool v.b, .slice sp m sc], vv x] w (Gives (.bool (relOf op (cv x v))) w) := by
  have ek : (x.k != v.k) = false := by simpa using hk
  have HC := Lib.hid (fun W => refcmp_any x.k x.n x.s x.b v.k v.n v.s v.b W)
  have hcv : cmpV x.k x.n x.s x.b v.k v.n v.s v.b = cv x v := rfl
  rw [hcv] at HC
  generalize cv x v = r at HC ⊢
  clear hk hcv
  rcases ho with rfl | rfl | rfl | rfl | rfl | rfl
  all_goals
    go_enter Try.func23, Try.ntmps23
    go_wp2_with fail
    refine (HC.out _).mono ?_; rintro e w1 ⟨rfl, b1⟩
    obtain ⟨k1, k2, hb⟩ := two_boxes nm v sp m sc w x b1
    have q1 := k1.cell 1 rfl
    have HB := Lib.hid hb
    clear b1 k1 k2 hb
    go_wp2_with fail
    go_ret
    exact ⟨rfl, HB.out⟩
set_option maxHeartbeats 4000000 in
set_option maxRecDepth 100000 in
theorem rholds_other (op : Int) (ho : ¬ (1 ≤ op ∧ op ≤ 9)) (hk : x.k = v.k) : Calls Try.prog 23 #[.agg #[.string nm, .int .i64 op, .int .i64 v.k, .int .i64 v.n, .string v.s, .bool v.b, .slice sp m sc], vv x] w (Gives (.bool false) w) := by
  have ek : (x.k != v.k) = false := by simpa using hk
  have HC := Lib.hid (fun W => refcmp_any x.k x.n x.s x.b v.k v.n v.s v.b W)
  generalize cmpV x.k x.n x.s x.b v.k v.n v.s v.b = r at HC
  have e1 : (op == 1) = false := by simp; omega
  have e2 : (op == 2) = false := by simp; omega
  have e3 : (op == 3) = false := by simp; omega
  have e4 : (op == 4) = false := by simp; omega
  have e5 : (op == 5) = false := by simp; omega
  have e6 : (op == 6) = false := by simp; omega
  have e7 : (op == 7) = false := by simp; omega
  have e8 : (op == 8) = false := by simp; omega
  have e9 : (op == 9) = false := by simp; omega
  clear hk ho
  go_enter Try.func23, Try.ntmps23
  go_wp2_with fail
  refine (HC.out _).mono ?_; rintro e w1 ⟨rfl, b1⟩
  obtain ⟨k1, k2, hb⟩ := two_boxes nm v sp m sc w x b1
  have q1 := k1.cell 1 rfl
  have HB := Lib.hid hb
  clear b1 k1 k2 hb
  go_wp2_with fail
  go_ret
  exact ⟨rfl, HB.out⟩
end
end Go.Proofs.Ytpdlgkneeilclaa.Gm
