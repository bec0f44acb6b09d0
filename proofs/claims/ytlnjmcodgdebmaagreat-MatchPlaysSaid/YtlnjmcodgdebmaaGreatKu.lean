/- The contracts of package pred's question and Holds. -/
import Derived.Test.YtlnjmcodgdebmaaGreatKt
set_option linter.unusedSimpArgs false
set_option linter.unusedVariables false
namespace Go.Proofs.YtlnjmcodgdebmaaGreat.Gm
open Go Go.RowKit
attribute [local go_sem ↓] Go.wp_at_zero Go.wp_at_succ

/-- What a constraint asks of a value. -/
def holdsB (c : Cn) (x : Vl) : Bool :=
  if c.op = 1 then true else if c.op = 9 then c.set.any fun y => cv x y == 0 else if 2 ≤ c.op ∧ c.op ≤ 7 then x.k == c.v.k && relOf c.op (cv x c.v) else if c.op = 8 then beginsB x c.v else false
/-- A question of the order, with what it has captured. -/
def QuestR (own : Vl) (fv : Value) (w : World) (e : Ending) (w' : World) : Prop :=
  ∃ g1 g2, e = .returned (.func (.func 105) #[] #[.pointer (some ⟨g1, 0, none⟩), .pointer (some ⟨g2, 0, none⟩)]) ∧ Four w' g1 0 own ∧ w'.cell? ⟨g2, 0, none⟩ = some fv ∧ Below w.heap.size w w'
theorem compared_any (own : Vl) (fn : Nat) (w : World) : Calls Tryz.prog 69 #[vv own, .func (.func fn) #[] #[]] w (QuestR own (.func (.func fn) #[] #[]) w) := by
  go_enter Tryz.func69, Tryz.ntmps69
  go_wp2
  go_ret
  refine ⟨w.heap.size, w.heap.size + 1, rfl, ⟨?_, ?_, ?_, ?_⟩, ?_, ((Below.refl _ w).alloc (Nat.le_refl _) _).alloc (by simp) _⟩
  all_goals simp
/-- A question of a prefix. -/
def QuestP (own : Vl) (w : World) (e : Ending) (w' : World) : Prop :=
  ∃ g1, e = .returned (.func (.func 107) #[] #[.pointer (some ⟨g1, 0, none⟩)]) ∧ Four w' g1 0 own ∧ Below w.heap.size w w'
theorem begun_any (own : Vl) (w : World) : Calls Tryz.prog 76 #[vv own] w (QuestP own w) := by
  go_enter Tryz.func76, Tryz.ntmps76
  go_wp2
  go_ret
  refine ⟨w.heap.size, rfl, ⟨?_, ?_, ?_, ?_⟩, below_one _ _⟩
  all_goals simp
/-- A question of a set. -/
def QuestS (sv : Value) (w : World) (e : Ending) (w' : World) : Prop :=
  ∃ g1, e = .returned (.func (.func 109) #[] #[.pointer (some ⟨g1, 0, none⟩)]) ∧ w'.cell? ⟨g1, 0, none⟩ = some sv ∧ Below w.heap.size w w'
theorem among_any (sp : Option Addr) (m sc : Nat) (w : World) : Calls Tryz.prog 77 #[.slice sp m sc] w (QuestS (.slice sp m sc) w) := by
  go_enter Tryz.func77, Tryz.ntmps77
  go_wp2
  go_ret
  refine ⟨w.heap.size, rfl, ?_, below_one _ _⟩
  simp
set_option maxHeartbeats 4000000 in
set_option maxRecDepth 100000 in
theorem question_2 (nm : ByteArray) (v : Vl) (sp : Option Addr) (m sc : Nat) (w : World) : Calls Tryz.prog 51 #[.agg #[.string nm, .int .i64 2, .int .i64 v.k, .int .i64 v.n, .string v.s, .bool v.b, .slice sp m sc]] w (QuestR v (.func (.func 70) #[] #[]) w) := by
  have HC := Lib.hid (fun W => compared_any v 70 W)
  go_enter Tryz.func51, Tryz.ntmps51
  go_wp2_with fail
  refine (HC.out _).mono ?_; rintro e w1 ⟨g1, g2, rfl, h1, h2, b1⟩
  have H1 := Lib.hid h1
  have H2 := Lib.hid h2
  have HB1 := Lib.hid (below_new b1)
  clear h1 h2 b1
  go_wp2_with fail
  go_ret
  exact ⟨g1, g2, rfl, H1.out, H2.out, HB1.out⟩
set_option maxHeartbeats 4000000 in
set_option maxRecDepth 100000 in
theorem question_3 (nm : ByteArray) (v : Vl) (sp : Option Addr) (m sc : Nat) (w : World) : Calls Tryz.prog 51 #[.agg #[.string nm, .int .i64 3, .int .i64 v.k, .int .i64 v.n, .string v.s, .bool v.b, .slice sp m sc]] w (QuestR v (.func (.func 71) #[] #[]) w) := by
  have HC := Lib.hid (fun W => compared_any v 71 W)
  go_enter Tryz.func51, Tryz.ntmps51
  go_wp2_with fail
  refine (HC.out _).mono ?_; rintro e w1 ⟨g1, g2, rfl, h1, h2, b1⟩
  have H1 := Lib.hid h1
  have H2 := Lib.hid h2
  have HB1 := Lib.hid (below_new b1)
  clear h1 h2 b1
  go_wp2_with fail
  go_ret
  exact ⟨g1, g2, rfl, H1.out, H2.out, HB1.out⟩
set_option maxHeartbeats 4000000 in
set_option maxRecDepth 100000 in
theorem question_4 (nm : ByteArray) (v : Vl) (sp : Option Addr) (m sc : Nat) (w : World) : Calls Tryz.prog 51 #[.agg #[.string nm, .int .i64 4, .int .i64 v.k, .int .i64 v.n, .string v.s, .bool v.b, .slice sp m sc]] w (QuestR v (.func (.func 72) #[] #[]) w) := by
  have HC := Lib.hid (fun W => compared_any v 72 W)
  go_enter Tryz.func51, Tryz.ntmps51
  go_wp2_with fail
  refine (HC.out _).mono ?_; rintro e w1 ⟨g1, g2, rfl, h1, h2, b1⟩
  have H1 := Lib.hid h1
  have H2 := Lib.hid h2
  have HB1 := Lib.hid (below_new b1)
  clear h1 h2 b1
  go_wp2_with fail
  go_ret
  exact ⟨g1, g2, rfl, H1.out, H2.out, HB1.out⟩
set_option maxHeartbeats 4000000 in
set_option maxRecDepth 100000 in
theorem question_5 (nm : ByteArray) (v : Vl) (sp : Option Addr) (m sc : Nat) (w : World) : Calls Tryz.prog 51 #[.agg #[.string nm, .int .i64 5, .int .i64 v.k, .int .i64 v.n, .string v.s, .bool v.b, .slice sp m sc]] w (QuestR v (.func (.func 73) #[] #[]) w) := by
  have HC := Lib.hid (fun W => compared_any v 73 W)
  go_enter Tryz.func51, Tryz.ntmps51
  go_wp2_with fail
  refine (HC.out _).mono ?_; rintro e w1 ⟨g1, g2, rfl, h1, h2, b1⟩
  have H1 := Lib.hid h1
  have H2 := Lib.hid h2
  have HB1 := Lib.hid (below_new b1)
  clear h1 h2 b1
  go_wp2_with fail
  go_ret
  exact ⟨g1, g2, rfl, H1.out, H2.out, HB1.out⟩
set_option maxHeartbeats 4000000 in
set_option maxRecDepth 100000 in
theorem question_6 (nm : ByteArray) (v : Vl) (sp : Option Addr) (m sc : Nat) (w : World) : Calls Tryz.prog 51 #[.agg #[.string nm, .int .i64 6, .int .i64 v.k, .int .i64 v.n, .string v.s, .bool v.b, .slice sp m sc]] w (QuestR v (.func (.func 74) #[] #[]) w) := by
  have HC := Lib.hid (fun W => compared_any v 74 W)
  go_enter Tryz.func51, Tryz.ntmps51
  go_wp2_with fail
  refine (HC.out _).mono ?_; rintro e w1 ⟨g1, g2, rfl, h1, h2, b1⟩
  have H1 := Lib.hid h1
  have H2 := Lib.hid h2
  have HB1 := Lib.hid (below_new b1)
  clear h1 h2 b1
  go_wp2_with fail
  go_ret
  exact ⟨g1, g2, rfl, H1.out, H2.out, HB1.out⟩
set_option maxHeartbeats 4000000 in
set_option maxRecDepth 100000 in
theorem question_7 (nm : ByteArray) (v : Vl) (sp : Option Addr) (m sc : Nat) (w : World) : Calls Tryz.prog 51 #[.agg #[.string nm, .int .i64 7, .int .i64 v.k, .int .i64 v.n, .string v.s, .bool v.b, .slice sp m sc]] w (QuestR v (.func (.func 75) #[] #[]) w) := by
  have HC := Lib.hid (fun W => compared_any v 75 W)
  go_enter Tryz.func51, Tryz.ntmps51
  go_wp2_with fail
  refine (HC.out _).mono ?_; rintro e w1 ⟨g1, g2, rfl, h1, h2, b1⟩
  have H1 := Lib.hid h1
  have H2 := Lib.hid h2
  have HB1 := Lib.hid (below_new b1)
  clear h1 h2 b1
  go_wp2_with fail
  go_ret
  exact ⟨g1, g2, rfl, H1.out, H2.out, HB1.out⟩
set_option maxHeartbeats 4000000 in
set_option maxRecDepth 100000 in
theorem question_8 (nm : ByteArray) (v : Vl) (sp : Option Addr) (m sc : Nat) (w : World) : Calls Tryz.prog 51 #[.agg #[.string nm, .int .i64 8, .int .i64 v.k, .int .i64 v.n, .string v.s, .bool v.b, .slice sp m sc]] w (QuestP v w) := by
  have HC := Lib.hid (fun W => begun_any v W)
  go_enter Tryz.func51, Tryz.ntmps51
  go_wp2_with fail
  refine (HC.out _).mono ?_; rintro e w1 ⟨g1, rfl, h1, b1⟩
  have H1 := Lib.hid h1
  have HB1 := Lib.hid (below_new b1)
  clear h1 b1
  go_wp2_with fail
  go_ret
  exact ⟨g1, rfl, H1.out, HB1.out⟩
set_option maxHeartbeats 4000000 in
set_option maxRecDepth 100000 in
theorem question_9 (nm : ByteArray) (v : Vl) (sp : Option Addr) (m sc : Nat) (w : World) : Calls Tryz.prog 51 #[.agg #[.string nm, .int .i64 9, .int .i64 v.k, .int .i64 v.n, .string v.s, .bool v.b, .slice sp m sc]] w (QuestS (.slice sp m sc) w) := by
  have HC := Lib.hid (fun W => among_any sp m sc W)
  go_enter Tryz.func51, Tryz.ntmps51
  go_wp2_with fail
  refine (HC.out _).mono ?_; rintro e w1 ⟨g1, rfl, h1, b1⟩
  have H1 := Lib.hid h1
  have HB1 := Lib.hid (below_new b1)
  clear h1 b1
  go_wp2_with fail
  go_ret
  exact ⟨g1, rfl, H1.out, HB1.out⟩
set_option maxHeartbeats 4000000 in
set_option maxRecDepth 100000 in
theorem question_1 (nm : ByteArray) (v : Vl) (sp : Option Addr) (m sc : Nat) (w : World) : Calls Tryz.prog 51 #[.agg #[.string nm, .int .i64 1, .int .i64 v.k, .int .i64 v.n, .string v.s, .bool v.b, .slice sp m sc]] w (Gives (.func (.func 68) #[] #[]) w) := by
  go_enter Tryz.func51, Tryz.ntmps51
  go_wp2
  go_ret
  exact ⟨rfl, below_one _ _⟩
set_option maxHeartbeats 4000000 in
set_option maxRecDepth 100000 in
theorem question_0 (op : Int) (nm : ByteArray) (v : Vl) (sp : Option Addr) (m sc : Nat) (w : World) (ho : ¬ (1 ≤ op ∧ op ≤ 9)) : Calls Tryz.prog 51 #[.agg #[.string nm, .int .i64 op, .int .i64 v.k, .int .i64 v.n, .string v.s, .bool v.b, .slice sp m sc]] w (Gives (.func (.func 78) #[] #[]) w) := by
  have e1 : (op == 1) = false := by simp; omega
  have e2 : (op == 2) = false := by simp; omega
  have e3 : (op == 3) = false := by simp; omega
  have e4 : (op == 4) = false := by simp; omega
  have e5 : (op == 5) = false := by simp; omega
  have e6 : (op == 6) = false := by simp; omega
  have e7 : (op == 7) = false := by simp; omega
  have e8 : (op == 8) = false := by simp; omega
  have e9 : (op == 9) = false := by simp; omega
  clear ho
  go_enter Tryz.func51, Tryz.ntmps51
  go_wp2
  go_ret
  exact ⟨rfl, below_one _ _⟩
/-- A constraint and a value in their boxes, in whatever world comes later. -/
theorem box_hold {W : World} {g b : Nat} {x : Vl} {nm : ByteArray} {op : Int} {v : Vl} {sp : Option Addr} {m sc : Nat} (h1 : Blk W g 45 #[.string nm, .int .i64 op, .int .i64 v.k, .int .i64 v.n, .string v.s, .bool v.b, .slice sp m sc])
    (h2 : Blk W b 42 #[.int .i64 x.k, .int .i64 x.n, .string x.s, .bool x.b]) (w' : World) (h : Below W.heap.size W w') :
    Below W.heap.size W w' ∧ w'.cell? ⟨g, 0, none⟩ = some (.string nm) ∧ w'.cell? ⟨g, 1, none⟩ = some (.int .i64 op) ∧ w'.cell? ⟨g, 2, none⟩ = some (.int .i64 v.k) ∧ w'.cell? ⟨g, 3, none⟩ = some (.int .i64 v.n) ∧ w'.cell? ⟨g, 4, none⟩ = some (.string v.s) ∧ w'.cell? ⟨g, 5, none⟩ = some (.bool v.b) ∧ w'.cell? ⟨g, 6, none⟩ = some (.slice sp m sc) ∧ w'.cell? ⟨b, 0, none⟩ = some (.int .i64 x.k) ∧ w'.cell? ⟨b, 1, none⟩ = some (.int .i64 x.n) ∧ w'.cell? ⟨b, 2, none⟩ = some (.string x.s) ∧ w'.cell? ⟨b, 3, none⟩ = some (.bool x.b) := by
  have h1 := h1.later h
  have h2 := h2.later h
  exact ⟨h, h1.cell 0 rfl, h1.cell 1 rfl, h1.cell 2 rfl, h1.cell 3 rfl, h1.cell 4 rfl, h1.cell 5 rfl, h1.cell 6 rfl, h2.cell 0 rfl, h2.cell 1 rfl, h2.cell 2 rfl, h2.cell 3 rfl⟩
set_option maxHeartbeats 4000000 in
set_option maxRecDepth 100000 in
theorem holds_2 (nm : ByteArray) (v : Vl) (sp : Option Addr) (m sc : Nat) (w : World) (x : Vl) : Calls Tryz.prog 35 #[.agg #[.string nm, .int .i64 2, .int .i64 v.k, .int .i64 v.n, .string v.s, .bool v.b, .slice sp m sc], vv x] w (Gives (.bool (x.k == v.k && relOf 2 (cv x v))) w) := by
  obtain ⟨W0, hW0⟩ : ∃ W0, W0 = (w.alloc (.cells #[.string nm, .int .i64 2, .int .i64 v.k, .int .i64 v.n, .string v.s, .bool v.b, .slice sp m sc] 45)).alloc (.cells #[.int .i64 x.k, .int .i64 x.n, .string x.s, .bool x.b] 42) := ⟨_, rfl⟩
  have k1 : Blk W0 w.heap.size 45 #[.string nm, .int .i64 2, .int .i64 v.k, .int .i64 v.n, .string v.s, .bool v.b, .slice sp m sc] := by rw [hW0]; exact (Blk.new _ _ _).alloc _
  have k2 : Blk W0 (w.heap.size + 1) 42 #[.int .i64 x.k, .int .i64 x.n, .string x.s, .bool x.b] := by rw [hW0]; simpa using Blk.new (w.alloc (.cells #[.string nm, .int .i64 2, .int .i64 v.k, .int .i64 v.n, .string v.s, .bool v.b, .slice sp m sc] 45)) 42 #[.int .i64 x.k, .int .i64 x.n, .string x.s, .bool x.b]
  have hB0 : Below w.heap.size w W0 := by rw [hW0]; exact ((Below.refl _ w).alloc (Nat.le_refl _) _).alloc (by simp) _
  have HAll := Lib.hid (box_hold k1 k2)
  have HQ := Lib.hid (fun W => question_2 nm v sp m sc W)
  have HC := Lib.hid (fun g1 g2 W h h' => compared1_2 x v g1 g2 W h h')
  generalize (x.k == v.k && relOf 2 (cv x v)) = R at HC ⊢
  have HB0 := Lib.hid hB0
  have HW0 := Lib.hid hW0
  clear hB0 hW0 k1 k2
  go_enter Tryz.func35, Tryz.ntmps35
  go_wp2_with fail
  rw [← HW0.out]
  go_region_held3 (fun w' => Below W0.heap.size W0 w' ∧ w'.cell? ⟨w.heap.size, 0, none⟩ = some (.string nm) ∧ w'.cell? ⟨w.heap.size, 1, none⟩ = some (.int .i64 2) ∧ w'.cell? ⟨w.heap.size, 2, none⟩ = some (.int .i64 v.k) ∧ w'.cell? ⟨w.heap.size, 3, none⟩ = some (.int .i64 v.n) ∧ w'.cell? ⟨w.heap.size, 4, none⟩ = some (.string v.s) ∧ w'.cell? ⟨w.heap.size, 5, none⟩ = some (.bool v.b) ∧ w'.cell? ⟨w.heap.size, 6, none⟩ = some (.slice sp m sc) ∧ w'.cell? ⟨w.heap.size + 1, 0, none⟩ = some (.int .i64 x.k) ∧ w'.cell? ⟨w.heap.size + 1, 1, none⟩ = some (.int .i64 x.n) ∧ w'.cell? ⟨w.heap.size + 1, 2, none⟩ = some (.string x.s) ∧ w'.cell? ⟨w.heap.size + 1, 3, none⟩ = some (.bool x.b))
    (first | assumption | (refine HAll.out _ ?_; first | exact s22_call (by assumption) (by assumption) | exact (Below.refl _ _).drew | exact s22_alloc (by assumption) _))
    (first | (go_at_call 51; (with_reducible refine (HQ.out _).mono ?_); rintro e w6 ⟨g1, g2, rfl, h1, h2, b6⟩; have H1 := Lib.hid h1; have H2 := Lib.hid h2; clear h1 h2) | (go_at_call 105; (with_reducible refine (HC.out _ _ _ H1.out H2.out).mono ?_); rintro e w7 ⟨rfl, b7⟩))
  rename_i hh
  have HEnd := Lib.hid (then_ HB0.out hh.1)
  clear hh
  go_wp2_with fail
  go_ret
  exact ⟨rfl, HEnd.out⟩
set_option maxHeartbeats 4000000 in
set_option maxRecDepth 100000 in
theorem holds_3 (nm : ByteArray) (v : Vl) (sp : Option Addr) (m sc : Nat) (w : World) (x : Vl) : Calls Tryz.prog 35 #[.agg #[.string nm, .int .i64 3, .int .i64 v.k, .int .i64 v.n, .string v.s, .bool v.b, .slice sp m sc], vv x] w (Gives (.bool (x.k == v.k && relOf 3 (cv x v))) w) := by
  obtain ⟨W0, hW0⟩ : ∃ W0, W0 = (w.alloc (.cells #[.string nm, .int .i64 3, .int .i64 v.k, .int .i64 v.n, .string v.s, .bool v.b, .slice sp m sc] 45)).alloc (.cells #[.int .i64 x.k, .int .i64 x.n, .string x.s, .bool x.b] 42) := ⟨_, rfl⟩
  have k1 : Blk W0 w.heap.size 45 #[.string nm, .int .i64 3, .int .i64 v.k, .int .i64 v.n, .string v.s, .bool v.b, .slice sp m sc] := by rw [hW0]; exact (Blk.new _ _ _).alloc _
  have k2 : Blk W0 (w.heap.size + 1) 42 #[.int .i64 x.k, .int .i64 x.n, .string x.s, .bool x.b] := by rw [hW0]; simpa using Blk.new (w.alloc (.cells #[.string nm, .int .i64 3, .int .i64 v.k, .int .i64 v.n, .string v.s, .bool v.b, .slice sp m sc] 45)) 42 #[.int .i64 x.k, .int .i64 x.n, .string x.s, .bool x.b]
  have hB0 : Below w.heap.size w W0 := by rw [hW0]; exact ((Below.refl _ w).alloc (Nat.le_refl _) _).alloc (by simp) _
  have HAll := Lib.hid (box_hold k1 k2)
  have HQ := Lib.hid (fun W => question_3 nm v sp m sc W)
  have HC := Lib.hid (fun g1 g2 W h h' => compared1_3 x v g1 g2 W h h')
  generalize (x.k == v.k && relOf 3 (cv x v)) = R at HC ⊢
  have HB0 := Lib.hid hB0
  have HW0 := Lib.hid hW0
  clear hB0 hW0 k1 k2
  go_enter Tryz.func35, Tryz.ntmps35
  go_wp2_with fail
  rw [← HW0.out]
  go_region_held3 (fun w' => Below W0.heap.size W0 w' ∧ w'.cell? ⟨w.heap.size, 0, none⟩ = some (.string nm) ∧ w'.cell? ⟨w.heap.size, 1, none⟩ = some (.int .i64 3) ∧ w'.cell? ⟨w.heap.size, 2, none⟩ = some (.int .i64 v.k) ∧ w'.cell? ⟨w.heap.size, 3, none⟩ = some (.int .i64 v.n) ∧ w'.cell? ⟨w.heap.size, 4, none⟩ = some (.string v.s) ∧ w'.cell? ⟨w.heap.size, 5, none⟩ = some (.bool v.b) ∧ w'.cell? ⟨w.heap.size, 6, none⟩ = some (.slice sp m sc) ∧ w'.cell? ⟨w.heap.size + 1, 0, none⟩ = some (.int .i64 x.k) ∧ w'.cell? ⟨w.heap.size + 1, 1, none⟩ = some (.int .i64 x.n) ∧ w'.cell? ⟨w.heap.size + 1, 2, none⟩ = some (.string x.s) ∧ w'.cell? ⟨w.heap.size + 1, 3, none⟩ = some (.bool x.b))
    (first | assumption | (refine HAll.out _ ?_; first | exact s22_call (by assumption) (by assumption) | exact (Below.refl _ _).drew | exact s22_alloc (by assumption) _))
    (first | (go_at_call 51; (with_reducible refine (HQ.out _).mono ?_); rintro e w6 ⟨g1, g2, rfl, h1, h2, b6⟩; have H1 := Lib.hid h1; have H2 := Lib.hid h2; clear h1 h2) | (go_at_call 105; (with_reducible refine (HC.out _ _ _ H1.out H2.out).mono ?_); rintro e w7 ⟨rfl, b7⟩))
  rename_i hh
  have HEnd := Lib.hid (then_ HB0.out hh.1)
  clear hh
  go_wp2_with fail
  go_ret
  exact ⟨rfl, HEnd.out⟩
set_option maxHeartbeats 4000000 in
set_option maxRecDepth 100000 in
theorem holds_4 (nm : ByteArray) (v : Vl) (sp : Option Addr) (m sc : Nat) (w : World) (x : Vl) : Calls Tryz.prog 35 #[.agg #[.string nm, .int .i64 4, .int .i64 v.k, .int .i64 v.n, .string v.s, .bool v.b, .slice sp m sc], vv x] w (Gives (.bool (x.k == v.k && relOf 4 (cv x v))) w) := by
  obtain ⟨W0, hW0⟩ : ∃ W0, W0 = (w.alloc (.cells #[.string nm, .int .i64 4, .int .i64 v.k, .int .i64 v.n, .string v.s, .bool v.b, .slice sp m sc] 45)).alloc (.cells #[.int .i64 x.k, .int .i64 x.n, .string x.s, .bool x.b] 42) := ⟨_, rfl⟩
  have k1 : Blk W0 w.heap.size 45 #[.string nm, .int .i64 4, .int .i64 v.k, .int .i64 v.n, .string v.s, .bool v.b, .slice sp m sc] := by rw [hW0]; exact (Blk.new _ _ _).alloc _
  have k2 : Blk W0 (w.heap.size + 1) 42 #[.int .i64 x.k, .int .i64 x.n, .string x.s, .bool x.b] := by rw [hW0]; simpa using Blk.new (w.alloc (.cells #[.string nm, .int .i64 4, .int .i64 v.k, .int .i64 v.n, .string v.s, .bool v.b, .slice sp m sc] 45)) 42 #[.int .i64 x.k, .int .i64 x.n, .string x.s, .bool x.b]
  have hB0 : Below w.heap.size w W0 := by rw [hW0]; exact ((Below.refl _ w).alloc (Nat.le_refl _) _).alloc (by simp) _
  have HAll := Lib.hid (box_hold k1 k2)
  have HQ := Lib.hid (fun W => question_4 nm v sp m sc W)
  have HC := Lib.hid (fun g1 g2 W h h' => compared1_4 x v g1 g2 W h h')
  generalize (x.k == v.k && relOf 4 (cv x v)) = R at HC ⊢
  have HB0 := Lib.hid hB0
  have HW0 := Lib.hid hW0
  clear hB0 hW0 k1 k2
  go_enter Tryz.func35, Tryz.ntmps35
  go_wp2_with fail
  rw [← HW0.out]
  go_region_held3 (fun w' => Below W0.heap.size W0 w' ∧ w'.cell? ⟨w.heap.size, 0, none⟩ = some (.string nm) ∧ w'.cell? ⟨w.heap.size, 1, none⟩ = some (.int .i64 4) ∧ w'.cell? ⟨w.heap.size, 2, none⟩ = some (.int .i64 v.k) ∧ w'.cell? ⟨w.heap.size, 3, none⟩ = some (.int .i64 v.n) ∧ w'.cell? ⟨w.heap.size, 4, none⟩ = some (.string v.s) ∧ w'.cell? ⟨w.heap.size, 5, none⟩ = some (.bool v.b) ∧ w'.cell? ⟨w.heap.size, 6, none⟩ = some (.slice sp m sc) ∧ w'.cell? ⟨w.heap.size + 1, 0, none⟩ = some (.int .i64 x.k) ∧ w'.cell? ⟨w.heap.size + 1, 1, none⟩ = some (.int .i64 x.n) ∧ w'.cell? ⟨w.heap.size + 1, 2, none⟩ = some (.string x.s) ∧ w'.cell? ⟨w.heap.size + 1, 3, none⟩ = some (.bool x.b))
    (first | assumption | (refine HAll.out _ ?_; first | exact s22_call (by assumption) (by assumption) | exact (Below.refl _ _).drew | exact s22_alloc (by assumption) _))
    (first | (go_at_call 51; (with_reducible refine (HQ.out _).mono ?_); rintro e w6 ⟨g1, g2, rfl, h1, h2, b6⟩; have H1 := Lib.hid h1; have H2 := Lib.hid h2; clear h1 h2) | (go_at_call 105; (with_reducible refine (HC.out _ _ _ H1.out H2.out).mono ?_); rintro e w7 ⟨rfl, b7⟩))
  rename_i hh
  have HEnd := Lib.hid (then_ HB0.out hh.1)
  clear hh
  go_wp2_with fail
  go_ret
  exact ⟨rfl, HEnd.out⟩
set_option maxHeartbeats 4000000 in
set_option maxRecDepth 100000 in
theorem holds_5 (nm : ByteArray) (v : Vl) (sp : Option Addr) (m sc : Nat) (w : World) (x : Vl) : Calls Tryz.prog 35 #[.agg #[.string nm, .int .i64 5, .int .i64 v.k, .int .i64 v.n, .string v.s, .bool v.b, .slice sp m sc], vv x] w (Gives (.bool (x.k == v.k && relOf 5 (cv x v))) w) := by
  obtain ⟨W0, hW0⟩ : ∃ W0, W0 = (w.alloc (.cells #[.string nm, .int .i64 5, .int .i64 v.k, .int .i64 v.n, .string v.s, .bool v.b, .slice sp m sc] 45)).alloc (.cells #[.int .i64 x.k, .int .i64 x.n, .string x.s, .bool x.b] 42) := ⟨_, rfl⟩
  have k1 : Blk W0 w.heap.size 45 #[.string nm, .int .i64 5, .int .i64 v.k, .int .i64 v.n, .string v.s, .bool v.b, .slice sp m sc] := by rw [hW0]; exact (Blk.new _ _ _).alloc _
  have k2 : Blk W0 (w.heap.size + 1) 42 #[.int .i64 x.k, .int .i64 x.n, .string x.s, .bool x.b] := by rw [hW0]; simpa using Blk.new (w.alloc (.cells #[.string nm, .int .i64 5, .int .i64 v.k, .int .i64 v.n, .string v.s, .bool v.b, .slice sp m sc] 45)) 42 #[.int .i64 x.k, .int .i64 x.n, .string x.s, .bool x.b]
  have hB0 : Below w.heap.size w W0 := by rw [hW0]; exact ((Below.refl _ w).alloc (Nat.le_refl _) _).alloc (by simp) _
  have HAll := Lib.hid (box_hold k1 k2)
  have HQ := Lib.hid (fun W => question_5 nm v sp m sc W)
  have HC := Lib.hid (fun g1 g2 W h h' => compared1_5 x v g1 g2 W h h')
  generalize (x.k == v.k && relOf 5 (cv x v)) = R at HC ⊢
  have HB0 := Lib.hid hB0
  have HW0 := Lib.hid hW0
  clear hB0 hW0 k1 k2
  go_enter Tryz.func35, Tryz.ntmps35
  go_wp2_with fail
  rw [← HW0.out]
  go_region_held3 (fun w' => Below W0.heap.size W0 w' ∧ w'.cell? ⟨w.heap.size, 0, none⟩ = some (.string nm) ∧ w'.cell? ⟨w.heap.size, 1, none⟩ = some (.int .i64 5) ∧ w'.cell? ⟨w.heap.size, 2, none⟩ = some (.int .i64 v.k) ∧ w'.cell? ⟨w.heap.size, 3, none⟩ = some (.int .i64 v.n) ∧ w'.cell? ⟨w.heap.size, 4, none⟩ = some (.string v.s) ∧ w'.cell? ⟨w.heap.size, 5, none⟩ = some (.bool v.b) ∧ w'.cell? ⟨w.heap.size, 6, none⟩ = some (.slice sp m sc) ∧ w'.cell? ⟨w.heap.size + 1, 0, none⟩ = some (.int .i64 x.k) ∧ w'.cell? ⟨w.heap.size + 1, 1, none⟩ = some (.int .i64 x.n) ∧ w'.cell? ⟨w.heap.size + 1, 2, none⟩ = some (.string x.s) ∧ w'.cell? ⟨w.heap.size + 1, 3, none⟩ = some (.bool x.b))
    (first | assumption | (refine HAll.out _ ?_; first | exact s22_call (by assumption) (by assumption) | exact (Below.refl _ _).drew | exact s22_alloc (by assumption) _))
    (first | (go_at_call 51; (with_reducible refine (HQ.out _).mono ?_); rintro e w6 ⟨g1, g2, rfl, h1, h2, b6⟩; have H1 := Lib.hid h1; have H2 := Lib.hid h2; clear h1 h2) | (go_at_call 105; (with_reducible refine (HC.out _ _ _ H1.out H2.out).mono ?_); rintro e w7 ⟨rfl, b7⟩))
  rename_i hh
  have HEnd := Lib.hid (then_ HB0.out hh.1)
  clear hh
  go_wp2_with fail
  go_ret
  exact ⟨rfl, HEnd.out⟩
set_option maxHeartbeats 4000000 in
set_option maxRecDepth 100000 in
theorem holds_6 (nm : ByteArray) (v : Vl) (sp : Option Addr) (m sc : Nat) (w : World) (x : Vl) : Calls Tryz.prog 35 #[.agg #[.string nm, .int .i64 6, .int .i64 v.k, .int .i64 v.n, .string v.s, .bool v.b, .slice sp m sc], vv x] w (Gives (.bool (x.k == v.k && relOf 6 (cv x v))) w) := by
  obtain ⟨W0, hW0⟩ : ∃ W0, W0 = (w.alloc (.cells #[.string nm, .int .i64 6, .int .i64 v.k, .int .i64 v.n, .string v.s, .bool v.b, .slice sp m sc] 45)).alloc (.cells #[.int .i64 x.k, .int .i64 x.n, .string x.s, .bool x.b] 42) := ⟨_, rfl⟩
  have k1 : Blk W0 w.heap.size 45 #[.string nm, .int .i64 6, .int .i64 v.k, .int .i64 v.n, .string v.s, .bool v.b, .slice sp m sc] := by rw [hW0]; exact (Blk.new _ _ _).alloc _
  have k2 : Blk W0 (w.heap.size + 1) 42 #[.int .i64 x.k, .int .i64 x.n, .string x.s, .bool x.b] := by rw [hW0]; simpa using Blk.new (w.alloc (.cells #[.string nm, .int .i64 6, .int .i64 v.k, .int .i64 v.n, .string v.s, .bool v.b, .slice sp m sc] 45)) 42 #[.int .i64 x.k, .int .i64 x.n, .string x.s, .bool x.b]
  have hB0 : Below w.heap.size w W0 := by rw [hW0]; exact ((Below.refl _ w).alloc (Nat.le_refl _) _).alloc (by simp) _
  have HAll := Lib.hid (box_hold k1 k2)
  have HQ := Lib.hid (fun W => question_6 nm v sp m sc W)
  have HC := Lib.hid (fun g1 g2 W h h' => compared1_6 x v g1 g2 W h h')
  generalize (x.k == v.k && relOf 6 (cv x v)) = R at HC ⊢
  have HB0 := Lib.hid hB0
  have HW0 := Lib.hid hW0
  clear hB0 hW0 k1 k2
  go_enter Tryz.func35, Tryz.ntmps35
  go_wp2_with fail
  rw [← HW0.out]
  go_region_held3 (fun w' => Below W0.heap.size W0 w' ∧ w'.cell? ⟨w.heap.size, 0, none⟩ = some (.string nm) ∧ w'.cell? ⟨w.heap.size, 1, none⟩ = some (.int .i64 6) ∧ w'.cell? ⟨w.heap.size, 2, none⟩ = some (.int .i64 v.k) ∧ w'.cell? ⟨w.heap.size, 3, none⟩ = some (.int .i64 v.n) ∧ w'.cell? ⟨w.heap.size, 4, none⟩ = some (.string v.s) ∧ w'.cell? ⟨w.heap.size, 5, none⟩ = some (.bool v.b) ∧ w'.cell? ⟨w.heap.size, 6, none⟩ = some (.slice sp m sc) ∧ w'.cell? ⟨w.heap.size + 1, 0, none⟩ = some (.int .i64 x.k) ∧ w'.cell? ⟨w.heap.size + 1, 1, none⟩ = some (.int .i64 x.n) ∧ w'.cell? ⟨w.heap.size + 1, 2, none⟩ = some (.string x.s) ∧ w'.cell? ⟨w.heap.size + 1, 3, none⟩ = some (.bool x.b))
    (first | assumption | (refine HAll.out _ ?_; first | exact s22_call (by assumption) (by assumption) | exact (Below.refl _ _).drew | exact s22_alloc (by assumption) _))
    (first | (go_at_call 51; (with_reducible refine (HQ.out _).mono ?_); rintro e w6 ⟨g1, g2, rfl, h1, h2, b6⟩; have H1 := Lib.hid h1; have H2 := Lib.hid h2; clear h1 h2) | (go_at_call 105; (with_reducible refine (HC.out _ _ _ H1.out H2.out).mono ?_); rintro e w7 ⟨rfl, b7⟩))
  rename_i hh
  have HEnd := Lib.hid (then_ HB0.out hh.1)
  clear hh
  go_wp2_with fail
  go_ret
  exact ⟨rfl, HEnd.out⟩
set_option maxHeartbeats 4000000 in
set_option maxRecDepth 100000 in
theorem holds_7 (nm : ByteArray) (v : Vl) (sp : Option Addr) (m sc : Nat) (w : World) (x : Vl) : Calls Tryz.prog 35 #[.agg #[.string nm, .int .i64 7, .int .i64 v.k, .int .i64 v.n, .string v.s, .bool v.b, .slice sp m sc], vv x] w (Gives (.bool (x.k == v.k && relOf 7 (cv x v))) w) := by
  obtain ⟨W0, hW0⟩ : ∃ W0, W0 = (w.alloc (.cells #[.string nm, .int .i64 7, .int .i64 v.k, .int .i64 v.n, .string v.s, .bool v.b, .slice sp m sc] 45)).alloc (.cells #[.int .i64 x.k, .int .i64 x.n, .string x.s, .bool x.b] 42) := ⟨_, rfl⟩
  have k1 : Blk W0 w.heap.size 45 #[.string nm, .int .i64 7, .int .i64 v.k, .int .i64 v.n, .string v.s, .bool v.b, .slice sp m sc] := by rw [hW0]; exact (Blk.new _ _ _).alloc _
  have k2 : Blk W0 (w.heap.size + 1) 42 #[.int .i64 x.k, .int .i64 x.n, .string x.s, .bool x.b] := by rw [hW0]; simpa using Blk.new (w.alloc (.cells #[.string nm, .int .i64 7, .int .i64 v.k, .int .i64 v.n, .string v.s, .bool v.b, .slice sp m sc] 45)) 42 #[.int .i64 x.k, .int .i64 x.n, .string x.s, .bool x.b]
  have hB0 : Below w.heap.size w W0 := by rw [hW0]; exact ((Below.refl _ w).alloc (Nat.le_refl _) _).alloc (by simp) _
  have HAll := Lib.hid (box_hold k1 k2)
  have HQ := Lib.hid (fun W => question_7 nm v sp m sc W)
  have HC := Lib.hid (fun g1 g2 W h h' => compared1_7 x v g1 g2 W h h')
  generalize (x.k == v.k && relOf 7 (cv x v)) = R at HC ⊢
  have HB0 := Lib.hid hB0
  have HW0 := Lib.hid hW0
  clear hB0 hW0 k1 k2
  go_enter Tryz.func35, Tryz.ntmps35
  go_wp2_with fail
  rw [← HW0.out]
  go_region_held3 (fun w' => Below W0.heap.size W0 w' ∧ w'.cell? ⟨w.heap.size, 0, none⟩ = some (.string nm) ∧ w'.cell? ⟨w.heap.size, 1, none⟩ = some (.int .i64 7) ∧ w'.cell? ⟨w.heap.size, 2, none⟩ = some (.int .i64 v.k) ∧ w'.cell? ⟨w.heap.size, 3, none⟩ = some (.int .i64 v.n) ∧ w'.cell? ⟨w.heap.size, 4, none⟩ = some (.string v.s) ∧ w'.cell? ⟨w.heap.size, 5, none⟩ = some (.bool v.b) ∧ w'.cell? ⟨w.heap.size, 6, none⟩ = some (.slice sp m sc) ∧ w'.cell? ⟨w.heap.size + 1, 0, none⟩ = some (.int .i64 x.k) ∧ w'.cell? ⟨w.heap.size + 1, 1, none⟩ = some (.int .i64 x.n) ∧ w'.cell? ⟨w.heap.size + 1, 2, none⟩ = some (.string x.s) ∧ w'.cell? ⟨w.heap.size + 1, 3, none⟩ = some (.bool x.b))
    (first | assumption | (refine HAll.out _ ?_; first | exact s22_call (by assumption) (by assumption) | exact (Below.refl _ _).drew | exact s22_alloc (by assumption) _))
    (first | (go_at_call 51; (with_reducible refine (HQ.out _).mono ?_); rintro e w6 ⟨g1, g2, rfl, h1, h2, b6⟩; have H1 := Lib.hid h1; have H2 := Lib.hid h2; clear h1 h2) | (go_at_call 105; (with_reducible refine (HC.out _ _ _ H1.out H2.out).mono ?_); rintro e w7 ⟨rfl, b7⟩))
  rename_i hh
  have HEnd := Lib.hid (then_ HB0.out hh.1)
  clear hh
  go_wp2_with fail
  go_ret
  exact ⟨rfl, HEnd.out⟩
set_option maxHeartbeats 4000000 in
set_option maxRecDepth 100000 in
theorem holds_8 (nm : ByteArray) (v : Vl) (sp : Option Addr) (m sc : Nat) (w : World) (x : Vl) : Calls Tryz.prog 35 #[.agg #[.string nm, .int .i64 8, .int .i64 v.k, .int .i64 v.n, .string v.s, .bool v.b, .slice sp m sc], vv x] w (Gives (.bool (beginsB x v)) w) := by
  obtain ⟨W0, hW0⟩ : ∃ W0, W0 = (w.alloc (.cells #[.string nm, .int .i64 8, .int .i64 v.k, .int .i64 v.n, .string v.s, .bool v.b, .slice sp m sc] 45)).alloc (.cells #[.int .i64 x.k, .int .i64 x.n, .string x.s, .bool x.b] 42) := ⟨_, rfl⟩
  have k1 : Blk W0 w.heap.size 45 #[.string nm, .int .i64 8, .int .i64 v.k, .int .i64 v.n, .string v.s, .bool v.b, .slice sp m sc] := by rw [hW0]; exact (Blk.new _ _ _).alloc _
  have k2 : Blk W0 (w.heap.size + 1) 42 #[.int .i64 x.k, .int .i64 x.n, .string x.s, .bool x.b] := by rw [hW0]; simpa using Blk.new (w.alloc (.cells #[.string nm, .int .i64 8, .int .i64 v.k, .int .i64 v.n, .string v.s, .bool v.b, .slice sp m sc] 45)) 42 #[.int .i64 x.k, .int .i64 x.n, .string x.s, .bool x.b]
  have hB0 : Below w.heap.size w W0 := by rw [hW0]; exact ((Below.refl _ w).alloc (Nat.le_refl _) _).alloc (by simp) _
  have HAll := Lib.hid (box_hold k1 k2)
  have HQ := Lib.hid (fun W => question_8 nm v sp m sc W)
  have HC := Lib.hid (fun g1 W h => begun1 x v g1 W h)
  generalize beginsB x v = R at HC ⊢
  have HB0 := Lib.hid hB0
  have HW0 := Lib.hid hW0
  clear hB0 hW0 k1 k2
  go_enter Tryz.func35, Tryz.ntmps35
  go_wp2_with fail
  rw [← HW0.out]
  go_region_held3 (fun w' => Below W0.heap.size W0 w' ∧ w'.cell? ⟨w.heap.size, 0, none⟩ = some (.string nm) ∧ w'.cell? ⟨w.heap.size, 1, none⟩ = some (.int .i64 8) ∧ w'.cell? ⟨w.heap.size, 2, none⟩ = some (.int .i64 v.k) ∧ w'.cell? ⟨w.heap.size, 3, none⟩ = some (.int .i64 v.n) ∧ w'.cell? ⟨w.heap.size, 4, none⟩ = some (.string v.s) ∧ w'.cell? ⟨w.heap.size, 5, none⟩ = some (.bool v.b) ∧ w'.cell? ⟨w.heap.size, 6, none⟩ = some (.slice sp m sc) ∧ w'.cell? ⟨w.heap.size + 1, 0, none⟩ = some (.int .i64 x.k) ∧ w'.cell? ⟨w.heap.size + 1, 1, none⟩ = some (.int .i64 x.n) ∧ w'.cell? ⟨w.heap.size + 1, 2, none⟩ = some (.string x.s) ∧ w'.cell? ⟨w.heap.size + 1, 3, none⟩ = some (.bool x.b))
    (first | assumption | (refine HAll.out _ ?_; first | exact s22_call (by assumption) (by assumption) | exact (Below.refl _ _).drew | exact s22_alloc (by assumption) _))
    (first | (go_at_call 51; (with_reducible refine (HQ.out _).mono ?_); rintro e w6 ⟨g1, rfl, h1, b6⟩; have H1 := Lib.hid h1; clear h1) | (go_at_call 107; (with_reducible refine (HC.out _ _ H1.out).mono ?_); rintro e w7 ⟨rfl, b7⟩))
  rename_i hh
  have HEnd := Lib.hid (then_ HB0.out hh.1)
  clear hh
  go_wp2_with fail
  go_ret
  exact ⟨rfl, HEnd.out⟩
set_option maxHeartbeats 4000000 in
set_option maxRecDepth 100000 in
theorem holds_1 (nm : ByteArray) (v : Vl) (sp : Option Addr) (m sc : Nat) (w : World) (x : Vl) : Calls Tryz.prog 35 #[.agg #[.string nm, .int .i64 1, .int .i64 v.k, .int .i64 v.n, .string v.s, .bool v.b, .slice sp m sc], vv x] w (Gives (.bool (true)) w) := by
  obtain ⟨W0, hW0⟩ : ∃ W0, W0 = (w.alloc (.cells #[.string nm, .int .i64 1, .int .i64 v.k, .int .i64 v.n, .string v.s, .bool v.b, .slice sp m sc] 45)).alloc (.cells #[.int .i64 x.k, .int .i64 x.n, .string x.s, .bool x.b] 42) := ⟨_, rfl⟩
  have k1 : Blk W0 w.heap.size 45 #[.string nm, .int .i64 1, .int .i64 v.k, .int .i64 v.n, .string v.s, .bool v.b, .slice sp m sc] := by rw [hW0]; exact (Blk.new _ _ _).alloc _
  have k2 : Blk W0 (w.heap.size + 1) 42 #[.int .i64 x.k, .int .i64 x.n, .string x.s, .bool x.b] := by rw [hW0]; simpa using Blk.new (w.alloc (.cells #[.string nm, .int .i64 1, .int .i64 v.k, .int .i64 v.n, .string v.s, .bool v.b, .slice sp m sc] 45)) 42 #[.int .i64 x.k, .int .i64 x.n, .string x.s, .bool x.b]
  have hB0 : Below w.heap.size w W0 := by rw [hW0]; exact ((Below.refl _ w).alloc (Nat.le_refl _) _).alloc (by simp) _
  have HAll := Lib.hid (box_hold k1 k2)
  have HQ := Lib.hid (fun W => question_1 nm v sp m sc W)
  have HC := Lib.hid (fun W => always1 x W)
  have HB0 := Lib.hid hB0
  have HW0 := Lib.hid hW0
  clear hB0 hW0 k1 k2
  go_enter Tryz.func35, Tryz.ntmps35
  go_wp2_with fail
  rw [← HW0.out]
  go_region_held3 (fun w' => Below W0.heap.size W0 w' ∧ w'.cell? ⟨w.heap.size, 0, none⟩ = some (.string nm) ∧ w'.cell? ⟨w.heap.size, 1, none⟩ = some (.int .i64 1) ∧ w'.cell? ⟨w.heap.size, 2, none⟩ = some (.int .i64 v.k) ∧ w'.cell? ⟨w.heap.size, 3, none⟩ = some (.int .i64 v.n) ∧ w'.cell? ⟨w.heap.size, 4, none⟩ = some (.string v.s) ∧ w'.cell? ⟨w.heap.size, 5, none⟩ = some (.bool v.b) ∧ w'.cell? ⟨w.heap.size, 6, none⟩ = some (.slice sp m sc) ∧ w'.cell? ⟨w.heap.size + 1, 0, none⟩ = some (.int .i64 x.k) ∧ w'.cell? ⟨w.heap.size + 1, 1, none⟩ = some (.int .i64 x.n) ∧ w'.cell? ⟨w.heap.size + 1, 2, none⟩ = some (.string x.s) ∧ w'.cell? ⟨w.heap.size + 1, 3, none⟩ = some (.bool x.b))
    (first | assumption | (refine HAll.out _ ?_; first | exact s22_call (by assumption) (by assumption) | exact (Below.refl _ _).drew | exact s22_alloc (by assumption) _))
    (first | (go_at_call 51; (with_reducible refine (HQ.out _).mono ?_); rintro e w6 ⟨rfl, b6⟩) | (go_at_call 68; (with_reducible refine (HC.out _).mono ?_); rintro e w7 ⟨rfl, b7⟩))
  rename_i hh
  have HEnd := Lib.hid (then_ HB0.out hh.1)
  clear hh
  go_wp2_with fail
  go_ret
  exact ⟨rfl, HEnd.out⟩
set_option maxHeartbeats 4000000 in
set_option maxRecDepth 100000 in
theorem holds_0 (op : Int) (nm : ByteArray) (v : Vl) (sp : Option Addr) (m sc : Nat) (w : World) (x : Vl) (ho : ¬ (1 ≤ op ∧ op ≤ 9)) : Calls Tryz.prog 35 #[.agg #[.string nm, .int .i64 op, .int .i64 v.k, .int .i64 v.n, .string v.s, .bool v.b, .slice sp m sc], vv x] w (Gives (.bool (false)) w) := by
  obtain ⟨W0, hW0⟩ : ∃ W0, W0 = (w.alloc (.cells #[.string nm, .int .i64 op, .int .i64 v.k, .int .i64 v.n, .string v.s, .bool v.b, .slice sp m sc] 45)).alloc (.cells #[.int .i64 x.k, .int .i64 x.n, .string x.s, .bool x.b] 42) := ⟨_, rfl⟩
  have k1 : Blk W0 w.heap.size 45 #[.string nm, .int .i64 op, .int .i64 v.k, .int .i64 v.n, .string v.s, .bool v.b, .slice sp m sc] := by rw [hW0]; exact (Blk.new _ _ _).alloc _
  have k2 : Blk W0 (w.heap.size + 1) 42 #[.int .i64 x.k, .int .i64 x.n, .string x.s, .bool x.b] := by rw [hW0]; simpa using Blk.new (w.alloc (.cells #[.string nm, .int .i64 op, .int .i64 v.k, .int .i64 v.n, .string v.s, .bool v.b, .slice sp m sc] 45)) 42 #[.int .i64 x.k, .int .i64 x.n, .string x.s, .bool x.b]
  have hB0 : Below w.heap.size w W0 := by rw [hW0]; exact ((Below.refl _ w).alloc (Nat.le_refl _) _).alloc (by simp) _
  have HAll := Lib.hid (box_hold k1 k2)
  have HQ := Lib.hid (fun W => question_0 op nm v sp m sc W ho)
  have HC := Lib.hid (fun W => never1 x W)
  clear ho
  have HB0 := Lib.hid hB0
  have HW0 := Lib.hid hW0
  clear hB0 hW0 k1 k2
  go_enter Tryz.func35, Tryz.ntmps35
  go_wp2_with fail
  rw [← HW0.out]
  go_region_held3 (fun w' => Below W0.heap.size W0 w' ∧ w'.cell? ⟨w.heap.size, 0, none⟩ = some (.string nm) ∧ w'.cell? ⟨w.heap.size, 1, none⟩ = some (.int .i64 op) ∧ w'.cell? ⟨w.heap.size, 2, none⟩ = some (.int .i64 v.k) ∧ w'.cell? ⟨w.heap.size, 3, none⟩ = some (.int .i64 v.n) ∧ w'.cell? ⟨w.heap.size, 4, none⟩ = some (.string v.s) ∧ w'.cell? ⟨w.heap.size, 5, none⟩ = some (.bool v.b) ∧ w'.cell? ⟨w.heap.size, 6, none⟩ = some (.slice sp m sc) ∧ w'.cell? ⟨w.heap.size + 1, 0, none⟩ = some (.int .i64 x.k) ∧ w'.cell? ⟨w.heap.size + 1, 1, none⟩ = some (.int .i64 x.n) ∧ w'.cell? ⟨w.heap.size + 1, 2, none⟩ = some (.string x.s) ∧ w'.cell? ⟨w.heap.size + 1, 3, none⟩ = some (.bool x.b))
    (first | assumption | (refine HAll.out _ ?_; first | exact s22_call (by assumption) (by assumption) | exact (Below.refl _ _).drew | exact s22_alloc (by assumption) _))
    (first | (go_at_call 51; (with_reducible refine (HQ.out _).mono ?_); rintro e w6 ⟨rfl, b6⟩) | (go_at_call 78; (with_reducible refine (HC.out _).mono ?_); rintro e w7 ⟨rfl, b7⟩))
  rename_i hh
  have HEnd := Lib.hid (then_ HB0.out hh.1)
  clear hh
  go_wp2_with fail
  go_ret
  exact ⟨rfl, HEnd.out⟩
set_option maxHeartbeats 4000000 in
set_option maxRecDepth 100000 in
theorem holds_9 (nm : ByteArray) (v : Vl) (sp : Option Addr) (m sc : Nat) (w : World) (x : Vl) (l : List Vl) (hm : m = l.length) (hS : Vs w (.slice sp l.length sc) l) : Calls Tryz.prog 35 #[.agg #[.string nm, .int .i64 9, .int .i64 v.k, .int .i64 v.n, .string v.s, .bool v.b, .slice sp m sc], vv x] w (Gives (.bool (l.any fun y => cv x y == 0)) w) := by
  obtain ⟨W0, hW0⟩ : ∃ W0, W0 = (w.alloc (.cells #[.string nm, .int .i64 9, .int .i64 v.k, .int .i64 v.n, .string v.s, .bool v.b, .slice sp m sc] 45)).alloc (.cells #[.int .i64 x.k, .int .i64 x.n, .string x.s, .bool x.b] 42) := ⟨_, rfl⟩
  have k1 : Blk W0 w.heap.size 45 #[.string nm, .int .i64 9, .int .i64 v.k, .int .i64 v.n, .string v.s, .bool v.b, .slice sp m sc] := by rw [hW0]; exact (Blk.new _ _ _).alloc _
  have k2 : Blk W0 (w.heap.size + 1) 42 #[.int .i64 x.k, .int .i64 x.n, .string x.s, .bool x.b] := by rw [hW0]; simpa using Blk.new (w.alloc (.cells #[.string nm, .int .i64 9, .int .i64 v.k, .int .i64 v.n, .string v.s, .bool v.b, .slice sp m sc] 45)) 42 #[.int .i64 x.k, .int .i64 x.n, .string x.s, .bool x.b]
  have hB0 : Below w.heap.size w W0 := by rw [hW0]; exact ((Below.refl _ w).alloc (Nat.le_refl _) _).alloc (by simp) _
  have HAll := Lib.hid (box_hold k1 k2)
  have HQ := Lib.hid (fun W => question_9 nm v sp m sc W)
  have HS := Lib.hid (hS.later hB0)
  subst hm
  have HC := Lib.hid (fun g1 W h h' => among1 x sp sc l g1 W h h')
  generalize (l.any fun y => cv x y == 0) = R at HC ⊢
  clear hS
  have HB0 := Lib.hid hB0
  have HW0 := Lib.hid hW0
  clear hB0 hW0 k1 k2
  go_enter Tryz.func35, Tryz.ntmps35
  go_wp2_with fail
  rw [← HW0.out]
  go_region_held3 (fun w' => Below W0.heap.size W0 w' ∧ w'.cell? ⟨w.heap.size, 0, none⟩ = some (.string nm) ∧ w'.cell? ⟨w.heap.size, 1, none⟩ = some (.int .i64 9) ∧ w'.cell? ⟨w.heap.size, 2, none⟩ = some (.int .i64 v.k) ∧ w'.cell? ⟨w.heap.size, 3, none⟩ = some (.int .i64 v.n) ∧ w'.cell? ⟨w.heap.size, 4, none⟩ = some (.string v.s) ∧ w'.cell? ⟨w.heap.size, 5, none⟩ = some (.bool v.b) ∧ w'.cell? ⟨w.heap.size, 6, none⟩ = some (.slice sp l.length sc) ∧ w'.cell? ⟨w.heap.size + 1, 0, none⟩ = some (.int .i64 x.k) ∧ w'.cell? ⟨w.heap.size + 1, 1, none⟩ = some (.int .i64 x.n) ∧ w'.cell? ⟨w.heap.size + 1, 2, none⟩ = some (.string x.s) ∧ w'.cell? ⟨w.heap.size + 1, 3, none⟩ = some (.bool x.b))
    (first | assumption | (refine HAll.out _ ?_; first | exact s22_call (by assumption) (by assumption) | exact (Below.refl _ _).drew | exact s22_alloc (by assumption) _))
    (first | (go_at_call 51; (with_reducible refine (HQ.out _).mono ?_); rintro e w6 ⟨g1, rfl, h1, b6⟩; have H1 := Lib.hid h1; have HS6 := Lib.hid (HS.out.later (s22_call (by assumption) b6)); clear h1) | (go_at_call 109; (with_reducible refine (HC.out _ _ HS6.out H1.out).mono ?_); rintro e w7 ⟨rfl, b7⟩))
  rename_i hh
  have HEnd := Lib.hid (then_ HB0.out hh.1)
  clear hh
  go_wp2_with fail
  go_ret
  exact ⟨rfl, HEnd.out⟩
theorem holds_any (c : Cn) (x : Vl) (w : World) (hS : Vs w c.sv c.set) : Calls Tryz.prog 35 #[cc c, vv x] w (Gives (.bool (holdsB c x)) w) := by
  obtain ⟨nm, op, v, sp, sc, l⟩ := c
  by_cases o1 : op = 1
  · subst o1
    exact holds_1 nm v sp l.length sc w x
  by_cases o9 : op = 9
  · subst o9
    exact holds_9 nm v sp l.length sc w x l rfl hS
  by_cases o27 : 2 ≤ op ∧ op ≤ 7
  · rw [show holdsB ⟨nm, op, v, sp, sc, l⟩ x = (x.k == v.k && relOf op (cv x v)) by simp only [holdsB, if_neg o1, if_neg o9, if_pos o27]]
    have ho : op = 2 ∨ op = 3 ∨ op = 4 ∨ op = 5 ∨ op = 6 ∨ op = 7 := by omega
    rcases ho with rfl | rfl | rfl | rfl | rfl | rfl
    · exact holds_2 nm v sp l.length sc w x
    · exact holds_3 nm v sp l.length sc w x
    · exact holds_4 nm v sp l.length sc w x
    · exact holds_5 nm v sp l.length sc w x
    · exact holds_6 nm v sp l.length sc w x
    · exact holds_7 nm v sp l.length sc w x
  by_cases o8 : op = 8
  · subst o8
    exact holds_8 nm v sp l.length sc w x
  · rw [show holdsB ⟨nm, op, v, sp, sc, l⟩ x = false by simp only [holdsB, if_neg o1, if_neg o9, if_neg o27, if_neg o8]]
    exact holds_0 op nm v sp l.length sc w x (by omega)
end Go.Proofs.YtlnjmcodgdebmaaGreat.Gm
