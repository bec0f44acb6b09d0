/- The contracts of the questions that package pred makes of a constraint. -/
import Derived.Test.YtlnjmcodgdebmaaGreatKh
set_option linter.unusedSimpArgs false
set_option linter.unusedVariables false
namespace Go.Proofs.YtlnjmcodgdebmaaGreat.Gm
open Go Go.RowKit
attribute [local go_sem ↓] Go.wp_at_zero Go.wp_at_succ

/-- How two values stand. -/
def cv (x y : Vl) : Int := cmpV x.k x.n x.s x.b y.k y.n y.s y.b
/-- What each of Eq to Ge asks of the order. -/
def relOf (op r : Int) : Bool := if op = 2 then r == 0 else if op = 3 then r != 0 else if op = 4 then decide (r < 0) else if op = 5 then decide (r ≤ 0) else if op = 6 then decide (0 < r) else decide (0 ≤ r)
theorem two_hold {W : World} {g b : Nat} {x y : Vl} (h1 : Four W g 0 x) (h2 : Four W b 0 y) {a : Addr} {u : Value} (h3 : W.cell? a = some u) (w' : World) (h : Below W.heap.size W w') :
    Below W.heap.size W w' ∧ w'.cell? ⟨g, 0, none⟩ = some (.int .i64 x.k) ∧ w'.cell? ⟨g, 1, none⟩ = some (.int .i64 x.n) ∧ w'.cell? ⟨g, 2, none⟩ = some (.string x.s) ∧ w'.cell? ⟨g, 3, none⟩ = some (.bool x.b) ∧
      w'.cell? ⟨b, 0, none⟩ = some (.int .i64 y.k) ∧ w'.cell? ⟨b, 1, none⟩ = some (.int .i64 y.n) ∧ w'.cell? ⟨b, 2, none⟩ = some (.string y.s) ∧ w'.cell? ⟨b, 3, none⟩ = some (.bool y.b) ∧ w'.cell? a = some u := by
  obtain ⟨a0, a1, a2, a3⟩ := h1.later h
  obtain ⟨b0, b1, b2, b3⟩ := h2.later h
  exact ⟨h, a0, a1, a2, a3, b0, b1, b2, b3, cell_later h h3⟩
theorem ask2 (r : Int) (w : World) : Calls Tryz.prog 70 #[.int .i64 r] w (Quits (.bool (r == 0)) w) := by
  go_enter Tryz.func70, Tryz.ntmps70
  go_wp2
  go_ret
  exact ⟨rfl, rfl⟩
theorem ask3 (r : Int) (w : World) : Calls Tryz.prog 71 #[.int .i64 r] w (Quits (.bool (r != 0)) w) := by
  go_enter Tryz.func71, Tryz.ntmps71
  go_wp2
  go_ret
  exact ⟨rfl, rfl⟩
theorem ask4 (r : Int) (w : World) : Calls Tryz.prog 72 #[.int .i64 r] w (Quits (.bool (decide (r < 0))) w) := by
  go_enter Tryz.func72, Tryz.ntmps72
  go_wp2
  go_ret
  exact ⟨rfl, rfl⟩
theorem ask5 (r : Int) (w : World) : Calls Tryz.prog 73 #[.int .i64 r] w (Quits (.bool (decide (r ≤ 0))) w) := by
  go_enter Tryz.func73, Tryz.ntmps73
  go_wp2
  go_ret
  exact ⟨rfl, rfl⟩
theorem ask6 (r : Int) (w : World) : Calls Tryz.prog 74 #[.int .i64 r] w (Quits (.bool (decide (0 < r))) w) := by
  go_enter Tryz.func74, Tryz.ntmps74
  go_wp2
  go_ret
  exact ⟨rfl, rfl⟩
theorem ask7 (r : Int) (w : World) : Calls Tryz.prog 75 #[.int .i64 r] w (Quits (.bool (decide (0 ≤ r))) w) := by
  go_enter Tryz.func75, Tryz.ntmps75
  go_wp2
  go_ret
  exact ⟨rfl, rfl⟩
set_option maxHeartbeats 4000000 in
set_option maxRecDepth 100000 in
theorem compared1_2 (x own : Vl) (g1 g2 : Nat) (w : World) (h1 : Four w g1 0 own) (h2 : w.cell? ⟨g2, 0, none⟩ = some (.func (.func 70) #[] #[])) :
    Calls Tryz.prog 105 #[vv x, .pointer (some ⟨g1, 0, none⟩), .pointer (some ⟨g2, 0, none⟩)] w (Gives (.bool (x.k == own.k && relOf 2 (cv x own))) w) := by
  obtain ⟨W0, hW0⟩ : ∃ W0, W0 = w.alloc (.cells #[.int .i64 x.k, .int .i64 x.n, .string x.s, .bool x.b] 42) := ⟨_, rfl⟩
  have hB0 : Below w.heap.size w W0 := by rw [hW0]; exact below_one _ _
  have hx : Blk W0 w.heap.size 42 #[.int .i64 x.k, .int .i64 x.n, .string x.s, .bool x.b] := by rw [hW0]; exact Blk.new _ _ _
  have hAll := two_hold (x := x) ⟨hx.cell 0 rfl, hx.cell 1 rfl, hx.cell 2 rfl, hx.cell 3 rfl⟩ (h1.later hB0) (cell_later hB0 h2)
  have HC := Lib.hid (fun W => compare_any x.k x.n x.s x.b own.k own.n own.s own.b W)
  have HA := Lib.hid (fun W => ask2 (cv x own) W)
  have hcv : cmpV x.k x.n x.s x.b own.k own.n own.s own.b = cv x own := rfl
  have hrel : relOf 2 (cv x own) = (cv x own == 0) := rfl
  rw [hcv] at HC
  rw [← hrel] at HA
  generalize relOf 2 (cv x own) = q at HA ⊢
  generalize cv x own = r at HC HA
  have hc := hAll W0 (Below.refl _ _)
  have HAll := Lib.hid hAll
  have HB0 := Lib.hid hB0
  have HW0 := Lib.hid hW0
  clear hAll hB0 hx hW0 h1 h2 hcv hrel
  cases hk : (x.k == own.k) with
  | false =>
    rw [Bool.false_and]
    obtain ⟨_, d0, d1, d2, d3, e0, e1, e2, e3, e4⟩ := hc
    go_enter Tryz.func105, Tryz.ntmps105
    go_wp2_with fail
    rw [← HW0.out]
    go_quiet (fail)
    go_wp2_with fail
    go_ret
    exact ⟨rfl, bel_drewN HB0.out _⟩
  | true =>
    rw [Bool.true_and]
    clear hc
    go_enter Tryz.func105, Tryz.ntmps105
    go_wp2_with fail
    rw [← HW0.out]
    go_region_held3 (fun w' => Below W0.heap.size W0 w' ∧ w'.cell? ⟨w.heap.size, 0, none⟩ = some (.int .i64 x.k) ∧ w'.cell? ⟨w.heap.size, 1, none⟩ = some (.int .i64 x.n) ∧ w'.cell? ⟨w.heap.size, 2, none⟩ = some (.string x.s) ∧ w'.cell? ⟨w.heap.size, 3, none⟩ = some (.bool x.b) ∧
        w'.cell? ⟨g1, 0, none⟩ = some (.int .i64 own.k) ∧ w'.cell? ⟨g1, 1, none⟩ = some (.int .i64 own.n) ∧ w'.cell? ⟨g1, 2, none⟩ = some (.string own.s) ∧ w'.cell? ⟨g1, 3, none⟩ = some (.bool own.b) ∧ w'.cell? ⟨g2, 0, none⟩ = some (.func (.func 70) #[] #[]))
      (first | assumption | (refine HAll.out _ ?_; first | exact s22_call (by assumption) (by assumption) | exact (Below.refl _ _).drew | exact s22_alloc (by assumption) _))
      (first | (go_at_call 106; (with_reducible refine (HC.out _).mono ?_); rintro e w6 ⟨rfl, b6⟩) | (go_at_call 70; (with_reducible refine (HA.out _).mono ?_); rintro e w7 ⟨rfl, rfl⟩))
    rename_i hh
    have HEnd := Lib.hid (then_ HB0.out hh.1)
    clear hh
    go_wp2_with fail
    go_ret
    exact ⟨rfl, HEnd.out⟩
set_option maxHeartbeats 4000000 in
set_option maxRecDepth 100000 in
theorem compared1_3 (x own : Vl) (g1 g2 : Nat) (w : World) (h1 : Four w g1 0 own) (h2 : w.cell? ⟨g2, 0, none⟩ = some (.func (.func 71) #[] #[])) :
    Calls Tryz.prog 105 #[vv x, .pointer (some ⟨g1, 0, none⟩), .pointer (some ⟨g2, 0, none⟩)] w (Gives (.bool (x.k == own.k && relOf 3 (cv x own))) w) := by
  obtain ⟨W0, hW0⟩ : ∃ W0, W0 = w.alloc (.cells #[.int .i64 x.k, .int .i64 x.n, .string x.s, .bool x.b] 42) := ⟨_, rfl⟩
  have hB0 : Below w.heap.size w W0 := by rw [hW0]; exact below_one _ _
  have hx : Blk W0 w.heap.size 42 #[.int .i64 x.k, .int .i64 x.n, .string x.s, .bool x.b] := by rw [hW0]; exact Blk.new _ _ _
  have hAll := two_hold (x := x) ⟨hx.cell 0 rfl, hx.cell 1 rfl, hx.cell 2 rfl, hx.cell 3 rfl⟩ (h1.later hB0) (cell_later hB0 h2)
  have HC := Lib.hid (fun W => compare_any x.k x.n x.s x.b own.k own.n own.s own.b W)
  have HA := Lib.hid (fun W => ask3 (cv x own) W)
  have hcv : cmpV x.k x.n x.s x.b own.k own.n own.s own.b = cv x own := rfl
  have hrel : relOf 3 (cv x own) = (cv x own != 0) := rfl
  rw [hcv] at HC
  rw [← hrel] at HA
  generalize relOf 3 (cv x own) = q at HA ⊢
  generalize cv x own = r at HC HA
  have hc := hAll W0 (Below.refl _ _)
  have HAll := Lib.hid hAll
  have HB0 := Lib.hid hB0
  have HW0 := Lib.hid hW0
  clear hAll hB0 hx hW0 h1 h2 hcv hrel
  cases hk : (x.k == own.k) with
  | false =>
    rw [Bool.false_and]
    obtain ⟨_, d0, d1, d2, d3, e0, e1, e2, e3, e4⟩ := hc
    go_enter Tryz.func105, Tryz.ntmps105
    go_wp2_with fail
    rw [← HW0.out]
    go_quiet (fail)
    go_wp2_with fail
    go_ret
    exact ⟨rfl, bel_drewN HB0.out _⟩
  | true =>
    rw [Bool.true_and]
    clear hc
    go_enter Tryz.func105, Tryz.ntmps105
    go_wp2_with fail
    rw [← HW0.out]
    go_region_held3 (fun w' => Below W0.heap.size W0 w' ∧ w'.cell? ⟨w.heap.size, 0, none⟩ = some (.int .i64 x.k) ∧ w'.cell? ⟨w.heap.size, 1, none⟩ = some (.int .i64 x.n) ∧ w'.cell? ⟨w.heap.size, 2, none⟩ = some (.string x.s) ∧ w'.cell? ⟨w.heap.size, 3, none⟩ = some (.bool x.b) ∧
        w'.cell? ⟨g1, 0, none⟩ = some (.int .i64 own.k) ∧ w'.cell? ⟨g1, 1, none⟩ = some (.int .i64 own.n) ∧ w'.cell? ⟨g1, 2, none⟩ = some (.string own.s) ∧ w'.cell? ⟨g1, 3, none⟩ = some (.bool own.b) ∧ w'.cell? ⟨g2, 0, none⟩ = some (.func (.func 71) #[] #[]))
      (first | assumption | (refine HAll.out _ ?_; first | exact s22_call (by assumption) (by assumption) | exact (Below.refl _ _).drew | exact s22_alloc (by assumption) _))
      (first | (go_at_call 106; (with_reducible refine (HC.out _).mono ?_); rintro e w6 ⟨rfl, b6⟩) | (go_at_call 71; (with_reducible refine (HA.out _).mono ?_); rintro e w7 ⟨rfl, rfl⟩))
    rename_i hh
    have HEnd := Lib.hid (then_ HB0.out hh.1)
    clear hh
    go_wp2_with fail
    go_ret
    exact ⟨rfl, HEnd.out⟩
set_option maxHeartbeats 4000000 in
set_option maxRecDepth 100000 in
theorem compared1_4 (x own : Vl) (g1 g2 : Nat) (w : World) (h1 : Four w g1 0 own) (h2 : w.cell? ⟨g2, 0, none⟩ = some (.func (.func 72) #[] #[])) :
    Calls Tryz.prog 105 #[vv x, .pointer (some ⟨g1, 0, none⟩), .pointer (some ⟨g2, 0, none⟩)] w (Gives (.bool (x.k == own.k && relOf 4 (cv x own))) w) := by
  obtain ⟨W0, hW0⟩ : ∃ W0, W0 = w.alloc (.cells #[.int .i64 x.k, .int .i64 x.n, .string x.s, .bool x.b] 42) := ⟨_, rfl⟩
  have hB0 : Below w.heap.size w W0 := by rw [hW0]; exact below_one _ _
  have hx : Blk W0 w.heap.size 42 #[.int .i64 x.k, .int .i64 x.n, .string x.s, .bool x.b] := by rw [hW0]; exact Blk.new _ _ _
  have hAll := two_hold (x := x) ⟨hx.cell 0 rfl, hx.cell 1 rfl, hx.cell 2 rfl, hx.cell 3 rfl⟩ (h1.later hB0) (cell_later hB0 h2)
  have HC := Lib.hid (fun W => compare_any x.k x.n x.s x.b own.k own.n own.s own.b W)
  have HA := Lib.hid (fun W => ask4 (cv x own) W)
  have hcv : cmpV x.k x.n x.s x.b own.k own.n own.s own.b = cv x own := rfl
  have hrel : relOf 4 (cv x own) = (decide (cv x own < 0)) := rfl
  rw [hcv] at HC
  rw [← hrel] at HA
  generalize relOf 4 (cv x own) = q at HA ⊢
  generalize cv x own = r at HC HA
  have hc := hAll W0 (Below.refl _ _)
  have HAll := Lib.hid hAll
  have HB0 := Lib.hid hB0
  have HW0 := Lib.hid hW0
  clear hAll hB0 hx hW0 h1 h2 hcv hrel
  cases hk : (x.k == own.k) with
  | false =>
    rw [Bool.false_and]
    obtain ⟨_, d0, d1, d2, d3, e0, e1, e2, e3, e4⟩ := hc
    go_enter Tryz.func105, Tryz.ntmps105
    go_wp2_with fail
    rw [← HW0.out]
    go_quiet (fail)
    go_wp2_with fail
    go_ret
    exact ⟨rfl, bel_drewN HB0.out _⟩
  | true =>
    rw [Bool.true_and]
    clear hc
    go_enter Tryz.func105, Tryz.ntmps105
    go_wp2_with fail
    rw [← HW0.out]
    go_region_held3 (fun w' => Below W0.heap.size W0 w' ∧ w'.cell? ⟨w.heap.size, 0, none⟩ = some (.int .i64 x.k) ∧ w'.cell? ⟨w.heap.size, 1, none⟩ = some (.int .i64 x.n) ∧ w'.cell? ⟨w.heap.size, 2, none⟩ = some (.string x.s) ∧ w'.cell? ⟨w.heap.size, 3, none⟩ = some (.bool x.b) ∧
        w'.cell? ⟨g1, 0, none⟩ = some (.int .i64 own.k) ∧ w'.cell? ⟨g1, 1, none⟩ = some (.int .i64 own.n) ∧ w'.cell? ⟨g1, 2, none⟩ = some (.string own.s) ∧ w'.cell? ⟨g1, 3, none⟩ = some (.bool own.b) ∧ w'.cell? ⟨g2, 0, none⟩ = some (.func (.func 72) #[] #[]))
      (first | assumption | (refine HAll.out _ ?_; first | exact s22_call (by assumption) (by assumption) | exact (Below.refl _ _).drew | exact s22_alloc (by assumption) _))
      (first | (go_at_call 106; (with_reducible refine (HC.out _).mono ?_); rintro e w6 ⟨rfl, b6⟩) | (go_at_call 72; (with_reducible refine (HA.out _).mono ?_); rintro e w7 ⟨rfl, rfl⟩))
    rename_i hh
    have HEnd := Lib.hid (then_ HB0.out hh.1)
    clear hh
    go_wp2_with fail
    go_ret
    exact ⟨rfl, HEnd.out⟩
set_option maxHeartbeats 4000000 in
set_option maxRecDepth 100000 in
theorem compared1_5 (x own : Vl) (g1 g2 : Nat) (w : World) (h1 : Four w g1 0 own) (h2 : w.cell? ⟨g2, 0, none⟩ = some (.func (.func 73) #[] #[])) :
    Calls Tryz.prog 105 #[vv x, .pointer (some ⟨g1, 0, none⟩), .pointer (some ⟨g2, 0, none⟩)] w (Gives (.bool (x.k == own.k && relOf 5 (cv x own))) w) := by
  obtain ⟨W0, hW0⟩ : ∃ W0, W0 = w.alloc (.cells #[.int .i64 x.k, .int .i64 x.n, .string x.s, .bool x.b] 42) := ⟨_, rfl⟩
  have hB0 : Below w.heap.size w W0 := by rw [hW0]; exact below_one _ _
  have hx : Blk W0 w.heap.size 42 #[.int .i64 x.k, .int .i64 x.n, .string x.s, .bool x.b] := by rw [hW0]; exact Blk.new _ _ _
  have hAll := two_hold (x := x) ⟨hx.cell 0 rfl, hx.cell 1 rfl, hx.cell 2 rfl, hx.cell 3 rfl⟩ (h1.later hB0) (cell_later hB0 h2)
  have HC := Lib.hid (fun W => compare_any x.k x.n x.s x.b own.k own.n own.s own.b W)
  have HA := Lib.hid (fun W => ask5 (cv x own) W)
  have hcv : cmpV x.k x.n x.s x.b own.k own.n own.s own.b = cv x own := rfl
  have hrel : relOf 5 (cv x own) = (decide (cv x own ≤ 0)) := rfl
  rw [hcv] at HC
  rw [← hrel] at HA
  generalize relOf 5 (cv x own) = q at HA ⊢
  generalize cv x own = r at HC HA
  have hc := hAll W0 (Below.refl _ _)
  have HAll := Lib.hid hAll
  have HB0 := Lib.hid hB0
  have HW0 := Lib.hid hW0
  clear hAll hB0 hx hW0 h1 h2 hcv hrel
  cases hk : (x.k == own.k) with
  | false =>
    rw [Bool.false_and]
    obtain ⟨_, d0, d1, d2, d3, e0, e1, e2, e3, e4⟩ := hc
    go_enter Tryz.func105, Tryz.ntmps105
    go_wp2_with fail
    rw [← HW0.out]
    go_quiet (fail)
    go_wp2_with fail
    go_ret
    exact ⟨rfl, bel_drewN HB0.out _⟩
  | true =>
    rw [Bool.true_and]
    clear hc
    go_enter Tryz.func105, Tryz.ntmps105
    go_wp2_with fail
    rw [← HW0.out]
    go_region_held3 (fun w' => Below W0.heap.size W0 w' ∧ w'.cell? ⟨w.heap.size, 0, none⟩ = some (.int .i64 x.k) ∧ w'.cell? ⟨w.heap.size, 1, none⟩ = some (.int .i64 x.n) ∧ w'.cell? ⟨w.heap.size, 2, none⟩ = some (.string x.s) ∧ w'.cell? ⟨w.heap.size, 3, none⟩ = some (.bool x.b) ∧
        w'.cell? ⟨g1, 0, none⟩ = some (.int .i64 own.k) ∧ w'.cell? ⟨g1, 1, none⟩ = some (.int .i64 own.n) ∧ w'.cell? ⟨g1, 2, none⟩ = some (.string own.s) ∧ w'.cell? ⟨g1, 3, none⟩ = some (.bool own.b) ∧ w'.cell? ⟨g2, 0, none⟩ = some (.func (.func 73) #[] #[]))
      (first | assumption | (refine HAll.out _ ?_; first | exact s22_call (by assumption) (by assumption) | exact (Below.refl _ _).drew | exact s22_alloc (by assumption) _))
      (first | (go_at_call 106; (with_reducible refine (HC.out _).mono ?_); rintro e w6 ⟨rfl, b6⟩) | (go_at_call 73; (with_reducible refine (HA.out _).mono ?_); rintro e w7 ⟨rfl, rfl⟩))
    rename_i hh
    have HEnd := Lib.hid (then_ HB0.out hh.1)
    clear hh
    go_wp2_with fail
    go_ret
    exact ⟨rfl, HEnd.out⟩
set_option maxHeartbeats 4000000 in
set_option maxRecDepth 100000 in
theorem compared1_6 (x own : Vl) (g1 g2 : Nat) (w : World) (h1 : Four w g1 0 own) (h2 : w.cell? ⟨g2, 0, none⟩ = some (.func (.func 74) #[] #[])) :
    Calls Tryz.prog 105 #[vv x, .pointer (some ⟨g1, 0, none⟩), .pointer (some ⟨g2, 0, none⟩)] w (Gives (.bool (x.k == own.k && relOf 6 (cv x own))) w) := by
  obtain ⟨W0, hW0⟩ : ∃ W0, W0 = w.alloc (.cells #[.int .i64 x.k, .int .i64 x.n, .string x.s, .bool x.b] 42) := ⟨_, rfl⟩
  have hB0 : Below w.heap.size w W0 := by rw [hW0]; exact below_one _ _
  have hx : Blk W0 w.heap.size 42 #[.int .i64 x.k, .int .i64 x.n, .string x.s, .bool x.b] := by rw [hW0]; exact Blk.new _ _ _
  have hAll := two_hold (x := x) ⟨hx.cell 0 rfl, hx.cell 1 rfl, hx.cell 2 rfl, hx.cell 3 rfl⟩ (h1.later hB0) (cell_later hB0 h2)
  have HC := Lib.hid (fun W => compare_any x.k x.n x.s x.b own.k own.n own.s own.b W)
  have HA := Lib.hid (fun W => ask6 (cv x own) W)
  have hcv : cmpV x.k x.n x.s x.b own.k own.n own.s own.b = cv x own := rfl
  have hrel : relOf 6 (cv x own) = (decide (0 < cv x own)) := rfl
  rw [hcv] at HC
  rw [← hrel] at HA
  generalize relOf 6 (cv x own) = q at HA ⊢
  generalize cv x own = r at HC HA
  have hc := hAll W0 (Below.refl _ _)
  have HAll := Lib.hid hAll
  have HB0 := Lib.hid hB0
  have HW0 := Lib.hid hW0
  clear hAll hB0 hx hW0 h1 h2 hcv hrel
  cases hk : (x.k == own.k) with
  | false =>
    rw [Bool.false_and]
    obtain ⟨_, d0, d1, d2, d3, e0, e1, e2, e3, e4⟩ := hc
    go_enter Tryz.func105, Tryz.ntmps105
    go_wp2_with fail
    rw [← HW0.out]
    go_quiet (fail)
    go_wp2_with fail
    go_ret
    exact ⟨rfl, bel_drewN HB0.out _⟩
  | true =>
    rw [Bool.true_and]
    clear hc
    go_enter Tryz.func105, Tryz.ntmps105
    go_wp2_with fail
    rw [← HW0.out]
    go_region_held3 (fun w' => Below W0.heap.size W0 w' ∧ w'.cell? ⟨w.heap.size, 0, none⟩ = some (.int .i64 x.k) ∧ w'.cell? ⟨w.heap.size, 1, none⟩ = some (.int .i64 x.n) ∧ w'.cell? ⟨w.heap.size, 2, none⟩ = some (.string x.s) ∧ w'.cell? ⟨w.heap.size, 3, none⟩ = some (.bool x.b) ∧
        w'.cell? ⟨g1, 0, none⟩ = some (.int .i64 own.k) ∧ w'.cell? ⟨g1, 1, none⟩ = some (.int .i64 own.n) ∧ w'.cell? ⟨g1, 2, none⟩ = some (.string own.s) ∧ w'.cell? ⟨g1, 3, none⟩ = some (.bool own.b) ∧ w'.cell? ⟨g2, 0, none⟩ = some (.func (.func 74) #[] #[]))
      (first | assumption | (refine HAll.out _ ?_; first | exact s22_call (by assumption) (by assumption) | exact (Below.refl _ _).drew | exact s22_alloc (by assumption) _))
      (first | (go_at_call 106; (with_reducible refine (HC.out _).mono ?_); rintro e w6 ⟨rfl, b6⟩) | (go_at_call 74; (with_reducible refine (HA.out _).mono ?_); rintro e w7 ⟨rfl, rfl⟩))
    rename_i hh
    have HEnd := Lib.hid (then_ HB0.out hh.1)
    clear hh
    go_wp2_with fail
    go_ret
    exact ⟨rfl, HEnd.out⟩
set_option maxHeartbeats 4000000 in
set_option maxRecDepth 100000 in
theorem compared1_7 (x own : Vl) (g1 g2 : Nat) (w : World) (h1 : Four w g1 0 own) (h2 : w.cell? ⟨g2, 0, none⟩ = some (.func (.func 75) #[] #[])) :
    Calls Tryz.prog 105 #[vv x, .pointer (some ⟨g1, 0, none⟩), .pointer (some ⟨g2, 0, none⟩)] w (Gives (.bool (x.k == own.k && relOf 7 (cv x own))) w) := by
  obtain ⟨W0, hW0⟩ : ∃ W0, W0 = w.alloc (.cells #[.int .i64 x.k, .int .i64 x.n, .string x.s, .bool x.b] 42) := ⟨_, rfl⟩
  have hB0 : Below w.heap.size w W0 := by rw [hW0]; exact below_one _ _
  have hx : Blk W0 w.heap.size 42 #[.int .i64 x.k, .int .i64 x.n, .string x.s, .bool x.b] := by rw [hW0]; exact Blk.new _ _ _
  have hAll := two_hold (x := x) ⟨hx.cell 0 rfl, hx.cell 1 rfl, hx.cell 2 rfl, hx.cell 3 rfl⟩ (h1.later hB0) (cell_later hB0 h2)
  have HC := Lib.hid (fun W => compare_any x.k x.n x.s x.b own.k own.n own.s own.b W)
  have HA := Lib.hid (fun W => ask7 (cv x own) W)
  have hcv : cmpV x.k x.n x.s x.b own.k own.n own.s own.b = cv x own := rfl
  have hrel : relOf 7 (cv x own) = (decide (0 ≤ cv x own)) := rfl
  rw [hcv] at HC
  rw [← hrel] at HA
  generalize relOf 7 (cv x own) = q at HA ⊢
  generalize cv x own = r at HC HA
  have hc := hAll W0 (Below.refl _ _)
  have HAll := Lib.hid hAll
  have HB0 := Lib.hid hB0
  have HW0 := Lib.hid hW0
  clear hAll hB0 hx hW0 h1 h2 hcv hrel
  cases hk : (x.k == own.k) with
  | false =>
    rw [Bool.false_and]
    obtain ⟨_, d0, d1, d2, d3, e0, e1, e2, e3, e4⟩ := hc
    go_enter Tryz.func105, Tryz.ntmps105
    go_wp2_with fail
    rw [← HW0.out]
    go_quiet (fail)
    go_wp2_with fail
    go_ret
    exact ⟨rfl, bel_drewN HB0.out _⟩
  | true =>
    rw [Bool.true_and]
    clear hc
    go_enter Tryz.func105, Tryz.ntmps105
    go_wp2_with fail
    rw [← HW0.out]
    go_region_held3 (fun w' => Below W0.heap.size W0 w' ∧ w'.cell? ⟨w.heap.size, 0, none⟩ = some (.int .i64 x.k) ∧ w'.cell? ⟨w.heap.size, 1, none⟩ = some (.int .i64 x.n) ∧ w'.cell? ⟨w.heap.size, 2, none⟩ = some (.string x.s) ∧ w'.cell? ⟨w.heap.size, 3, none⟩ = some (.bool x.b) ∧
        w'.cell? ⟨g1, 0, none⟩ = some (.int .i64 own.k) ∧ w'.cell? ⟨g1, 1, none⟩ = some (.int .i64 own.n) ∧ w'.cell? ⟨g1, 2, none⟩ = some (.string own.s) ∧ w'.cell? ⟨g1, 3, none⟩ = some (.bool own.b) ∧ w'.cell? ⟨g2, 0, none⟩ = some (.func (.func 75) #[] #[]))
      (first | assumption | (refine HAll.out _ ?_; first | exact s22_call (by assumption) (by assumption) | exact (Below.refl _ _).drew | exact s22_alloc (by assumption) _))
      (first | (go_at_call 106; (with_reducible refine (HC.out _).mono ?_); rintro e w6 ⟨rfl, b6⟩) | (go_at_call 75; (with_reducible refine (HA.out _).mono ?_); rintro e w7 ⟨rfl, rfl⟩))
    rename_i hh
    have HEnd := Lib.hid (then_ HB0.out hh.1)
    clear hh
    go_wp2_with fail
    go_ret
    exact ⟨rfl, HEnd.out⟩
end Go.Proofs.YtlnjmcodgdebmaaGreat.Gm
