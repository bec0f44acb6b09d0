/- The contracts of package pred's questions of a prefix and of a set. -/
import Derived.Test.YtaplgoachembdaaGreatKgv
/- The contracts of the questions that package pred makes of a constraint. -/
set_option linter.unusedSimpArgs false
set_option linter.unusedVariables false
namespace Go.Proofs.YtaplgoachembdaaGreat.Gm
open Go Go.RowKit
attribute [local go_sem ↓] Go.wp_at_zero Go.wp_at_succ

/-- How two values stand. -/
def cv (x y : Vl) : Int := cmpV x.k x.n x.s x.b y.k y.n y.s y.b
/-- What each of Eq to Ge asks of the order. -/
def relOf (op r : Int) : Bool := if op = 2 then r == 0 else if op = 3 then r != 0 else if op = 4 then decide (r < 0) else if op = 5 then decide (r ≤ 0) else if op = 6 then decide (0 < r) else decide (0 ≤ r)
theorem two_hold {W : World} {g b : Nat} {x y : Vl} (h1 : Four W g 0 x) (h2 : Four W b 0 y) {a : Addr} {u : Value} (h3 : W.cell? a = some u) (w' : World) (h : Below W.heap.size W w') :
    Below W.heap.size W w' ∧ w'.cell? ⟨g, 0, none⟩ = some (.int .i64 x.k) ∧ w'.cell? ⟨g, 1, none⟩ = some (.int .i64 x.n) ∧ w'.cell? ⟨g, 2, none⟩ = some (.string x.s) ∧ w'.cell? ⟨g, 3, none⟩ = some (.bool x.b) ∧
      w'.cell? ⟨b, 0, none⟩ = some (.int .i64 y.k) ∧ w'.cell? ⟨b, 1, none⟩ = some (.int .i64 y.n) ∧ w'.cell? ⟨b, 2, none⟩ = some (.string y.s) ∧ w'.cell? ⟨b, 3, none⟩ = some (.bool y.b) ∧ w'.cell? a = some u := by
  obtain ⟨a0, a1, a2, a3⟩ := h1.later h
  obtain ⟨b0, b1, b2, b3⟩ := h2.later h
  exact ⟨h, a0, a1, a2, a3, b0, b1, b2, b3, cell_later h h3⟩
theorem ask2 (r : Int) (w : World) : Calls Tryz.prog 71 #[.int .i64 r] w (Quits (.bool (r == 0)) w) := by
  go_enter Tryz.func71, Tryz.ntmps71
  go_wp2
  go_ret
  exact ⟨rfl, rfl⟩
theorem ask3 (r : Int) (w : World) : Calls Tryz.prog 72 #[.int .i64 r] w (Quits (.bool (r != 0)) w) := by
  go_enter Tryz.func72, Tryz.ntmps72
  go_wp2
  go_ret
  exact ⟨rfl, rfl⟩
theorem ask4 (r : Int) (w : World) : Calls Tryz.prog 73 #[.int .i64 r] w (Quits (.bool (decide (r < 0))) w) := by
  go_enter Tryz.func73, Tryz.ntmps73
  go_wp2
  go_ret
  exact ⟨rfl, rfl⟩
theorem ask5 (r : Int) (w : World) : Calls Tryz.prog 74 #[.int .i64 r] w (Quits (.bool (decide (r ≤ 0))) w) := by
  go_enter Tryz.func74, Tryz.ntmps74
  go_wp2
  go_ret
  exact ⟨rfl, rfl⟩
theorem ask6 (r : Int) (w : World) : Calls Tryz.prog 75 #[.int .i64 r] w (Quits (.bool (decide (0 < r))) w) := by
  go_enter Tryz.func75, Tryz.ntmps75
  go_wp2
  go_ret
  exact ⟨rfl, rfl⟩
theorem ask7 (r : Int) (w : World) : Calls Tryz.prog 76 #[.int .i64 r] w (Quits (.bool (decide (0 ≤ r))) w) := by
  go_enter Tryz.func76, Tryz.ntmps76
  go_wp2
  go_ret
  exact ⟨rfl, rfl⟩
set_option maxHeartbeats 4000000 in
set_option maxRecDepth 100000 in
theorem compared1_2 (x own : Vl) (g1 g2 : Nat) (w : World) (h1 : Four w g1 0 own) (h2 : w.cell? ⟨g2, 0, none⟩ = some (.func (.func 71) #[] #[])) :
    Calls Tryz.prog 106 #[vv x, .pointer (some ⟨g1, 0, none⟩), .pointer (some ⟨g2, 0, none⟩)] w (Gives (.bool (x.k == own.k && relOf 2 (cv x own))) w) := by
  obtain ⟨W0, hW0⟩ : ∃ W0, W0 = w.alloc (.cells #[.int .i64 x.k, .int .i64 x.n, .string x.s, .bool x.b] 42) := ⟨_, rfl⟩
  have hB0 : Below w.heap.size w W0 := by rw [hW0]; exact below_one _ _
  have hx : Blk W0 w.heap.size 42 #[.int .i64 x.k, .int .i64 x.n, .string x.s, .bool x.b] := by rw [hW0]; exact Blk.new _ _ _
  have hAll := two_hold (x := x) ⟨hx.cell 0 rfl, hx.cell 1 rfl, hx.cell 2 rfl, hx.cell 3 rfl⟩ (h1.later hB0) (cell_later hB0 h2)
  have HC := Lib.hid (fun W => compare_any x.k x.n x.s x.b own.k own.n own.s own.b W)
  have HA := Lib.hid (fun W => ask2 (cv x own) W)
  have hcv : cmpV x.k x.n x.s x.b own.k own.n own.s own.b = cv x own := rfl
  have hrel : relOf 2 (cv x own) = (cv x own == 0) := rfl
  rw [hcv] at HC
  rw [← hrel] at HA
  generalize relOf 2 (cv x own) = q at HA ⊢
  generalize cv x own = r at HC HA
  have hc := hAll W0 (Below.refl _ _)
  have HAll := Lib.hid hAll
  have HB0 := Lib.hid hB0
  have HW0 := Lib.hid hW0
  clear hAll hB0 hx hW0 h1 h2 hcv hrel
  cases hk : (x.k == own.k) with
  | false =>
    rw [Bool.false_and]
    obtain ⟨_, d0, d1, d2, d3, e0, e1, e2, e3, e4⟩ := hc
    go_enter Tryz.func106, Tryz.ntmps106
    go_wp2_with fail
    rw [← HW0.out]
    go_quiet (fail)
    go_wp2_with fail
    go_ret
    exact ⟨rfl, bel_drewN HB0.out _⟩
  | true =>
    rw [Bool.true_and]
    clear hc
    go_enter Tryz.func106, Tryz.ntmps106
    go_wp2_with fail
    rw [← HW0.out]
    go_region_held3 (fun w' => Below W0.heap.size W0 w' ∧ w'.cell? ⟨w.heap.size, 0, none⟩ = some (.int .i64 x.k) ∧ w'.cell? ⟨w.heap.size, 1, none⟩ = some (.int .i64 x.n) ∧ w'.cell? ⟨w.heap.size, 2, none⟩ = some (.string x.s) ∧ w'.cell? ⟨w.heap.size, 3, none⟩ = some (.bool x.b) ∧
        w'.cell? ⟨g1, 0, none⟩ = some (.int .i64 own.k) ∧ w'.cell? ⟨g1, 1, none⟩ = some (.int .i64 own.n) ∧ w'.cell? ⟨g1, 2, none⟩ = some (.string own.s) ∧ w'.cell? ⟨g1, 3, none⟩ = some (.bool own.b) ∧ w'.cell? ⟨g2, 0, none⟩ = some (.func (.func 71) #[] #[]))
      (first | assumption | (refine HAll.out _ ?_; first | exact s22_call (by assumption) (by assumption) | exact (Below.refl _ _).drew | exact s22_alloc (by assumption) _))
      (first | (go_at_call 107; (with_reducible refine (HC.out _).mono ?_); rintro e w6 ⟨rfl, b6⟩) | (go_at_call 71; (with_reducible refine (HA.out _).mono ?_); rintro e w7 ⟨rfl, rfl⟩))
    rename_i hh
    have HEnd := Lib.hid (then_ HB0.out hh.1)
    clear hh
    go_wp2_with fail
    go_ret
    exact ⟨rfl, HEnd.out⟩
set_option maxHeartbeats 4000000 in
set_option maxRecDepth 100000 in
theorem compared1_3 (x own : Vl) (g1 g2 : Nat) (w : World) (h1 : Four w g1 0 own) (h2 : w.cell? ⟨g2, 0, none⟩ = some (.func (.func 72) #[] #[])) :
    Calls Tryz.prog 106 #[vv x, .pointer (some ⟨g1, 0, none⟩), .pointer (some ⟨g2, 0, none⟩)] w (Gives (.bool (x.k == own.k && relOf 3 (cv x own))) w) := by
  obtain ⟨W0, hW0⟩ : ∃ W0, W0 = w.alloc (.cells #[.int .i64 x.k, .int .i64 x.n, .string x.s, .bool x.b] 42) := ⟨_, rfl⟩
  have hB0 : Below w.heap.size w W0 := by rw [hW0]; exact below_one _ _
  have hx : Blk W0 w.heap.size 42 #[.int .i64 x.k, .int .i64 x.n, .string x.s, .bool x.b] := by rw [hW0]; exact Blk.new _ _ _
  have hAll := two_hold (x := x) ⟨hx.cell 0 rfl, hx.cell 1 rfl, hx.cell 2 rfl, hx.cell 3 rfl⟩ (h1.later hB0) (cell_later hB0 h2)
  have HC := Lib.hid (fun W => compare_any x.k x.n x.s x.b own.k own.n own.s own.b W)
  have HA := Lib.hid (fun W => ask3 (cv x own) W)
  have hcv : cmpV x.k x.n x.s x.b own.k own.n own.s own.b = cv x own := rfl
  have hrel : relOf 3 (cv x own) = (cv x own != 0) := rfl
  rw [hcv] at HC
  rw [← hrel] at HA
  generalize relOf 3 (cv x own) = q at HA ⊢
  generalize cv x own = r at HC HA
  have hc := hAll W0 (Below.refl _ _)
  have HAll := Lib.hid hAll
  have HB0 := Lib.hid hB0
  have HW0 := Lib.hid hW0
  clear hAll hB0 hx hW0 h1 h2 hcv hrel
  cases hk : (x.k == own.k) with
  | false =>
    rw [Bool.false_and]
    obtain ⟨_, d0, d1, d2, d3, e0, e1, e2, e3, e4⟩ := hc
    go_enter Tryz.func106, Tryz.ntmps106
    go_wp2_with fail
    rw [← HW0.out]
    go_quiet (fail)
    go_wp2_with fail
    go_ret
    exact ⟨rfl, bel_drewN HB0.out _⟩
  | true =>
    rw [Bool.true_and]
    clear hc
    go_enter Tryz.func106, Tryz.ntmps106
    go_wp2_with fail
    rw [← HW0.out]
    go_region_held3 (fun w' => Below W0.heap.size W0 w' ∧ w'.cell? ⟨w.heap.size, 0, none⟩ = some (.int .i64 x.k) ∧ w'.cell? ⟨w.heap.size, 1, none⟩ = some (.int .i64 x.n) ∧ w'.cell? ⟨w.heap.size, 2, none⟩ = some (.string x.s) ∧ w'.cell? ⟨w.heap.size, 3, none⟩ = some (.bool x.b) ∧
        w'.cell? ⟨g1, 0, none⟩ = some (.int .i64 own.k) ∧ w'.cell? ⟨g1, 1, none⟩ = some (.int .i64 own.n) ∧ w'.cell? ⟨g1, 2, none⟩ = some (.string own.s) ∧ w'.cell? ⟨g1, 3, none⟩ = some (.bool own.b) ∧ w'.cell? ⟨g2, 0, none⟩ = some (.func (.func 72) #[] #[]))
      (first | assumption | (refine HAll.out _ ?_; first | exact s22_call (by assumption) (by assumption) | exact (Below.refl _ _).drew | exact s22_alloc (by assumption) _))
      (first | (go_at_call 107; (with_reducible refine (HC.out _).mono ?_); rintro e w6 ⟨rfl, b6⟩) | (go_at_call 72; (with_reducible refine (HA.out _).mono ?_); rintro e w7 ⟨rfl, rfl⟩))
    rename_i hh
    have HEnd := Lib.hid (then_ HB0.out hh.1)
    clear hh
    go_wp2_with fail
    go_ret
    exact ⟨rfl, HEnd.out⟩
set_option maxHeartbeats 4000000 in
set_option maxRecDepth 100000 in
theorem compared1_4 (x own : Vl) (g1 g2 : Nat) (w : World) (h1 : Four w g1 0 own) (h2 : w.cell? ⟨g2, 0, none⟩ = some (.func (.func 73) #[] #[])) :
    Calls Tryz.prog 106 #[vv x, .pointer (some ⟨g1, 0, none⟩), .pointer (some ⟨g2, 0, none⟩)] w (Gives (.bool (x.k == own.k && relOf 4 (cv x own))) w) := by
  obtain ⟨W0, hW0⟩ : ∃ W0, W0 = w.alloc (.cells #[.int .i64 x.k, .int .i64 x.n, .string x.s, .bool x.b] 42) := ⟨_, rfl⟩
  have hB0 : Below w.heap.size w W0 := by rw [hW0]; exact below_one _ _
  have hx : Blk W0 w.heap.size 42 #[.int .i64 x.k, .int .i64 x.n, .string x.s, .bool x.b] := by rw [hW0]; exact Blk.new _ _ _
  have hAll := two_hold (x := x) ⟨hx.cell 0 rfl, hx.cell 1 rfl, hx.cell 2 rfl, hx.cell 3 rfl⟩ (h1.later hB0) (cell_later hB0 h2)
  have HC := Lib.hid (fun W => compare_any x.k x.n x.s x.b own.k own.n own.s own.b W)
  have HA := Lib.hid (fun W => ask4 (cv x own) W)
  have hcv : cmpV x.k x.n x.s x.b own.k own.n own.s own.b = cv x own := rfl
  have hrel : relOf 4 (cv x own) = (decide (cv x own < 0)) := rfl
  rw [hcv] at HC
  rw [← hrel] at HA
  generalize relOf 4 (cv x own) = q at HA ⊢
  generalize cv x own = r at HC HA
  have hc := hAll W0 (Below.refl _ _)
  have HAll := Lib.hid hAll
  have HB0 := Lib.hid hB0
  have HW0 := Lib.hid hW0
  clear hAll hB0 hx hW0 h1 h2 hcv hrel
  cases hk : (x.k == own.k) with
  | false =>
    rw [Bool.false_and]
    obtain ⟨_, d0, d1, d2, d3, e0, e1, e2, e3, e4⟩ := hc
    go_enter Tryz.func106, Tryz.ntmps106
    go_wp2_with fail
    rw [← HW0.out]
    go_quiet (fail)
    go_wp2_with fail
    go_ret
    exact ⟨rfl, bel_drewN HB0.out _⟩
  | true =>
    rw [Bool.true_and]
    clear hc
    go_enter Tryz.func106, Tryz.ntmps106
    go_wp2_with fail
    rw [← HW0.out]
    go_region_held3 (fun w' => Below W0.heap.size W0 w' ∧ w'.cell? ⟨w.heap.size, 0, none⟩ = some (.int .i64 x.k) ∧ w'.cell? ⟨w.heap.size, 1, none⟩ = some (.int .i64 x.n) ∧ w'.cell? ⟨w.heap.size, 2, none⟩ = some (.string x.s) ∧ w'.cell? ⟨w.heap.size, 3, none⟩ = some (.bool x.b) ∧
        w'.cell? ⟨g1, 0, none⟩ = some (.int .i64 own.k) ∧ w'.cell? ⟨g1, 1, none⟩ = some (.int .i64 own.n) ∧ w'.cell? ⟨g1, 2, none⟩ = some (.string own.s) ∧ w'.cell? ⟨g1, 3, none⟩ = some (.bool own.b) ∧ w'.cell? ⟨g2, 0, none⟩ = some (.func (.func 73) #[] #[]))
      (first | assumption | (refine HAll.out _ ?_; first | exact s22_call (by assumption) (by assumption) | exact (Below.refl _ _).drew | exact s22_alloc (by assumption) _))
      (first | (go_at_call 107; (with_reducible refine (HC.out _).mono ?_); rintro e w6 ⟨rfl, b6⟩) | (go_at_call 73; (with_reducible refine (HA.out _).mono ?_); rintro e w7 ⟨rfl, rfl⟩))
    rename_i hh
    have HEnd := Lib.hid (then_ HB0.out hh.1)
    clear hh
    go_wp2_with fail
    go_ret
    exact ⟨rfl, HEnd.out⟩
set_option maxHeartbeats 4000000 in
set_option maxRecDepth 100000 in
theorem compared1_5 (x own : Vl) (g1 g2 : Nat) (w : World) (h1 : Four w g1 0 own) (h2 : w.cell? ⟨g2, 0, none⟩ = some (.func (.func 74) #[] #[])) :
    Calls Tryz.prog 106 #[vv x, .pointer (some ⟨g1, 0, none⟩), .pointer (some ⟨g2, 0, none⟩)] w (Gives (.bool (x.k == own.k && relOf 5 (cv x own))) w) := by
  obtain ⟨W0, hW0⟩ : ∃ W0, W0 = w.alloc (.cells #[.int .i64 x.k, .int .i64 x.n, .string x.s, .bool x.b] 42) := ⟨_, rfl⟩
  have hB0 : Below w.heap.size w W0 := by rw [hW0]; exact below_one _ _
  have hx : Blk W0 w.heap.size 42 #[.int .i64 x.k, .int .i64 x.n, .string x.s, .bool x.b] := by rw [hW0]; exact Blk.new _ _ _
  have hAll := two_hold (x := x) ⟨hx.cell 0 rfl, hx.cell 1 rfl, hx.cell 2 rfl, hx.cell 3 rfl⟩ (h1.later hB0) (cell_later hB0 h2)
  have HC := Lib.hid (fun W => compare_any x.k x.n x.s x.b own.k own.n own.s own.b W)
  have HA := Lib.hid (fun W => ask5 (cv x own) W)
  have hcv : cmpV x.k x.n x.s x.b own.k own.n own.s own.b = cv x own := rfl
  have hrel : relOf 5 (cv x own) = (decide (cv x own ≤ 0)) := rfl
  rw [hcv] at HC
  rw [← hrel] at HA
  generalize relOf 5 (cv x own) = q at HA ⊢
  generalize cv x own = r at HC HA
  have hc := hAll W0 (Below.refl _ _)
  have HAll := Lib.hid hAll
  have HB0 := Lib.hid hB0
  have HW0 := Lib.hid hW0
  clear hAll hB0 hx hW0 h1 h2 hcv hrel
  cases hk : (x.k == own.k) with
  | false =>
    rw [Bool.false_and]
    obtain ⟨_, d0, d1, d2, d3, e0, e1, e2, e3, e4⟩ := hc
    go_enter Tryz.func106, Tryz.ntmps106
    go_wp2_with fail
    rw [← HW0.out]
    go_quiet (fail)
    go_wp2_with fail
    go_ret
    exact ⟨rfl, bel_drewN HB0.out _⟩
  | true =>
    rw [Bool.true_and]
    clear hc
    go_enter Tryz.func106, Tryz.ntmps106
    go_wp2_with fail
    rw [← HW0.out]
    go_region_held3 (fun w' => Below W0.heap.size W0 w' ∧ w'.cell? ⟨w.heap.size, 0, none⟩ = some (.int .i64 x.k) ∧ w'.cell? ⟨w.heap.size, 1, none⟩ = some (.int .i64 x.n) ∧ w'.cell? ⟨w.heap.size, 2, none⟩ = some (.string x.s) ∧ w'.cell? ⟨w.heap.size, 3, none⟩ = some (.bool x.b) ∧
        w'.cell? ⟨g1, 0, none⟩ = some (.int .i64 own.k) ∧ w'.cell? ⟨g1, 1, none⟩ = some (.int .i64 own.n) ∧ w'.cell? ⟨g1, 2, none⟩ = some (.string own.s) ∧ w'.cell? ⟨g1, 3, none⟩ = some (.bool own.b) ∧ w'.cell? ⟨g2, 0, none⟩ = some (.func (.func 74) #[] #[]))
      (first | assumption | (refine HAll.out _ ?_; first | exact s22_call (by assumption) (by assumption) | exact (Below.refl _ _).drew | exact s22_alloc (by assumption) _))
      (first | (go_at_call 107; (with_reducible refine (HC.out _).mono ?_); rintro e w6 ⟨rfl, b6⟩) | (go_at_call 74; (with_reducible refine (HA.out _).mono ?_); rintro e w7 ⟨rfl, rfl⟩))
    rename_i hh
    have HEnd := Lib.hid (then_ HB0.out hh.1)
    clear hh
    go_wp2_with fail
    go_ret
    exact ⟨rfl, HEnd.out⟩
set_option maxHeartbeats 4000000 in
set_option maxRecDepth 100000 in
theorem compared1_6 (x own : Vl) (g1 g2 : Nat) (w : World) (h1 : Four w g1 0 own) (h2 : w.cell? ⟨g2, 0, none⟩ = some (.func (.func 75) #[] #[])) :
    Calls Tryz.prog 106 #[vv x, .pointer (some ⟨g1, 0, none⟩), .pointer (some ⟨g2, 0, none⟩)] w (Gives (.bool (x.k == own.k && relOf 6 (cv x own))) w) := by
  obtain ⟨W0, hW0⟩ : ∃ W0, W0 = w.alloc (.cells #[.int .i64 x.k, .int .i64 x.n, .string x.s, .bool x.b] 42) := ⟨_, rfl⟩
  have hB0 : Below w.heap.size w W0 := by rw [hW0]; exact below_one _ _
  have hx : Blk W0 w.heap.size 42 #[.int .i64 x.k, .int .i64 x.n, .string x.s, .bool x.b] := by rw [hW0]; exact Blk.new _ _ _
  have hAll := two_hold (x := x) ⟨hx.cell 0 rfl, hx.cell 1 rfl, hx.cell 2 rfl, hx.cell 3 rfl⟩ (h1.later hB0) (cell_later hB0 h2)
  have HC := Lib.hid (fun W => compare_any x.k x.n x.s x.b own.k own.n own.s own.b W)
  have HA := Lib.hid (fun W => ask6 (cv x own) W)
  have hcv : cmpV x.k x.n x.s x.b own.k own.n own.s own.b = cv x own := rfl
  have hrel : relOf 6 (cv x own) = (decide (0 < cv x own)) := rfl
  rw [hcv] at HC
  rw [← hrel] at HA
  generalize relOf 6 (cv x own) = q at HA ⊢
  generalize cv x own = r at HC HA
  have hc := hAll W0 (Below.refl _ _)
  have HAll := Lib.hid hAll
  have HB0 := Lib.hid hB0
  have HW0 := Lib.hid hW0
  clear hAll hB0 hx hW0 h1 h2 hcv hrel
  cases hk : (x.k == own.k) with
  | false =>
    rw [Bool.false_and]
    obtain ⟨_, d0, d1, d2, d3, e0, e1, e2, e3, e4⟩ := hc
    go_enter Tryz.func106, Tryz.ntmps106
    go_wp2_with fail
    rw [← HW0.out]
    go_quiet (fail)
    go_wp2_with fail
    go_ret
    exact ⟨rfl, bel_drewN HB0.out _⟩
  | true =>
    rw [Bool.true_and]
    clear hc
    go_enter Tryz.func106, Tryz.ntmps106
    go_wp2_with fail
    rw [← HW0.out]
    go_region_held3 (fun w' => Below W0.heap.size W0 w' ∧ w'.cell? ⟨w.heap.size, 0, none⟩ = some (.int .i64 x.k) ∧ w'.cell? ⟨w.heap.size, 1, none⟩ = some (.int .i64 x.n) ∧ w'.cell? ⟨w.heap.size, 2, none⟩ = some (.string x.s) ∧ w'.cell? ⟨w.heap.size, 3, none⟩ = some (.bool x.b) ∧
        w'.cell? ⟨g1, 0, none⟩ = some (.int .i64 own.k) ∧ w'.cell? ⟨g1, 1, none⟩ = some (.int .i64 own.n) ∧ w'.cell? ⟨g1, 2, none⟩ = some (.string own.s) ∧ w'.cell? ⟨g1, 3, none⟩ = some (.bool own.b) ∧ w'.cell? ⟨g2, 0, none⟩ = some (.func (.func 75) #[] #[]))
      (first | assumption | (refine HAll.out _ ?_; first | exact s22_call (by assumption) (by assumption) | exact (Below.refl _ _).drew | exact s22_alloc (by assumption) _))
      (first | (go_at_call 107; (with_reducible refine (HC.out _).mono ?_); rintro e w6 ⟨rfl, b6⟩) | (go_at_call 75; (with_reducible refine (HA.out _).mono ?_); rintro e w7 ⟨rfl, rfl⟩))
    rename_i hh
    have HEnd := Lib.hid (then_ HB0.out hh.1)
    clear hh
    go_wp2_with fail
    go_ret
    exact ⟨rfl, HEnd.out⟩
set_option maxHeartbeats 4000000 in
set_option maxRecDepth 100000 in
theorem compared1_7 (x own : Vl) (g1 g2 : Nat) (w : World) (h1 : Four w g1 0 own) (h2 : w.cell? ⟨g2, 0, none⟩ = some (.func (.func 76) #[] #[])) :
    Calls Tryz.prog 106 #[vv x, .pointer (some ⟨g1, 0, none⟩), .pointer (some ⟨g2, 0, none⟩)] w (Gives (.bool (x.k == own.k && relOf 7 (cv x own))) w) := by
  obtain ⟨W0, hW0⟩ : ∃ W0, W0 = w.alloc (.cells #[.int .i64 x.k, .int .i64 x.n, .string x.s, .bool x.b] 42) := ⟨_, rfl⟩
  have hB0 : Below w.heap.size w W0 := by rw [hW0]; exact below_one _ _
  have hx : Blk W0 w.heap.size 42 #[.int .i64 x.k, .int .i64 x.n, .string x.s, .bool x.b] := by rw [hW0]; exact Blk.new _ _ _
  have hAll := two_hold (x := x) ⟨hx.cell 0 rfl, hx.cell 1 rfl, hx.cell 2 rfl, hx.cell 3 rfl⟩ (h1.later hB0) (cell_later hB0 h2)
  have HC := Lib.hid (fun W => compare_any x.k x.n x.s x.b own.k own.n own.s own.b W)
  have HA := Lib.hid (fun W => ask7 (cv x own) W)
  have hcv : cmpV x.k x.n x.s x.b own.k own.n own.s own.b = cv x own := rfl
  have hrel : relOf 7 (cv x own) = (decide (0 ≤ cv x own)) := rfl
  rw [hcv] at HC
  rw [← hrel] at HA
  generalize relOf 7 (cv x own) = q at HA ⊢
  generalize cv x own = r at HC HA
  have hc := hAll W0 (Below.refl _ _)
  have HAll := Lib.hid hAll
  have HB0 := Lib.hid hB0
  have HW0 := Lib.hid hW0
  clear hAll hB0 hx hW0 h1 h2 hcv hrel
  cases hk : (x.k == own.k) with
  | false =>
    rw [Bool.false_and]
    obtain ⟨_, d0, d1, d2, d3, e0, e1, e2, e3, e4⟩ := hc
    go_enter Tryz.func106, Tryz.ntmps106
    go_wp2_with fail
    rw [← HW0.out]
    go_quiet (fail)
    go_wp2_with fail
    go_ret
    exact ⟨rfl, bel_drewN HB0.out _⟩
  | true =>
    rw [Bool.true_and]
    clear hc
    go_enter Tryz.func106, Tryz.ntmps106
    go_wp2_with fail
    rw [← HW0.out]
    go_region_held3 (fun w' => Below W0.heap.size W0 w' ∧ w'.cell? ⟨w.heap.size, 0, none⟩ = some (.int .i64 x.k) ∧ w'.cell? ⟨w.heap.size, 1, none⟩ = some (.int .i64 x.n) ∧ w'.cell? ⟨w.heap.size, 2, none⟩ = some (.string x.s) ∧ w'.cell? ⟨w.heap.size, 3, none⟩ = some (.bool x.b) ∧
        w'.cell? ⟨g1, 0, none⟩ = some (.int .i64 own.k) ∧ w'.cell? ⟨g1, 1, none⟩ = some (.int .i64 own.n) ∧ w'.cell? ⟨g1, 2, none⟩ = some (.string own.s) ∧ w'.cell? ⟨g1, 3, none⟩ = some (.bool own.b) ∧ w'.cell? ⟨g2, 0, none⟩ = some (.func (.func 76) #[] #[]))
      (first | assumption | (refine HAll.out _ ?_; first | exact s22_call (by assumption) (by assumption) | exact (Below.refl _ _).drew | exact s22_alloc (by assumption) _))
      (first | (go_at_call 107; (with_reducible refine (HC.out _).mono ?_); rintro e w6 ⟨rfl, b6⟩) | (go_at_call 76; (with_reducible refine (HA.out _).mono ?_); rintro e w7 ⟨rfl, rfl⟩))
    rename_i hh
    have HEnd := Lib.hid (then_ HB0.out hh.1)
    clear hh
    go_wp2_with fail
    go_ret
    exact ⟨rfl, HEnd.out⟩
end Go.Proofs.YtaplgoachembdaaGreat.Gm
set_option linter.unusedSimpArgs false
set_option linter.unusedVariables false
namespace Go.Proofs.YtaplgoachembdaaGreat.Gm
open Go Go.RowKit
attribute [local go_sem ↓] Go.wp_at_zero Go.wp_at_succ

def beginsB (x own : Vl) : Bool := x.k == 2 && (own.k == 2 && Lib.hasPrefix x.s.data.toList own.s.data.toList)
set_option maxHeartbeats 4000000 in
set_option maxRecDepth 100000 in
theorem begun1 (x own : Vl) (g : Nat) (w : World) (h1 : Four w g 0 own) : Calls Tryz.prog 108 #[vv x, .pointer (some ⟨g, 0, none⟩)] w (Gives (.bool (beginsB x own)) w) := by
  obtain ⟨c0, c1, c2, c3⟩ := h1
  have hlt : g < w.heap.size := World.block_lt_of_cell? w _ c0
  have HP := Lib.hid (fun W => Tryz.strings_HasPrefix x.s own.s W)
  have hb : beginsB x own = (x.k == 2 && (own.k == 2 && Lib.hasPrefix x.s.data.toList own.s.data.toList)) := rfl
  generalize Lib.hasPrefix x.s.data.toList own.s.data.toList = r at HP hb
  rw [hb]
  clear hb
  cases h2 : (x.k == 2) with
  | false =>
    rw [Bool.false_and]
    go_enter Tryz.func108, Tryz.ntmps108
    go_wp2_with fail
    go_ret
    exact ⟨rfl, below_one _ _⟩
  | true =>
    rw [Bool.true_and]
    cases h3 : (own.k == 2) with
    | false =>
      rw [Bool.false_and]
      go_enter Tryz.func108, Tryz.ntmps108
      go_wp2_with fail
      go_ret
      exact ⟨rfl, below_one _ _⟩
    | true =>
      rw [Bool.true_and]
      go_enter Tryz.func108, Tryz.ntmps108
      go_wp2_with fail
      refine (HP.out _).mono ?_; rintro e w1 ⟨rfl, rfl⟩
      go_wp2_with fail
      go_ret
      exact ⟨rfl, below_one _ _⟩

set_option maxHeartbeats 4000000 in
set_option maxRecDepth 100000 in
theorem among11 (x y : Vl) (g : Nat) (w : World) (h1 : Four w g 0 x) : Calls Tryz.prog 112 #[vv y, .pointer (some ⟨g, 0, none⟩)] w (Gives (.bool (cv x y == 0)) w) := by
  obtain ⟨c0, c1, c2, c3⟩ := h1
  have hlt : g < w.heap.size := World.block_lt_of_cell? w _ c0
  have HC := Lib.hid (fun W => compare_any x.k x.n x.s x.b y.k y.n y.s y.b W)
  have hcv : cmpV x.k x.n x.s x.b y.k y.n y.s y.b = cv x y := rfl
  rw [hcv] at HC
  generalize cv x y = r at HC ⊢
  clear hcv
  go_enter Tryz.func112, Tryz.ntmps112
  go_wp2_with fail
  refine (HC.out _).mono ?_; rintro e w1 ⟨rfl, b1⟩
  have HB1 := Lib.hid (below_new b1)
  clear b1
  go_wp2_with fail
  go_ret
  exact ⟨rfl, HB1.out⟩
theorem any_step {α : Type} [Inhabited α] {f : α → Bool} {l : List α} {k : Nat} (h : k < l.length) : (l.drop k).any f = (f (l.getD k default) || (l.drop (k + 1)).any f) := by
  rw [List.drop_eq_getElem_cons h, List.any_cons, List.getD_eq_getElem?_getD, List.getElem?_eq_getElem h]
  rfl
/-- What IndexFunc leaves: a number that is not below 0 just if one of the row answers. -/
def Idx (b : Bool) (w : World) (e : Ending) (w' : World) : Prop := ∃ r : Int, e = .returned (.int .i64 r) ∧ decide (0 ≤ r) = b ∧ Below w.heap.size w w'
set_option maxHeartbeats 4000000 in
set_option maxRecDepth 100000 in
theorem indexf (v : Value) (l : List Vl) (x : Vl) (g : Nat) (w : World) (hA : Vs w v l) (h1 : Four w g 0 x) :
    Calls Tryz.prog 127 #[v, .func (.func 112) #[] #[.pointer (some ⟨g, 0, none⟩)]] w (Idx (l.any fun y => cv x y == 0) w) := by
  obtain ⟨p, cap, rfl⟩ := hA.1.form
  have hla := hA.2
  have HA := Lib.hid hA
  have HX := Lib.hid h1
  obtain ⟨f, hf⟩ : ∃ f : Vl → Bool, (fun y => cv x y == 0) = f := ⟨_, rfl⟩
  have HC := Lib.hid (fun W y (h : Below w.heap.size w W) => (among11 x y g W (h1.later h)))
  have HFe : Hid (∀ y, (cv x y == 0) = f y) := Lib.hid (fun y => by rw [← hf])
  rw [hf]
  clear hA h1 hf
  go_enter Tryz.func127, Tryz.ntmps127
  go_wp2
  go_loopw [8] (fun i wr => ∃ k : Nat, k ≤ l.length ∧ i = .int .i64 k ∧ (l.drop k).any f = l.any f ∧ Below w.heap.size w wr) (fun i _ => l.length - (intOf i).toNat)
  case atStart => exact ⟨0, Nat.zero_le _, rfl, rfl, Below.refl _ _⟩
  case round =>
    obtain ⟨k, hk, rfl, hall, hbel⟩ := hrel
    have HAl := Lib.hid hall
    have HBel := Lib.hid hbel
    clear hall hbel
    by_cases hkl : k < l.length
    · obtain ⟨p1, cap1, b, o, hv, hp, hb, h4⟩ := four_at HA.out.1 hkl
      simp only [Value.slice.injEq] at hv
      obtain ⟨rfl, _, rfl⟩ := hv
      have hidx := idx_v1 p b o l.length cap k hp hkl
      obtain ⟨c0, c1, c2, c3⟩ := h4.later HBel.out
      have HS := Lib.hid (any_step (f := f) hkl)
      obtain ⟨y, hy⟩ : ∃ y, l.getD k default = y := ⟨_, rfl⟩
      rw [hy] at c0 c1 c2 c3 HS
      have HM := Lib.hid (HC.out wr y HBel.out)
      rw [HFe.out y] at HM
      clear hy hp h4 hb
      cases hfy : f y with
      | true =>
        have HF : Hid (l.any f = true) := Lib.hid (by rw [← HAl.out, HS.out, hfy]; rfl)
        rw [hfy] at HM
        clear hfy
        go_wp2_with fail
        refine HM.out.mono ?_; rintro e w1 ⟨rfl, b1⟩
        have HB1 := Lib.hid (then_ HBel.out b1)
        clear b1
        go_wp2_with fail
        go_ret
        exact ⟨k, rfl, by rw [HF.out]; simp, HB1.out⟩
      | false =>
        have HF : Hid ((l.drop (k + 1)).any f = l.any f) := Lib.hid (by rw [← HAl.out, HS.out, hfy]; rfl)
        rw [hfy] at HM
        clear hfy
        go_wp2_with fail
        refine HM.out.mono ?_; rintro e w1 ⟨rfl, b1⟩
        have HB1 := Lib.hid (then_ HBel.out b1)
        clear b1
        go_wp2_with fail
        go_roundw
        case rel => exact ⟨k + 1, by omega, by simp, HF.out, HB1.out⟩
        case measure => simp [intOf]; omega
    · have hke : k = l.length := by omega
      subst hke
      have HF : Hid (l.any f = false) := Lib.hid (by rw [← HAl.out, List.drop_length]; rfl)
      go_wp2
      go_ret
      exact ⟨-1, rfl, by rw [HF.out]; rfl, HBel.out⟩
set_option maxHeartbeats 4000000 in
set_option maxRecDepth 100000 in
theorem containsf (v : Value) (l : List Vl) (x : Vl) (g : Nat) (w : World) (hA : Vs w v l) (h1 : Four w g 0 x) :
    Calls Tryz.prog 111 #[v, .func (.func 112) #[] #[.pointer (some ⟨g, 0, none⟩)]] w (Gives (.bool (l.any fun y => cv x y == 0)) w) := by
  have HI := Lib.hid (indexf v l x g w hA h1)
  obtain ⟨p, cap, rfl⟩ := hA.1.form
  obtain ⟨q, hq⟩ : ∃ q, (l.any fun y => cv x y == 0) = q := ⟨_, rfl⟩
  rw [hq] at HI ⊢
  clear hA h1 hq
  go_enter Tryz.func111, Tryz.ntmps111
  go_wp2_with fail
  refine HI.out.mono ?_; rintro e w1 ⟨r, rfl, hr, b1⟩
  go_wp2_with fail
  go_ret
  exact ⟨by simp [hr], b1⟩
set_option maxHeartbeats 4000000 in
set_option maxRecDepth 100000 in
theorem among1 (x : Vl) (sp : Option Addr) (sc : Nat) (l : List Vl) (g : Nat) (w : World) (hA : Vs w (.slice sp l.length sc) l) (h1 : w.cell? ⟨g, 0, none⟩ = some (.slice sp l.length sc)) :
    Calls Tryz.prog 110 #[vv x, .pointer (some ⟨g, 0, none⟩)] w (Gives (.bool (l.any fun y => cv x y == 0)) w) := by
  obtain ⟨W0, hW0⟩ : ∃ W0, W0 = w.alloc (.cells #[.int .i64 x.k, .int .i64 x.n, .string x.s, .bool x.b] 42) := ⟨_, rfl⟩
  have hB0 : Below w.heap.size w W0 := by rw [hW0]; exact below_one _ _
  have hx : Blk W0 w.heap.size 42 #[.int .i64 x.k, .int .i64 x.n, .string x.s, .bool x.b] := by rw [hW0]; exact Blk.new _ _ _
  have HC := Lib.hid (containsf _ l x w.heap.size W0 (hA.later hB0) ⟨hx.cell 0 rfl, hx.cell 1 rfl, hx.cell 2 rfl, hx.cell 3 rfl⟩)
  obtain ⟨q, hq⟩ : ∃ q, (l.any fun y => cv x y == 0) = q := ⟨_, rfl⟩
  rw [hq] at HC ⊢
  have hlt : g < w.heap.size := World.block_lt_of_cell? w _ h1
  have HB0 := Lib.hid hB0
  have HW0 := Lib.hid hW0
  clear hA hq hB0 hx hW0
  go_enter Tryz.func110, Tryz.ntmps110
  go_wp2_with fail
  rw [← HW0.out]
  refine HC.out.mono ?_; rintro e w1 ⟨rfl, b1⟩
  have HB1 := Lib.hid (then_ HB0.out b1)
  clear b1
  go_wp2_with fail
  go_ret
  exact ⟨rfl, HB1.out⟩
theorem always1 (x : Vl) (w : World) : Calls Tryz.prog 69 #[vv x] w (Gives (.bool true) w) := by
  go_enter Tryz.func69, Tryz.ntmps69
  go_wp2
  go_ret
  exact ⟨rfl, below_one _ _⟩
theorem never1 (x : Vl) (w : World) : Calls Tryz.prog 79 #[vv x] w (Gives (.bool false) w) := by
  go_enter Tryz.func79, Tryz.ntmps79
  go_wp2
  go_ret
  exact ⟨rfl, below_one _ _⟩
end Go.Proofs.YtaplgoachembdaaGreat.Gm
