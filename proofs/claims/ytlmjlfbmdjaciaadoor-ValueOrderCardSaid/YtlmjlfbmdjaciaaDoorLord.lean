/- The walk of ValueOrder: for any three values the statement's function returns true, and writes nothing that was there. -/
import Derived.Test.YtlmjlfbmdjaciaaDoorO
set_option linter.unusedSimpArgs false
set_option linter.unusedVariables false
namespace Go.Proofs.YtlmjlfbmdjaciaaDoor
open Go.RowKit
attribute [local go_sem ↓] Go.wp_at_zero Go.wp_at_succ
attribute [local go_sem ↓] run_eql_val run_guard_val

/-- Three values in three new blocks. -/
abbrev three (w : World) (k n : Int) (s : ByteArray) (b : Bool) (k' n' : Int) (s' : ByteArray) (b' : Bool) (k2 n2 : Int) (s2 : ByteArray) (b2 : Bool) : World :=
  ((w.alloc (.cells #[.int .i64 k, .int .i64 n, .string s, .bool b] 23)).alloc (.cells #[.int .i64 k', .int .i64 n', .string s', .bool b'] 23)).alloc (.cells #[.int .i64 k2, .int .i64 n2, .string s2, .bool b2] 23)
theorem three_new (w : World) (k n : Int) (s : ByteArray) (b : Bool) (k' n' : Int) (s' : ByteArray) (b' : Bool) (k2 n2 : Int) (s2 : ByteArray) (b2 : Bool) :
    At4 (three w k n s b k' n' s' b' k2 n2 s2 b2) w.heap.size k n s b ∧ At4 (three w k n s b k' n' s' b' k2 n2 s2 b2) (w.heap.size + 1) k' n' s' b' ∧ At4 (three w k n s b k' n' s' b' k2 n2 s2 b2) (w.heap.size + 1 + 1) k2 n2 s2 b2 := by
  refine ⟨((At4.new w k n s b).alloc _).alloc _, (two_new w k n s b k' n' s' b').alloc _, ?_⟩
  have := At4.new ((w.alloc (.cells #[.int .i64 k, .int .i64 n, .string s, .bool b] 23)).alloc (.cells #[.int .i64 k', .int .i64 n', .string s', .bool b'] 23)) k2 n2 s2 b2
  simpa using this

/-- What the region's loads read. -/
abbrev Cells12 (w' : World) (g : Nat) (k n : Int) (s : ByteArray) (b : Bool) (k' n' : Int) (s' : ByteArray) (b' : Bool) (k2 n2 : Int) (s2 : ByteArray) (b2 : Bool) : Prop :=
  w'.cell? ⟨g, 0, none⟩ = some (.int .i64 k) ∧ w'.cell? ⟨g, 1, none⟩ = some (.int .i64 n) ∧ w'.cell? ⟨g, 2, none⟩ = some (.string s) ∧ w'.cell? ⟨g, 3, none⟩ = some (.bool b) ∧
      w'.cell? ⟨g + 1, 0, none⟩ = some (.int .i64 k') ∧ w'.cell? ⟨g + 1, 1, none⟩ = some (.int .i64 n') ∧ w'.cell? ⟨g + 1, 2, none⟩ = some (.string s') ∧ w'.cell? ⟨g + 1, 3, none⟩ = some (.bool b') ∧
      w'.cell? ⟨g + 1 + 1, 0, none⟩ = some (.int .i64 k2) ∧ w'.cell? ⟨g + 1 + 1, 1, none⟩ = some (.int .i64 n2) ∧ w'.cell? ⟨g + 1 + 1, 2, none⟩ = some (.string s2) ∧ w'.cell? ⟨g + 1 + 1, 3, none⟩ = some (.bool b2)
def At12 (w' : World) (g : Nat) (k n : Int) (s : ByteArray) (b : Bool) (k' n' : Int) (s' : ByteArray) (b' : Bool) (k2 n2 : Int) (s2 : ByteArray) (b2 : Bool) : Prop := Cells12 w' g k n s b k' n' s' b' k2 n2 s2 b2
theorem At12.below {w w' : World} {g : Nat} {k n : Int} {s : ByteArray} {b : Bool} {k' n' : Int} {s' : ByteArray} {b' : Bool} {k2 n2 : Int} {s2 : ByteArray} {b2 : Bool} (h : At12 w g k n s b k' n' s' b' k2 n2 s2 b2) (hb : Below w.heap.size w w') : At12 w' g k n s b k' n' s' b' k2 n2 s2 b2 := by
  obtain ⟨h0, h1, h2, h3, h4, h5, h6, h7, h8, h9, h10, h11⟩ := h
  exact ⟨cell_later hb h0, cell_later hb h1, cell_later hb h2, cell_later hb h3, cell_later hb h4, cell_later hb h5, cell_later hb h6, cell_later hb h7, cell_later hb h8, cell_later hb h9, cell_later hb h10, cell_later hb h11⟩
theorem At12.out {w : World} {g : Nat} {k n : Int} {s : ByteArray} {b : Bool} {k' n' : Int} {s' : ByteArray} {b' : Bool} {k2 n2 : Int} {s2 : ByteArray} {b2 : Bool} (h : At12 w g k n s b k' n' s' b' k2 n2 s2 b2) : Cells12 w g k n s b k' n' s' b' k2 n2 s2 b2 := h

set_option maxHeartbeats 4000000 in
set_option maxRecDepth 100000 in
theorem order_core (k n : Int) (s : ByteArray) (b : Bool) (k' n' : Int) (s' : ByteArray) (b' : Bool) (k2 n2 : Int) (s2 : ByteArray) (b2 : Bool) (w : World) (hE : Env w)
    (X Y Z : Int) (A A' : Bool) (hX : cmpV k n s b k' n' s' b' = X) (hY : cmpV k' n' s' b' k2 n2 s2 b2 = Y) (hZ : cmpV k n s b k2 n2 s2 b2 = Z) (hX' : cmpV k' n' s' b' k n s b = -X) (hS : cmpV k n s b k n s b = 0)
    (x1 : -1 ≤ X) (x2 : X ≤ 1) (hm : X ≤ 0 → Y ≤ 0 → (Z != min X Y) = false) (ha : mayB k n s b = A) (hb : mayB k' n' s' b' = A') (he : A = true → A' = true → ((X == 0) == eqlVal k n s b k' n' s' b') = true) :
    Calls Tryd.prog 6 #[val k n s b, val k' n' s' b', val k2 n2 s2 b2] w (Gives (.bool true) w) := by
  obtain ⟨hO, hO', hO2⟩ := three_new w k n s b k' n' s' b' k2 n2 s2 b2
  have hE2 := (((hE.alloc (.cells #[.int .i64 k, .int .i64 n, .string s, .bool b] 23)).alloc (.cells #[.int .i64 k', .int .i64 n', .string s', .bool b'] 23)).alloc (.cells #[.int .i64 k2, .int .i64 n2, .string s2, .bool b2] 23)).drew
  have c1 := fun W => (compare_any k n s b k' n' s' b' W)
  have c2 := fun W => (compare_any k' n' s' b' k2 n2 s2 b2 W)
  have c3 := fun W => (compare_any k' n' s' b' k n s b W)
  have c4 := fun W => (compare_any k n s b k n s b W)
  have c5 := fun W => (compare_any k n s b k2 n2 s2 b2 W)
  have m1 := fun W => (may_any k n s b W)
  have m2 := fun W => (may_any k' n' s' b' W)
  rw [hX] at c1; rw [hY] at c2; rw [hX'] at c3; rw [hS] at c4; rw [hZ] at c5; rw [ha] at m1; rw [hb] at m2
  have C1 := Lib.hid c1; have C2 := Lib.hid c2; have C3 := Lib.hid c3; have C4 := Lib.hid c4; have C5 := Lib.hid c5; have M1 := Lib.hid m1; have M2 := Lib.hid m2
  have HM := Lib.hid hm
  have HE := Lib.hid he
  clear c1 c2 c3 c4 c5 m1 m2 hX hY hZ hX' hS ha hb hE hm he
  go_enter Tryd.func6, Tryd.ntmps6
  go_wp2_with fail
  go_region_held3 (fun w' => w'.cell? ⟨w.heap.size, 0, none⟩ = some (.int .i64 k) ∧ w'.cell? ⟨w.heap.size, 1, none⟩ = some (.int .i64 n) ∧ w'.cell? ⟨w.heap.size, 2, none⟩ = some (.string s) ∧ w'.cell? ⟨w.heap.size, 3, none⟩ = some (.bool b) ∧
      w'.cell? ⟨w.heap.size + 1, 0, none⟩ = some (.int .i64 k') ∧ w'.cell? ⟨w.heap.size + 1, 1, none⟩ = some (.int .i64 n') ∧ w'.cell? ⟨w.heap.size + 1, 2, none⟩ = some (.string s') ∧ w'.cell? ⟨w.heap.size + 1, 3, none⟩ = some (.bool b') ∧
      w'.cell? ⟨w.heap.size + 1 + 1, 0, none⟩ = some (.int .i64 k2) ∧ w'.cell? ⟨w.heap.size + 1 + 1, 1, none⟩ = some (.int .i64 n2) ∧ w'.cell? ⟨w.heap.size + 1 + 1, 2, none⟩ = some (.string s2) ∧ w'.cell? ⟨w.heap.size + 1 + 1, 3, none⟩ = some (.bool b2))
    (first | exact ⟨hO.1, hO.2.1, hO.2.2.1, hO.2.2.2, hO'.1, hO'.2.1, hO'.2.2.1, hO'.2.2.2, hO2.1, hO2.2.1, hO2.2.2.1, hO2.2.2.2⟩ | (repeat' apply And.intro) <;> (refine cell_later (by assumption) ?_; first | assumption | simp [*]))
    (first | (go_at_call 12; (with_reducible refine (C1.out _).mono ?_); rintro e w1 ⟨rfl, B1⟩) | (go_at_call 12; (with_reducible refine (C2.out _).mono ?_); rintro e w2 ⟨rfl, B2⟩))
  rename_i hh
  have T0 : At12 _ w.heap.size k n s b k' n' s' b' k2 n2 s2 b2 := hh
  have E0 := (hE2.below B1).below B2
  have B0 : Below w.heap.size w _ := then_ (below_new (below_new (below_new (then_ ((Below.refl _ _).drew) B1)))) B2
  clear hh B1 B2 hO hO' hO2 hE2
  have q0 := T0.out
  go_wp2_with fail
  refine (C3.out _).mono ?_; rintro e w3 ⟨rfl, B3⟩
  have T3 := T0.below B3; have E3 := E0.below B3; have q3 := T3.out
  clear q0 T0 E0
  go_wp2_with fail
  refine (C4.out _).mono ?_; rintro e w4 ⟨rfl, B4⟩
  have T4 := T3.below B4; have E4 := E3.below B4; have q4 := T4.out
  have B04 : Below w.heap.size w w4 := then_ B0 (then_ B3 B4)
  clear q3 T3 E3
  by_cases hxy : X ≤ 0 ∧ Y ≤ 0
  · obtain ⟨hx, hy⟩ := hxy
    have hz := HM.out hx hy
    go_wp2_with fail
    refine (C5.out _).mono ?_; rintro e w5 ⟨rfl, B5⟩
    have T5 := T4.below B5; have E5 := E4.below B5; have q5 := T5.out
    have B05 : Below w.heap.size w w5 := then_ B04 B5
    clear q4 T4 E4
    go_wp2_with fail
    refine (awake_any _ E5).mono ?_; rintro e w6 ⟨rfl, B6⟩
    have T6 := T5.below B6; have q6 := T6.out
    clear q5 T5 E5
    go_wp2_with fail
    refine (M1.out _).mono ?_; rintro e w7 ⟨rfl, B7⟩
    have T7 := T6.below B7; have q7 := T7.out
    clear q6 T6
    cases A
    · go_wp2_with fail
      go_ret
      exact ⟨rfl, then_ B05 (then_ B6 B7)⟩
    · go_wp2_with fail
      refine (M2.out _).mono ?_; rintro e w8 ⟨rfl, B8⟩
      have T8 := T7.below B8; have q8 := T8.out
      clear q7 T7
      cases A'
      · go_wp2_with fail
        go_ret
        exact ⟨rfl, then_ B05 (then_ B6 (then_ B7 B8))⟩
      · have he : ((X == 0) == eqlVal k n s b k' n' s' b') = true := by have h := HE.out; simpa using h
        go_wp2_with fail
        go_ret
        exact ⟨rfl, then_ B05 (then_ B6 (then_ B7 B8))⟩
  · have hxy' : 0 < X ∨ (X ≤ 0 ∧ 0 < Y) := by omega
    clear hxy
    rcases hxy' with hx | ⟨hx, hy⟩
    all_goals
      go_wp2_with fail
      refine (awake_any _ E4).mono ?_; rintro e w6 ⟨rfl, B6⟩
      have T6 := T4.below B6; have q6 := T6.out
      clear q4 T4 E4
      go_wp2_with fail
      refine (M1.out _).mono ?_; rintro e w7 ⟨rfl, B7⟩
      have T7 := T6.below B7; have q7 := T7.out
      clear q6 T6
      cases A
      · go_wp2_with fail
        go_ret
        exact ⟨rfl, then_ B04 (then_ B6 B7)⟩
      · go_wp2_with fail
        refine (M2.out _).mono ?_; rintro e w8 ⟨rfl, B8⟩
        have T8 := T7.below B8; have q8 := T8.out
        clear q7 T7
        cases A'
        · go_wp2_with fail
          go_ret
          exact ⟨rfl, then_ B04 (then_ B6 (then_ B7 B8))⟩
        · have he : ((X == 0) == eqlVal k n s b k' n' s' b') = true := by have h := HE.out; simpa using h
          go_wp2_with fail
          go_ret
          exact ⟨rfl, then_ B04 (then_ B6 (then_ B7 B8))⟩

theorem law_order (k n : Int) (s : ByteArray) (b : Bool) (k' n' : Int) (s' : ByteArray) (b' : Bool) (k2 n2 : Int) (s2 : ByteArray) (b2 : Bool) (w : World) (hE : Env w) :
    Calls Tryd.prog 6 #[val k n s b, val k' n' s' b', val k2 n2 s2 b2] w (Gives (.bool true) w) := by
  have t := cmpV_three (k, n, s, b) (k', n', s', b')
  refine order_core k n s b k' n' s' b' k2 n2 s2 b2 w hE _ _ _ _ _ rfl rfl rfl (cmpV_neg (k, n, s, b) (k', n', s', b')) (cmpV_self (k, n, s, b)) ?_ ?_ (fun h1 h2 => ?_) rfl rfl (fun h1 h2 => ?_)
  · rcases t with t | t | t <;> (unfold cmpP at t; simp only at t; omega)
  · rcases t with t | t | t <;> (unfold cmpP at t; simp only at t; omega)
  · have := cmpV_trans (k, n, s, b) (k', n', s', b') (k2, n2, s2, b2) h1 h2
    unfold cmpP at this
    simp only at this
    rw [this]; simp
  · have := cmpV_zero (k, n, s, b) (k', n', s', b') h1 h2
    unfold cmpP at this
    simp only at this
    rw [this]; simp
end Go.Proofs.YtlmjlfbmdjaciaaDoor
