/- The walk of ValueMakes: for any two numbers, two texts and a truth the statement's function returns true, and writes nothing that was there. -/
import Derived.Test.YtlmjlfbmdjaciaaDoorO
set_option linter.unusedSimpArgs false
set_option linter.unusedVariables false
namespace Go.Proofs.YtlmjlfbmdjaciaaDoor
open Go.RowKit
attribute [local go_sem ↓] Go.wp_at_zero Go.wp_at_succ
attribute [local go_sem ↓] run_eql_val run_guard_val

/-- Two values in two blocks. -/
abbrev Cells8 (w' : World) (g : Nat) (k n : Int) (s : ByteArray) (b : Bool) (k' n' : Int) (s' : ByteArray) (b' : Bool) : Prop :=
  w'.cell? ⟨g, 0, none⟩ = some (.int .i64 k) ∧ w'.cell? ⟨g, 1, none⟩ = some (.int .i64 n) ∧ w'.cell? ⟨g, 2, none⟩ = some (.string s) ∧ w'.cell? ⟨g, 3, none⟩ = some (.bool b) ∧
      w'.cell? ⟨g + 1, 0, none⟩ = some (.int .i64 k') ∧ w'.cell? ⟨g + 1, 1, none⟩ = some (.int .i64 n') ∧ w'.cell? ⟨g + 1, 2, none⟩ = some (.string s') ∧ w'.cell? ⟨g + 1, 3, none⟩ = some (.bool b')
def At8 (w' : World) (g : Nat) (k n : Int) (s : ByteArray) (b : Bool) (k' n' : Int) (s' : ByteArray) (b' : Bool) : Prop := Cells8 w' g k n s b k' n' s' b'
theorem At8.below {w w' : World} {g : Nat} {k n : Int} {s : ByteArray} {b : Bool} {k' n' : Int} {s' : ByteArray} {b' : Bool} (h : At8 w g k n s b k' n' s' b') (hb : Below w.heap.size w w') : At8 w' g k n s b k' n' s' b' := by
  obtain ⟨h0, h1, h2, h3, h4, h5, h6, h7⟩ := h
  exact ⟨cell_later hb h0, cell_later hb h1, cell_later hb h2, cell_later hb h3, cell_later hb h4, cell_later hb h5, cell_later hb h6, cell_later hb h7⟩
theorem At8.out {w : World} {g : Nat} {k n : Int} {s : ByteArray} {b : Bool} {k' n' : Int} {s' : ByteArray} {b' : Bool} (h : At8 w g k n s b k' n' s' b') : Cells8 w g k n s b k' n' s' b' := h
theorem At8.new (w : World) (k n : Int) (s : ByteArray) (b : Bool) (k' n' : Int) (s' : ByteArray) (b' : Bool) :
    At8 ((w.alloc (.cells #[.int .i64 k, .int .i64 n, .string s, .bool b] 23)).alloc (.cells #[.int .i64 k', .int .i64 n', .string s', .bool b'] 23)) w.heap.size k n s b k' n' s' b' := by
  obtain ⟨h0, h1, h2, h3⟩ := (At4.new w k n s b).alloc (.cells #[.int .i64 k', .int .i64 n', .string s', .bool b'] 23)
  obtain ⟨h4, h5, h6, h7⟩ := two_new w k n s b k' n' s' b'
  exact ⟨h0, h1, h2, h3, h4, h5, h6, h7⟩

set_option maxHeartbeats 4000000 in
set_option maxRecDepth 100000 in
theorem makes_core (n m : Int) (s t : ByteArray) (b : Bool) (w : World) (hE : Env w) (P Q R : Bool) (c d : Int)
    (hP : decide (n < m) = P) (hc : decide (c < 0) = P) (hQ : Op.bytesLess s.toList t.toList = Q) (hd : decide (d < 0) = Q) (hR : decide ((s.size : Int) ≤ 32) = R)
    (m1 : ∀ W, Calls Tryd.prog 10 #[val 1 n ⟨#[]⟩ false] W (Gives (.bool true) W)) (m2 : ∀ W, Calls Tryd.prog 10 #[val 2 0 s false] W (Gives (.bool R) W)) (m3 : ∀ W, Calls Tryd.prog 10 #[val 3 0 ⟨#[]⟩ b] W (Gives (.bool true) W))
    (c1 : ∀ W, Calls Tryd.prog 12 #[val 1 n ⟨#[]⟩ false, val 1 m ⟨#[]⟩ false] W (Gives (.int .i64 c) W)) (c2 : ∀ W, Calls Tryd.prog 12 #[val 2 0 s false, val 2 0 t false] W (Gives (.int .i64 d) W))
    (c3 : ∀ W, Calls Tryd.prog 12 #[val 1 n ⟨#[]⟩ false, val 2 0 s false] W (Gives (.int .i64 (-1)) W)) (c4 : ∀ W, Calls Tryd.prog 12 #[val 2 0 s false, val 3 0 ⟨#[]⟩ b] W (Gives (.int .i64 (-1)) W)) :
    Calls Tryd.prog 7 #[.agg #[.int .i64 n, .int .i64 m, .string s, .string t, .bool b]] w (Gives (.bool true) w) := by
  have C1 := Lib.hid c1; have C2 := Lib.hid c2; have C3 := Lib.hid c3; have C4 := Lib.hid c4; have M1 := Lib.hid m1; have M2 := Lib.hid m2; have M3 := Lib.hid m3
  clear c1 c2 c3 c4 m1 m2 m3
  have hfld : ∀ W, (Instr.field 23 (val 3 0 ⟨#[]⟩ b) 3).run Tryd.prog W = .ok (.bool b) W := fun _ => by kernel_rfl
  go_enter Tryd.func7, Tryd.ntmps7
  go_wp2_with fail
  go_quiet (fail)
  have E0 := (hE.alloc (.cells #[.int .i64 n, .int .i64 m, .string s, .string t, .bool b] 40)).below (below_drewN (Below.refl _ _) nq)
  go_wp2_with fail
  refine (number_any n _).mono ?_; rintro e w1 ⟨rfl, B1⟩
  have E1 := E0.below B1
  go_wp2_with fail
  refine (word_any s _).mono ?_; rintro e w2 ⟨rfl, B2⟩
  have E2 := ((E1.below B2).alloc (.cells #[.int .i64 1, .int .i64 n, .string ⟨#[]⟩, .bool false] 23)).alloc (.cells #[.int .i64 2, .int .i64 0, .string s, .bool false] 23)
  have B02 : Below w.heap.size w w2 := then_ (below_new (then_ (below_drewN (Below.refl _ _) nq) B1)) B2
  have T2 := At8.new w2 1 n ⟨#[]⟩ false 2 0 s false
  clear B1 B2 E0 E1 hE
  go_wp2_with fail
  refine (M1.out _).mono ?_; rintro e w3 ⟨rfl, B3⟩
  have T3 := T2.below B3; have E3 := E2.below B3; have q3 := T3.out
  have B03 : Below w.heap.size w w3 := then_ B02 (below_new (below_new B3))
  clear T2 E2 B02 B3
  go_wp2_with fail
  refine (truth_any b _).mono ?_; rintro e w4 ⟨rfl, B4⟩
  have T4 := T3.below B4; have E4 := E3.below B4; have q4 := T4.out
  clear T3 E3 q3
  go_wp2_with fail
  refine (M3.out _).mono ?_; rintro e w5 ⟨rfl, B5⟩
  have T5 := T4.below B5; have E5 := E4.below B5; have q5 := T5.out
  clear T4 E4 q4
  go_wp2_with fail
  refine (M2.out _).mono ?_; rintro e w6 ⟨rfl, B6⟩
  have T6 := T5.below B6; have E6 := E5.below B6; have q6 := T6.out
  clear T5 E5 q5
  go_wp2_with fail
  refine (truth_any b _).mono ?_; rintro e w7 ⟨rfl, B7⟩
  have T7 := T6.below B7; have E7 := E6.below B7; have q7 := T7.out
  have B07 : Below w.heap.size w w7 := then_ B03 (then_ B4 (then_ B5 (then_ B6 B7)))
  clear T6 E6 q6 B03 B4 B5 B6 B7
  go_wp2_with fail
  go_region_held3 (fun w' => w'.cell? ⟨w2.heap.size, 0, none⟩ = some (.int .i64 1) ∧ w'.cell? ⟨w2.heap.size, 1, none⟩ = some (.int .i64 n) ∧ w'.cell? ⟨w2.heap.size, 2, none⟩ = some (.string ⟨#[]⟩) ∧ w'.cell? ⟨w2.heap.size, 3, none⟩ = some (.bool false) ∧
      w'.cell? ⟨w2.heap.size + 1, 0, none⟩ = some (.int .i64 2) ∧ w'.cell? ⟨w2.heap.size + 1, 1, none⟩ = some (.int .i64 0) ∧ w'.cell? ⟨w2.heap.size + 1, 2, none⟩ = some (.string s) ∧ w'.cell? ⟨w2.heap.size + 1, 3, none⟩ = some (.bool false))
    (first | exact T7.out | (repeat' apply And.intro) <;> (refine cell_later (by assumption) ?_; first | assumption | simp [*]))
    (first | (go_at_call 18; refine (number_any m _).mono ?_; rintro e w8 ⟨rfl, B8⟩) | (go_at_call 12; (with_reducible refine (C1.out _).mono ?_); rintro e w9 ⟨rfl, B9⟩) | (go_at_call 19; refine (word_any t _).mono ?_; rintro e w10 ⟨rfl, B10⟩) | (go_at_call 12; (with_reducible refine (C2.out _).mono ?_); rintro e w11 ⟨rfl, B11⟩))
  rename_i hh
  have T11 : At8 w11 w2.heap.size 1 n ⟨#[]⟩ false 2 0 s false := hh
  have B7d : Below w7.heap.size w7 w11 := then_ (then_ ((Below.refl _ _).drew) B8) (then_ B9 (then_ B10 B11))
  have E11 := (E7.below B7d).drew
  have B011 : Below w.heap.size w w11 := then_ B07 B7d
  clear hh q7 T7 E7 B07 B7d B8 B9 B10 B11
  have q11 := T11.out
  go_wp2_with fail
  go_region_held3 (fun w' => w'.cell? ⟨w2.heap.size, 0, none⟩ = some (.int .i64 1) ∧ w'.cell? ⟨w2.heap.size, 1, none⟩ = some (.int .i64 n) ∧ w'.cell? ⟨w2.heap.size, 2, none⟩ = some (.string ⟨#[]⟩) ∧ w'.cell? ⟨w2.heap.size, 3, none⟩ = some (.bool false) ∧
      w'.cell? ⟨w2.heap.size + 1, 0, none⟩ = some (.int .i64 2) ∧ w'.cell? ⟨w2.heap.size + 1, 1, none⟩ = some (.int .i64 0) ∧ w'.cell? ⟨w2.heap.size + 1, 2, none⟩ = some (.string s) ∧ w'.cell? ⟨w2.heap.size + 1, 3, none⟩ = some (.bool false))
    (first | exact T11.out | (repeat' apply And.intro) <;> (refine cell_later (by assumption) ?_; first | assumption | simp [*]))
    (first | (go_at_call 9; refine (awake_any _ E11).mono ?_; rintro e w12 ⟨rfl, B12⟩) | (go_at_call 12; (with_reducible refine (C3.out _).mono ?_); rintro e w13 ⟨rfl, B13⟩) | (go_at_call 20; refine (truth_any b _).mono ?_; rintro e w14 ⟨rfl, B14⟩) | (go_at_call 12; (with_reducible refine (C4.out _).mono ?_); rintro e w15 ⟨rfl, B15⟩))
  go_wp2
  go_ret
  exact ⟨rfl, then_ B011 (then_ (then_ ((Below.refl _ _).drew) B12) (then_ B13 (then_ B14 B15)))⟩

theorem law_makes (n m : Int) (s t : ByteArray) (b : Bool) (w : World) (hE : Env w) : Calls Tryd.prog 7 #[.agg #[.int .i64 n, .int .i64 m, .string s, .string t, .bool b]] w (Gives (.bool true) w) := by
  refine makes_core n m s t b w hE _ _ _ (cmpI n m) (Lib.compareBytes s.data.toList t.data.toList) rfl ?_ rfl ?_ rfl (fun W => ?_) (fun W => ?_) (fun W => ?_) (fun W => ?_) (fun W => ?_) (fun W => ?_) (fun W => ?_)
  · unfold cmpI
    by_cases h : n < m
    · simp [h]
    · by_cases h2 : m < n <;> simp [h, h2]
  · rw [less_iff, toList_data, toList_data]
    rcases compareBytes_three s.data.toList t.data.toList with h | ⟨h, _⟩ | h <;> rw [h] <;> rfl
  · have := may_any 1 n ⟨#[]⟩ false W
    rwa [show mayB 1 n ⟨#[]⟩ false = true by simp [mayB, empty_toList]] at this
  · have := may_any 2 0 s false W
    rwa [show mayB 2 0 s false = decide ((s.size : Int) ≤ 32) by rw [mayB_2, Bool.eq_iff_iff]; simp; omega] at this
  · have := may_any 3 0 ⟨#[]⟩ b W
    rwa [show mayB 3 0 ⟨#[]⟩ b = true by simp [mayB, empty_toList]] at this
  · have := compare_any 1 n ⟨#[]⟩ false 1 m ⟨#[]⟩ false W
    rwa [show cmpV 1 n ⟨#[]⟩ false 1 m ⟨#[]⟩ false = cmpI n m by simp [cmpV]] at this
  · have := compare_any 2 0 s false 2 0 t false W
    rwa [show cmpV 2 0 s false 2 0 t false = Lib.compareBytes s.data.toList t.data.toList by simp [cmpV]] at this
  · have := compare_any 1 n ⟨#[]⟩ false 2 0 s false W
    rwa [show cmpV 1 n ⟨#[]⟩ false 2 0 s false = -1 by simp [cmpV, cmpI]] at this
  · have := compare_any 2 0 s false 3 0 ⟨#[]⟩ b W
    rwa [show cmpV 2 0 s false 3 0 ⟨#[]⟩ b = -1 by simp [cmpV, cmpI]] at this
end Go.Proofs.YtlmjlfbmdjaciaaDoor
