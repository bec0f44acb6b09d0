/- The contracts of the document's Bare and whole: has a value nothing; the order of values in all that they have. -/
import Derived.Test.YtaplgoachembdaaGreatKp0
import Derived.Test.YtaplgoachembdaaGreatKw
import Derived.Test.YtaplgoachembdaaGreatKL
import Derived.Test.YtaplgoachembdaaGreatKb
set_option linter.unusedSimpArgs false
set_option linter.unusedVariables false
namespace Go.Proofs.YtaplgoachembdaaGreat.Gm
open Go Go.RowKit
attribute [local go_sem ↓] Go.wp_at_zero Go.wp_at_succ

theorem toList_empty (s : ByteArray) : (s.toList == (⟨#[]⟩ : ByteArray).toList) = s.toList.isEmpty := by
  rw [empty_toList]; cases s.toList <;> rfl
set_option maxHeartbeats 4000000 in
set_option maxRecDepth 100000 in
theorem bare_any (x : Vl) (w : World) : Calls Tryz.prog 104 #[vv x] w (Gives (.bool (bareB x)) w) := by
  have hb : bareB x = (x.k == 0 && (x.n == 0 && (x.s.toList == (⟨#[]⟩ : ByteArray).toList && x.b == false))) := rfl
  rw [hb]
  clear hb
  obtain ⟨k, n, s, b⟩ := x
  simp only
  rw [toList_empty]
  cases h1 : (k == 0)
  · rw [Bool.false_and]
    go_enter Tryz.func104, Tryz.ntmps104
    go_wp2
    go_ret
    exact ⟨rfl, below_one _ _⟩
  · cases h2 : (n == 0)
    · rw [Bool.false_and, Bool.and_false]
      go_enter Tryz.func104, Tryz.ntmps104
      go_wp2
      go_ret
      exact ⟨rfl, below_one _ _⟩
    · cases h3 : s.toList.isEmpty
      · rw [Bool.false_and, Bool.and_false, Bool.and_false]
        go_enter Tryz.func104, Tryz.ntmps104
        go_wp2
        go_ret
        exact ⟨rfl, below_one _ _⟩
      · cases b
        all_goals
          go_enter Tryz.func104, Tryz.ntmps104
          go_wp2
          go_ret
          exact ⟨rfl, below_one _ _⟩

/-- Two boxes of values, new. -/
def Box2 (w w1 : World) (a b : Vl) : Prop := Blk w1 w.heap.size 42 #[.int .i64 a.k, .int .i64 a.n, .string a.s, .bool a.b] ∧ Blk w1 (w.heap.size + 1) 42 #[.int .i64 b.k, .int .i64 b.n, .string b.s, .bool b.b] ∧ Below w.heap.size w w1
theorem box2 (w : World) (a b : Vl) : Box2 w ((w.alloc (.cells #[.int .i64 a.k, .int .i64 a.n, .string a.s, .bool a.b] 42)).alloc (.cells #[.int .i64 b.k, .int .i64 b.n, .string b.s, .bool b.b] 42)) a b :=
  ⟨(Blk.new _ _ _).alloc _, by simpa using Blk.new (w.alloc (.cells #[.int .i64 a.k, .int .i64 a.n, .string a.s, .bool a.b] 42)) 42 #[.int .i64 b.k, .int .i64 b.n, .string b.s, .bool b.b], ((Below.refl _ w).alloc (Nat.le_refl _) _).alloc (by simp) _⟩
theorem Box2.later {w w1 w2 : World} {a b : Vl} (h : Box2 w w1 a b) (hb : Below w1.heap.size w1 w2) : Box2 w w2 a b := ⟨h.1.later hb, h.2.1.later hb, then_ h.2.2 hb⟩
set_option maxHeartbeats 4000000 in
set_option maxRecDepth 100000 in
theorem whole_any (a b : Vl) (w : World) : Calls Tryz.prog 67 #[vv a, vv b] w (Gives (.int .i64 (cmpW a b)) w) := by
  have H1 := Lib.hid (fun W => refcmp_any a.k a.n a.s a.b b.k b.n b.s b.b W)
  have H2 := Lib.hid (fun W => refcmp_int a.n ⟨#[]⟩ false b.n ⟨#[]⟩ false W)
  have H3 := Lib.hid (fun W => refcmp_str 0 a.s false 0 b.s false W)
  have H4 := Lib.hid (fun W => refcmp_bool 0 ⟨#[]⟩ a.b 0 ⟨#[]⟩ b.b W)
  unfold cmpW
  rw [orL4]
  generalize cmpV a.k a.n a.s a.b b.k b.n b.s b.b = r1 at H1 ⊢
  generalize cmpI a.n b.n = r2 at H2 ⊢
  generalize Lib.compareBytes a.s.data.toList b.s.data.toList = r3 at H3 ⊢
  generalize cmpB a.b b.b = r4 at H4 ⊢
  have HX := Lib.hid (box2 w a b)
  have hz : ∀ r : Int, r = 0 → (r != 0) = false ∧ (r == 0) = true := fun r h => by simp [h]
  have hn : ∀ r : Int, ¬ r = 0 → (r != 0) = true ∧ (r == 0) = false := fun r h => by simp [h]
  by_cases h1 : r1 = 0
  · rw [if_pos h1]
    obtain ⟨e1, e1'⟩ := hz r1 h1
    clear h1
    by_cases h2 : r2 = 0
    · rw [if_pos h2]
      obtain ⟨e2, e2'⟩ := hz r2 h2
      clear h2
      by_cases h3 : r3 = 0
      · rw [if_pos h3]
        obtain ⟨e3, e3'⟩ := hz r3 h3
        clear h3 hz hn
        go_enter Tryz.func67, Tryz.ntmps67
        go_wp2_with fail
        refine (H1.out _).mono ?_; rintro e w1 ⟨rfl, b1⟩
        have X1 := Lib.hid (HX.out.later b1)
        clear b1
        have c1 := X1.out.1.cell 1 rfl
        have d1 := X1.out.2.1.cell 1 rfl
        go_wp2_with fail
        refine (H2.out _).mono ?_; rintro e w2 ⟨rfl, b1⟩
        have X2 := Lib.hid (X1.out.later b1)
        clear b1 c1 d1
        have c2 := X2.out.1.cell 2 rfl
        have d2 := X2.out.2.1.cell 2 rfl
        go_wp2_with fail
        refine (H3.out _).mono ?_; rintro e w3 ⟨rfl, b1⟩
        have X3 := Lib.hid (X2.out.later b1)
        clear b1 c2 d2
        have c3 := X3.out.1.cell 3 rfl
        have d3 := X3.out.2.1.cell 3 rfl
        go_wp2_with fail
        refine (H4.out _).mono ?_; rintro e w4 ⟨rfl, b1⟩
        have X4 := Lib.hid (X3.out.later b1)
        clear b1 c3 d3
        go_wp2_with fail
        go_ret
        exact ⟨rfl, X4.out.2.2⟩
      · rw [if_neg h3]
        obtain ⟨e3, e3'⟩ := hn r3 h3
        clear h3 hz hn
        go_enter Tryz.func67, Tryz.ntmps67
        go_wp2_with fail
        refine (H1.out _).mono ?_; rintro e w1 ⟨rfl, b1⟩
        have X1 := Lib.hid (HX.out.later b1)
        clear b1
        have c1 := X1.out.1.cell 1 rfl
        have d1 := X1.out.2.1.cell 1 rfl
        go_wp2_with fail
        refine (H2.out _).mono ?_; rintro e w2 ⟨rfl, b1⟩
        have X2 := Lib.hid (X1.out.later b1)
        clear b1 c1 d1
        have c2 := X2.out.1.cell 2 rfl
        have d2 := X2.out.2.1.cell 2 rfl
        go_wp2_with fail
        refine (H3.out _).mono ?_; rintro e w3 ⟨rfl, b1⟩
        have X3 := Lib.hid (X2.out.later b1)
        clear b1 c2 d2
        go_wp2_with fail
        go_ret
        exact ⟨rfl, X3.out.2.2⟩
    · rw [if_neg h2]
      obtain ⟨e2, e2'⟩ := hn r2 h2
      clear h2 hz hn
      go_enter Tryz.func67, Tryz.ntmps67
      go_wp2_with fail
      refine (H1.out _).mono ?_; rintro e w1 ⟨rfl, b1⟩
      have X1 := Lib.hid (HX.out.later b1)
      clear b1
      have c1 := X1.out.1.cell 1 rfl
      have d1 := X1.out.2.1.cell 1 rfl
      go_wp2_with fail
      refine (H2.out _).mono ?_; rintro e w2 ⟨rfl, b1⟩
      have X2 := Lib.hid (X1.out.later b1)
      clear b1 c1 d1
      go_wp2_with fail
      go_ret
      exact ⟨rfl, X2.out.2.2⟩
  · rw [if_neg h1]
    obtain ⟨e1, e1'⟩ := hn r1 h1
    clear h1 hz hn
    go_enter Tryz.func67, Tryz.ntmps67
    go_wp2_with fail
    refine (H1.out _).mono ?_; rintro e w1 ⟨rfl, b1⟩
    have X1 := Lib.hid (HX.out.later b1)
    clear b1
    go_wp2_with fail
    go_ret
    exact ⟨rfl, X1.out.2.2⟩
end Go.Proofs.YtaplgoachembdaaGreat.Gm
