/- The contracts of the document's Bare and whole: has a value nothing; the order of values in all that they have. -/
import Derived.Test.YtkfheodcmhodpaaKo0
import Derived.Test.YtkfheodcmhodpaaGm
import Derived.Deep.QuietTactic
import Derived.Test.YtkfheodcmhodpaaTk
import Derived.Test.YtkfheodcmhodpaaKv
import Derived.Test.YtkfheodcmhodpaaKb
/- The contracts of package pred's MayCons and May. -/
set_option linter.unusedSimpArgs false
set_option linter.unusedVariables false
namespace Go.Proofs.Ytkfheodcmhodpaa.Gm
open Go Go.RowKit
attribute [local go_sem ↓] Go.wp_at_zero Go.wp_at_succ
attribute [local go_sem ↓] run_eql_val run_guard_val
section
variable (nm : ByteArray) (op k n : Int) (s : ByteArray) (x : Bool) (sp : Option Addr) (sc : Nat) (l : List Vl) (w : World)
set_option maxHeartbeats 4000000 in
set_option maxRecDepth 20000 in
theorem maycons_prefix (m : Nat) (h1 : ¬ nm.size < 1) (h2 : ¬ 16 < nm.size) : Calls Try.prog 66 #[con nm 8 k n s x sp m sc] w (Gives (.bool (mayB k n s x && decide (k = 2) && decide (m = 0))) w) := by
  have d1 : decide ((nm.size : Int) < 1) = false := by simp; omega
  have d2 : decide ((16 : Int) < (nm.size : Int)) = false := by simp; omega
  have HM := Lib.hid (fun W => may_any k n s x W)
  obtain ⟨r, hr⟩ : ∃ r, mayB k n s x = r := ⟨_, rfl⟩
  obtain ⟨d, hd⟩ : ∃ d, decide (m = 0) = d := ⟨_, rfl⟩
  obtain ⟨q, hq⟩ : ∃ q, decide (k = 2) = q := ⟨_, rfl⟩
  have e1 : ((m : Int) == 0) = d := by rw [← hd]; by_cases h : m = 0 <;> simp [h]
  have e2 : (k == 2) = q := by rw [← hq]; by_cases h : k = 2 <;> simp [h]
  rw [hr] at HM ⊢
  rw [hd, hq]
  clear h1 h2 hr hd hq
  cases r <;> cases q
  all_goals
    go_enter Try.func66, Try.ntmps66
    go_wp2_with fail
    refine (HM.out _).mono ?_; rintro e w1 ⟨rfl, b1⟩
    have q6 : w1.cell? ⟨w.heap.size, 6, none⟩ = some (.slice sp m sc) := by rw [b1.cell (p := ⟨w.heap.size, 6, none⟩) (by simp)]; simp
    have q2 : w1.cell? ⟨w.heap.size, 2, none⟩ = some (.int .i64 k) := by rw [b1.cell (p := ⟨w.heap.size, 2, none⟩) (by simp)]; simp
    have HB1 := Lib.hid (below_new b1)
    clear b1
    go_wp2_with fail
    go_ret
    exact ⟨by simp, HB1.out⟩
set_option maxHeartbeats 4000000 in
set_option maxRecDepth 20000 in
theorem maycons_in (hS : Vs w (.slice sp l.length sc) l) (h1 : ¬ nm.size < 1) (h2 : ¬ 16 < nm.size) : Calls Try.prog 66 #[con nm 9 k n s x sp l.length sc] w (Gives (.bool (eqlVal k n s x 0 0 ⟨#[]⟩ false && maySt l)) w) := by
  have d1 : decide ((nm.size : Int) < 1) = false := by simp; omega
  have d2 : decide ((16 : Int) < (nm.size : Int)) = false := by simp; omega
  have HM := Lib.hid (fun W (h : Below w.heap.size w W) => mayset_any _ l W (hS.later h))
  obtain ⟨r, hr⟩ : ∃ r, eqlVal k n s x 0 0 ⟨#[]⟩ false = r := ⟨_, rfl⟩
  obtain ⟨d, hd⟩ : ∃ d, maySt l = d := ⟨_, rfl⟩
  rw [hd] at HM ⊢
  rw [hr]
  clear h1 h2 hd hS
  cases r with
  | false =>
    go_enter Try.func66, Try.ntmps66
    go_wp2
    go_ret
    exact ⟨rfl, below_one _ _⟩
  | true =>
    go_enter Try.func66, Try.ntmps66
    go_wp2_with fail
    refine (HM.out _ (below_one _ _)).mono ?_; rintro e w1 ⟨rfl, b1⟩
    have HB1 := Lib.hid (below_new b1)
    clear b1
    go_wp2_with fail
    go_ret
    exact ⟨by simp, HB1.out⟩
set_option maxHeartbeats 4000000 in
set_option maxRecDepth 20000 in
theorem maycons_other (m : Nat) (h1 : ¬ nm.size < 1) (h2 : ¬ 16 < nm.size) (ho : ¬ (1 ≤ op ∧ op ≤ 9)) : Calls Try.prog 66 #[con nm op k n s x sp m sc] w (Gives (.bool false) w) := by
  have d1 : decide ((nm.size : Int) < 1) = false := by simp; omega
  have d2 : decide ((16 : Int) < (nm.size : Int)) = false := by simp; omega
  have e1 : (op == 1) = false := by simp; omega
  have e2 : (op == 2) = false := by simp; omega
  have e3 : (op == 3) = false := by simp; omega
  have e4 : (op == 4) = false := by simp; omega
  have e5 : (op == 5) = false := by simp; omega
  have e6 : (op == 6) = false := by simp; omega
  have e7 : (op == 7) = false := by simp; omega
  have e8 : (op == 8) = false := by simp; omega
  have e9 : (op == 9) = false := by simp; omega
  clear h1 h2 ho
  go_enter Try.func66, Try.ntmps66
  go_wp2
  go_ret
  exact ⟨rfl, below_one _ _⟩
end
theorem maycons_any (c : Cn) (w : World) (hS : Vs w c.sv c.set) : Calls Try.prog 66 #[cc c] w (Gives (.bool (mayCn c)) w) := by
  by_cases h1 : c.nm.size < 1
  · rw [show mayCn c = false by simp [mayCn]; omega]
    exact maycons_name _ _ _ _ _ _ _ _ _ _ (.inl h1)
  by_cases h2 : 16 < c.nm.size
  · rw [show mayCn c = false by simp [mayCn]; omega]
    exact maycons_name _ _ _ _ _ _ _ _ _ _ (.inr h2)
  have he : mayCn c = mayOp c.op c.v c.set := by simp only [mayCn, decide_eq_true (by omega : 1 ≤ c.nm.size), decide_eq_true (by omega : c.nm.size ≤ 16), Bool.true_and]
  rw [he]
  obtain ⟨nm, op, ⟨k, n, s, x⟩, sp, sc, l⟩ := c
  simp only at h1 h2 ⊢
  by_cases o1 : op = 1
  · subst o1
    exact maycons_has nm k n s x sp sc w _ h1 h2
  by_cases o9 : op = 9
  · subst o9
    exact maycons_in nm k n s x sp sc l w hS h1 h2
  by_cases o27 : 2 ≤ op ∧ op ≤ 7
  · have h := maycons_ord nm op k n s x sp sc w l.length h1 h2 (by omega)
    rw [show mayOp op ⟨k, n, s, x⟩ l = (mayB k n s x && decide (l.length = 0)) by simp only [mayOp, if_neg o1, if_neg o9, if_pos o27]; rfl]
    exact h
  by_cases o8 : op = 8
  · subst o8
    exact maycons_prefix nm k n s x sp sc w _ h1 h2
  · rw [show mayOp op ⟨k, n, s, x⟩ l = false by simp only [mayOp, if_neg o1, if_neg o9, if_neg o27, if_neg o8]]
    exact maycons_other nm op k n s x sp sc w _ h1 h2 (by omega)

set_option maxHeartbeats 2000000 in
set_option maxRecDepth 20000 in
theorem maypred_any (v : Value) (l : List Cn) (w : World) (hA : Cs w v l) : Calls Try.prog 31 #[v] w (Gives (.bool (mayPr l)) w) := by
  obtain ⟨p, cap, rfl⟩ := hA.1.form
  have hla := hA.2.1
  have HA := Lib.hid hA
  clear hA
  by_cases h6 : 6 < l.length
  · have HE : Hid (mayPr l = false) := Lib.hid (by simp [mayPr]; omega)
    have d6 : decide ((6 : Int) < (l.length : Int)) = true := by simp; omega
    clear h6
    go_enter Try.func31, Try.ntmps31
    go_wp2
    go_ret
    exact ⟨ret_bool HE.out.symm, Below.refl _ _⟩
  have d6 : decide ((6 : Int) < (l.length : Int)) = false := by simp; omega
  have HE : Hid (mayPr l = l.all mayCn) := Lib.hid (by simp only [mayPr, decide_eq_true (by omega : l.length ≤ 6), Bool.true_and])
  clear h6
  go_enter Try.func31, Try.ntmps31
  go_wp2
  go_loopw [10] (fun i wr => ∃ k : Nat, k ≤ l.length ∧ i = .int .i64 k ∧ (l.drop k).all mayCn = l.all mayCn ∧ Below w.heap.size w wr) (fun i _ => l.length - (intOf i).toNat)
  case atStart => exact ⟨0, Nat.zero_le _, rfl, rfl, Below.refl _ _⟩
  case round =>
    obtain ⟨k, hk, rfl, hall, hbel⟩ := hrel
    have HAl := Lib.hid hall
    have HBel := Lib.hid hbel
    clear hall hbel
    by_cases hkl : k < l.length
    · obtain ⟨p1, cap1, b, o, hv, hp, hb, h4⟩ := seven_at HA.out.1 hkl
      simp only [Value.slice.injEq] at hv
      obtain ⟨rfl, _, rfl⟩ := hv
      have hidx := idx_c3 p b o l.length cap k hp hkl
      obtain ⟨c0, c1, c2, c3, c4, c5, c6⟩ := h4.later HBel.out
      have HS := Lib.hid (all_step (f := mayCn) hkl)
      have HSt := Lib.hid ((HA.out.at hkl).later (HBel.out.alloc HBel.out.size (.cells #[.string (l.getD k default).nm, .int .i64 (l.getD k default).op, .int .i64 (l.getD k default).v.k, .int .i64 (l.getD k default).v.n, .string (l.getD k default).v.s, .bool (l.getD k default).v.b, .slice (l.getD k default).sp (l.getD k default).set.length (l.getD k default).sc] 99)))
      obtain ⟨c, hx⟩ : ∃ c, l.getD k default = c := ⟨_, rfl⟩
      rw [hx] at c0 c1 c2 c3 c4 c5 c6 HS HSt
      have HM := Lib.hid (maycons_any c _ HSt.out)
      clear hx hp h4 hb HSt
      cases hmx : mayCn c with
      | false =>
        have HF : Hid (l.all mayCn = false) := Lib.hid (by rw [← HAl.out, HS.out, hmx]; rfl)
        rw [hmx] at HM
        clear hmx
        go_wp2_with fail
        refine HM.out.mono ?_; rintro e w1 ⟨rfl, b1⟩
        have HB1 := Lib.hid (then_ (HBel.out.alloc HBel.out.size _) b1)
        clear b1
        go_wp2_with fail
        go_ret
        exact ⟨ret_bool (by rw [HE.out, HF.out]), HB1.out⟩
      | true =>
        have HF : Hid ((l.drop (k + 1)).all mayCn = l.all mayCn) := Lib.hid (by rw [← HAl.out, HS.out, hmx]; rfl)
        rw [hmx] at HM
        clear hmx
        go_wp2_with fail
        refine HM.out.mono ?_; rintro e w1 ⟨rfl, b1⟩
        have HB1 := Lib.hid (then_ (HBel.out.alloc HBel.out.size _) b1)
        clear b1
        go_wp2_with fail
        go_roundw
        case rel => exact ⟨k + 1, by omega, by simp, HF.out, HB1.out⟩
        case measure => simp [intOf]; omega
    · have hke : k = l.length := by omega
      subst hke
      have HF : Hid (l.all mayCn = true) := Lib.hid (by rw [← HAl.out, List.drop_length]; rfl)
      go_wp2
      go_ret
      exact ⟨ret_bool (by rw [HE.out, HF.out]), HBel.out⟩
end Go.Proofs.Ytkfheodcmhodpaa.Gm
/- A region that draws its order, whose operations only read and whose callees may make memory, walked once in the order of the text, guards and all. -/
set_option linter.unusedSimpArgs false
set_option linter.unusedVariables false
namespace Go.Proofs.Ytkfheodcmhodpaa.Gm
open Go Go.RowKit

/-- A world that comes later: nothing that was there has changed. -/
structure Later (w : World) where
  W : World
  bel : Below w.heap.size w W
instance (w : World) : Nonempty (Later w) := ⟨⟨w, Below.refl _ _⟩⟩
instance (w : World) : Inhabited (Later w) := ⟨⟨w, Below.refl _ _⟩⟩
theorem wp_region_later {P : Program} {id : Nat} {Q : Exit → Act → World → Prop} {a : Act} {w : World} {l : List Oper} (hm : P.follows .mixedOrders = true) (hB : Region.lexB .any l.toArray = true)
    (h : wpQuiet P l.toArray (fun w' => ∃ p : Later w, w' = p.W) (fun a' => ∀ w', (∃ p : Later w, w' = p.W) → Q .normal a' w') l a) : (Code.region id l.toArray true).wp P Q a w :=
  wp_region_quiet (C := fun w' => ∃ p : Later w, w' = p.W) hm hB ⟨⟨{ w with drawn := w.drawn + 1 }, (Below.refl _ w).drew⟩, rfl⟩ (by simpa using h)
theorem later_call {P : Program} {f : FuncId} {args : Array Value} {w : World} (p : Later w) {v : Value} (h : Calls P f args p.W (Gives v p.W)) : Calls P f args p.W fun e w'' => e = .returned v ∧ ∃ q : Later w, w'' = q.W :=
  h.mono fun _ w' ⟨he, hb⟩ => ⟨he, ⟨w', then_ p.bel hb⟩, rfl⟩
theorem Later.cell {w : World} {a : Addr} {v : Value} (h : w.cell? a = some v) (p : Later w) : p.W.cell? a = some v := cell_later p.bel h
end Go.Proofs.Ytkfheodcmhodpaa.Gm
/- Rows in memory, and their orders. -/

set_option linter.unusedSimpArgs false
set_option linter.unusedVariables false
namespace Go.Proofs.Ytkfheodcmhodpaa.Gm
open Go Go.RowKit
attribute [local go_sem ↓] Go.wp_at_zero Go.wp_at_succ

theorem toList_empty (s : ByteArray) : (s.toList == (⟨#[]⟩ : ByteArray).toList) = s.toList.isEmpty := by
  rw [empty_toList]; cases s.toList <;> rfl
set_option maxHeartbeats 4000000 in
set_option maxRecDepth 100000 in
theorem bare_any (x : Vl) (w : World) : Calls Try.prog 121 #[vv x] w (Gives (.bool (bareB x)) w) := by
  have hb : bareB x = (x.k == 0 && (x.n == 0 && (x.s.toList == (⟨#[]⟩ : ByteArray).toList && x.b == false))) := rfl
  rw [hb]
  clear hb
  obtain ⟨k, n, s, b⟩ := x
  simp only
  rw [toList_empty]
  cases h1 : (k == 0)
  · rw [Bool.false_and]
    go_enter Try.func121, Try.ntmps121
    go_wp2
    go_ret
    exact ⟨rfl, below_one _ _⟩
  · cases h2 : (n == 0)
    · rw [Bool.false_and, Bool.and_false]
      go_enter Try.func121, Try.ntmps121
      go_wp2
      go_ret
      exact ⟨rfl, below_one _ _⟩
    · cases h3 : s.toList.isEmpty
      · rw [Bool.false_and, Bool.and_false, Bool.and_false]
        go_enter Try.func121, Try.ntmps121
        go_wp2
        go_ret
        exact ⟨rfl, below_one _ _⟩
      · cases b
        all_goals
          go_enter Try.func121, Try.ntmps121
          go_wp2
          go_ret
          exact ⟨rfl, below_one _ _⟩

/-- Two boxes of values, new. -/
def Box2 (w w1 : World) (a b : Vl) : Prop := Blk w1 w.heap.size 79 #[.int .i64 a.k, .int .i64 a.n, .string a.s, .bool a.b] ∧ Blk w1 (w.heap.size + 1) 79 #[.int .i64 b.k, .int .i64 b.n, .string b.s, .bool b.b] ∧ Below w.heap.size w w1
theorem box2 (w : World) (a b : Vl) : Box2 w ((w.alloc (.cells #[.int .i64 a.k, .int .i64 a.n, .string a.s, .bool a.b] 79)).alloc (.cells #[.int .i64 b.k, .int .i64 b.n, .string b.s, .bool b.b] 79)) a b :=
  ⟨(Blk.new _ _ _).alloc _, by simpa using Blk.new (w.alloc (.cells #[.int .i64 a.k, .int .i64 a.n, .string a.s, .bool a.b] 79)) 79 #[.int .i64 b.k, .int .i64 b.n, .string b.s, .bool b.b], ((Below.refl _ w).alloc (Nat.le_refl _) _).alloc (by simp) _⟩
theorem Box2.later {w w1 w2 : World} {a b : Vl} (h : Box2 w w1 a b) (hb : Below w1.heap.size w1 w2) : Box2 w w2 a b := ⟨h.1.later hb, h.2.1.later hb, then_ h.2.2 hb⟩
set_option maxHeartbeats 4000000 in
set_option maxRecDepth 100000 in
theorem whole_any (a b : Vl) (w : World) : Calls Try.prog 123 #[vv a, vv b] w (Gives (.int .i64 (cmpW a b)) w) := by
  have H1 := Lib.hid (fun W => refcmp_any a.k a.n a.s a.b b.k b.n b.s b.b W)
  have H2 := Lib.hid (fun W => refcmp_int a.n ⟨#[]⟩ false b.n ⟨#[]⟩ false W)
  have H3 := Lib.hid (fun W => refcmp_str 0 a.s false 0 b.s false W)
  have H4 := Lib.hid (fun W => refcmp_bool 0 ⟨#[]⟩ a.b 0 ⟨#[]⟩ b.b W)
  unfold cmpW
  rw [orL4]
  generalize cmpV a.k a.n a.s a.b b.k b.n b.s b.b = r1 at H1 ⊢
  generalize cmpI a.n b.n = r2 at H2 ⊢
  generalize Lib.compareBytes a.s.data.toList b.s.data.toList = r3 at H3 ⊢
  generalize cmpB a.b b.b = r4 at H4 ⊢
  have HX := Lib.hid (box2 w a b)
  have hz : ∀ r : Int, r = 0 → (r != 0) = false ∧ (r == 0) = true := fun r h => by simp [h]
  have hn : ∀ r : Int, ¬ r = 0 → (r != 0) = true ∧ (r == 0) = false := fun r h => by simp [h]
  by_cases h1 : r1 = 0
  · rw [if_pos h1]
    obtain ⟨e1, e1'⟩ := hz r1 h1
    clear h1
    by_cases h2 : r2 = 0
    · rw [if_pos h2]
      obtain ⟨e2, e2'⟩ := hz r2 h2
      clear h2
      by_cases h3 : r3 = 0
      · rw [if_pos h3]
        obtain ⟨e3, e3'⟩ := hz r3 h3
        clear h3 hz hn
        go_enter Try.func123, Try.ntmps123
        go_wp2_with fail
        refine (H1.out _).mono ?_; rintro e w1 ⟨rfl, b1⟩
        have X1 := Lib.hid (HX.out.later b1)
        clear b1
        have c1 := X1.out.1.cell 1 rfl
        have d1 := X1.out.2.1.cell 1 rfl
        go_wp2_with fail
        refine (H2.out _).mono ?_; rintro e w2 ⟨rfl, b1⟩
        have X2 := Lib.hid (X1.out.later b1)
        clear b1 c1 d1
        have c2 := X2.out.1.cell 2 rfl
        have d2 := X2.out.2.1.cell 2 rfl
        go_wp2_with fail
        refine (H3.out _).mono ?_; rintro e w3 ⟨rfl, b1⟩
        have X3 := Lib.hid (X2.out.later b1)
        clear b1 c2 d2
        have c3 := X3.out.1.cell 3 rfl
        have d3 := X3.out.2.1.cell 3 rfl
        go_wp2_with fail
        refine (H4.out _).mono ?_; rintro e w4 ⟨rfl, b1⟩
        have X4 := Lib.hid (X3.out.later b1)
        clear b1 c3 d3
        go_wp2_with fail
        go_ret
        exact ⟨rfl, X4.out.2.2⟩
      · rw [if_neg h3]
        obtain ⟨e3, e3'⟩ := hn r3 h3
        clear h3 hz hn
        go_enter Try.func123, Try.ntmps123
        go_wp2_with fail
        refine (H1.out _).mono ?_; rintro e w1 ⟨rfl, b1⟩
        have X1 := Lib.hid (HX.out.later b1)
        clear b1
        have c1 := X1.out.1.cell 1 rfl
        have d1 := X1.out.2.1.cell 1 rfl
        go_wp2_with fail
        refine (H2.out _).mono ?_; rintro e w2 ⟨rfl, b1⟩
        have X2 := Lib.hid (X1.out.later b1)
        clear b1 c1 d1
        have c2 := X2.out.1.cell 2 rfl
        have d2 := X2.out.2.1.cell 2 rfl
        go_wp2_with fail
        refine (H3.out _).mono ?_; rintro e w3 ⟨rfl, b1⟩
        have X3 := Lib.hid (X2.out.later b1)
        clear b1 c2 d2
        go_wp2_with fail
        go_ret
        exact ⟨rfl, X3.out.2.2⟩
    · rw [if_neg h2]
      obtain ⟨e2, e2'⟩ := hn r2 h2
      clear h2 hz hn
      go_enter Try.func123, Try.ntmps123
      go_wp2_with fail
      refine (H1.out _).mono ?_; rintro e w1 ⟨rfl, b1⟩
      have X1 := Lib.hid (HX.out.later b1)
      clear b1
      have c1 := X1.out.1.cell 1 rfl
      have d1 := X1.out.2.1.cell 1 rfl
      go_wp2_with fail
      refine (H2.out _).mono ?_; rintro e w2 ⟨rfl, b1⟩
      have X2 := Lib.hid (X1.out.later b1)
      clear b1 c1 d1
      go_wp2_with fail
      go_ret
      exact ⟨rfl, X2.out.2.2⟩
  · rw [if_neg h1]
    obtain ⟨e1, e1'⟩ := hn r1 h1
    clear h1 hz hn
    go_enter Try.func123, Try.ntmps123
    go_wp2_with fail
    refine (H1.out _).mono ?_; rintro e w1 ⟨rfl, b1⟩
    have X1 := Lib.hid (HX.out.later b1)
    clear b1
    go_wp2_with fail
    go_ret
    exact ⟨rfl, X1.out.2.2⟩
end Go.Proofs.Ytkfheodcmhodpaa.Gm
