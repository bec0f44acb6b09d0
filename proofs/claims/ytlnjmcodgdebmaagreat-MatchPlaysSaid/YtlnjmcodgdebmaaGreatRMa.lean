/- The contracts of the document's Bare and whole: has a value nothing; the order of values in all that they have. -/
import Derived.Test.YtlnjmcodgdebmaaGreatKa
import Derived.Deep.QuietTactic
import Derived.Test.YtlnjmcodgdebmaaGreatHr
import Derived.Test.YtlnjmcodgdebmaaGreatKf
import Derived.Test.YtlnjmcodgdebmaaGreatKc
/- Layer 8: words for the walk of ask. -/
/- A region that draws its order, whose operations only read and whose callees may make memory, walked once in the order of the text, guards and all. -/
set_option linter.unusedSimpArgs false
set_option linter.unusedVariables false
namespace Go.Proofs.YtlnjmcodgdebmaaGreat.Gm
open Go Go.RowKit

/-- A world that comes later: nothing that was there has changed. -/
structure Later (w : World) where
  W : World
  bel : Below w.heap.size w W
instance (w : World) : Nonempty (Later w) := ⟨⟨w, Below.refl _ _⟩⟩
instance (w : World) : Inhabited (Later w) := ⟨⟨w, Below.refl _ _⟩⟩
theorem wp_region_later {P : Program} {id : Nat} {Q : Exit → Act → World → Prop} {a : Act} {w : World} {l : List Oper} (hm : P.follows .mixedOrders = true) (hB : Region.lexB .any l.toArray = true)
    (h : wpQuiet P l.toArray (fun w' => ∃ p : Later w, w' = p.W) (fun a' => ∀ w', (∃ p : Later w, w' = p.W) → Q .normal a' w') l a) : (Code.region id l.toArray true).wp P Q a w :=
  wp_region_quiet (C := fun w' => ∃ p : Later w, w' = p.W) hm hB ⟨⟨{ w with drawn := w.drawn + 1 }, (Below.refl _ w).drew⟩, rfl⟩ (by simpa using h)
theorem later_call {P : Program} {f : FuncId} {args : Array Value} {w : World} (p : Later w) {v : Value} (h : Calls P f args p.W (Gives v p.W)) : Calls P f args p.W fun e w'' => e = .returned v ∧ ∃ q : Later w, w'' = q.W :=
  h.mono fun _ w' ⟨he, hb⟩ => ⟨he, ⟨w', then_ p.bel hb⟩, rfl⟩
theorem Later.cell {w : World} {a : Addr} {v : Value} (h : w.cell? a = some v) (p : Later w) : p.W.cell? a = some v := cell_later p.bel h
end Go.Proofs.YtlnjmcodgdebmaaGreat.Gm
set_option linter.unusedSimpArgs false
set_option linter.unusedVariables false
namespace Go.Proofs.YtlnjmcodgdebmaaGreat.Gm
open Go Go.RowKit Go.Maps
attribute [local go_sem ↓] Go.wp_at_zero Go.wp_at_succ

/-- The names that were seen, as a set. -/
def SeenIs (D : DataW Value) (l : List ByteArray) : Prop := IsMap D ∧ ∀ nm, nm.size ≤ maxLen → Maps.has D (.string nm.data.toList) = decide (nm ∈ l)
theorem str_lit {a b : ByteArray} (h : a ≠ b) : (Lit.string a.data.toList) ≠ .string b.data.toList := by
  intro e; injection e with e; exact h (bytes_eq e)
theorem SeenIs.put {D : DataW Value} {l : List ByteArray} (h : SeenIs D l) (nm : ByteArray) (d : DataW Value) : SeenIs (D.put (.string nm.data.toList) d) (l ++ [nm]) := by
  refine ⟨?_, fun n hn => ?_⟩
  · exact IsMap.put h.1 _ _
  · by_cases e : n = nm
    · subst e
      rw [has_put_same h.1 (show WideAt.IsKeyLit (.string n.data.toList) from trivial)]
      simp
    · rw [has_put_other (str_lit e), h.2 n hn]
      simp [e]
theorem SeenIs.again {D : DataW Value} {l : List ByteArray} (h : SeenIs D l) {nm : ByteArray} (hm : nm ∈ l) : SeenIs D (l ++ [nm]) := by
  refine ⟨h.1, fun n hn => ?_⟩
  rw [h.2 n hn, decide_eq_decide]
  simp only [List.mem_append, List.mem_singleton]
  constructor
  · exact .inl
  · rintro (h | rfl)
    · exact h
    · exact hm
abbrev atc (x : At) : Array Value := #[.string x.nm, .int .i64 x.v.k, .int .i64 x.v.n, .string x.v.s, .bool x.v.b]
abbrev ooc (x : Int × Cn) : Array Value := #[.int .i64 x.1, .string x.2.nm, .int .i64 x.2.op, .int .i64 x.2.v.k, .int .i64 x.2.v.n, .string x.2.v.s, .bool x.2.v.b, .slice x.2.sp x.2.set.length x.2.sc]
theorem oo_agg (x : Int × Cn) : oo x = .agg (ooc x) := rfl
/-- What stands at a place of ask's outer loop. -/
structure Asks8 (I : List ((Int × Cn) × At) → World → Prop) (pre : List ((Int × Cn) × At)) (seen : List ByteArray) (T bm s : Nat) (w0 w : World) (Ds : DataW Value) (wr : World) : Prop where
  i : I pre wr
  g : w.grownBy wr (some T)
  b : Below w0.heap.size w0 wr
  m : wr.ownsMap Tryz.prog 9 unitElem bm s Ds
  is : SeenIs Ds seen
theorem Asks8.size {I : List ((Int × Cn) × At) → World → Prop} {pre : List ((Int × Cn) × At)} {seen : List ByteArray} {T bm s : Nat} {w0 w : World} {Ds : DataW Value} {wr : World} (h : Asks8 I pre seen T bm s w0 w Ds wr) : w.heap.size ≤ wr.heap.size := h.g.size
theorem Asks8.later {I : List ((Int × Cn) × At) → World → Prop} {pre : List ((Int × Cn) × At)} {seen : List ByteArray} {T bm s : Nat} {w0 w : World} {Ds : DataW Value} {wr wr' : World} (h : Asks8 I pre seen T bm s w0 w Ds wr) (hI : ∀ pre W W', I pre W → SameTo w.heap.size W W' → I pre W') (hb : Below wr.heap.size wr wr') : Asks8 I pre seen T bm s w0 w Ds wr' :=
  ⟨hI _ _ _ h.i (SameTo.of (hb.mono h.size)), grown_then8 h.g (hb.mono h.size), then_ h.b hb, map_later h.m hb h.m.lt, h.is⟩
theorem Asks8.turned {I : List ((Int × Cn) × At) → World → Prop} {pre : List ((Int × Cn) × At)} {seen seen' : List ByteArray} {T bm s s' : Nat} {w0 w : World} {Ds Ds' : DataW Value} {wr wr' : World} (h : Asks8 I pre seen T bm s w0 w Ds wr) (hI : ∀ pre W W', I pre W → SameTo w.heap.size W W' → I pre W') (hg : wr.grownBy wr' (some bm)) (hw : w.heap.size ≤ bm) (hw0 : w0.heap.size ≤ w.heap.size)
    (hm : wr'.ownsMap Tryz.prog 9 unitElem bm s' Ds') (his : SeenIs Ds' seen') : Asks8 I pre seen' T bm s' w0 w Ds' wr' :=
  ⟨hI _ _ _ h.i (SameTo.turned hg h.size hw), grown_then8 h.g (below_turned hg h.size hw), h.b.trans (below_turned hg (Nat.le_trans hw0 h.size) (Nat.le_trans hw0 hw)), hm, his⟩
theorem map_grown {w w' : World} {k : TypeId} {R : Value → Option (DataW Value × List MemPlace)} {b n T : Nat} {D : DataW Value} (h : w.ownsMap Tryz.prog k R b n D) (hg : w.grownBy w' (some T)) (hne : b ≠ T) : w'.ownsMap Tryz.prog k R b n D := by
  have hl := h.lt
  obtain ⟨es, clock, e, r⟩ := h
  exact ⟨es, clock, (hg.block b hl (by rintro he; exact hne (Option.some.inj he))).trans e, r⟩
theorem zero_unit (w : World) : (zeroValue 104).run Tryz.prog w = .ok (.agg #[]) w := by kernel_rfl
/-- What a call of what ask hands its questions to leaves. -/
def Step8 (I : List ((Int × Cn) × At) → World → Prop) (pre : List ((Int × Cn) × At)) (T : Nat) (w : World) (e : Ending) (w' : World) : Prop := e = .returned (.tuple #[]) ∧ I pre w' ∧ w.grownBy w' (some T)
end Go.Proofs.YtlnjmcodgdebmaaGreat.Gm
set_option linter.unusedSimpArgs false
set_option linter.unusedVariables false
namespace Go.Proofs.YtlnjmcodgdebmaaGreat.Gm
open Go Go.RowKit
attribute [local go_sem ↓] Go.wp_at_zero Go.wp_at_succ

theorem toList_empty (s : ByteArray) : (s.toList == (⟨#[]⟩ : ByteArray).toList) = s.toList.isEmpty := by
  rw [empty_toList]; cases s.toList <;> rfl
set_option maxHeartbeats 4000000 in
set_option maxRecDepth 100000 in
theorem bare_any (x : Vl) (w : World) : Calls Tryz.prog 103 #[vv x] w (Gives (.bool (bareB x)) w) := by
  have hb : bareB x = (x.k == 0 && (x.n == 0 && (x.s.toList == (⟨#[]⟩ : ByteArray).toList && x.b == false))) := rfl
  rw [hb]
  clear hb
  obtain ⟨k, n, s, b⟩ := x
  simp only
  rw [toList_empty]
  cases h1 : (k == 0)
  · rw [Bool.false_and]
    go_enter Tryz.func103, Tryz.ntmps103
    go_wp2
    go_ret
    exact ⟨rfl, below_one _ _⟩
  · cases h2 : (n == 0)
    · rw [Bool.false_and, Bool.and_false]
      go_enter Tryz.func103, Tryz.ntmps103
      go_wp2
      go_ret
      exact ⟨rfl, below_one _ _⟩
    · cases h3 : s.toList.isEmpty
      · rw [Bool.false_and, Bool.and_false, Bool.and_false]
        go_enter Tryz.func103, Tryz.ntmps103
        go_wp2
        go_ret
        exact ⟨rfl, below_one _ _⟩
      · cases b
        all_goals
          go_enter Tryz.func103, Tryz.ntmps103
          go_wp2
          go_ret
          exact ⟨rfl, below_one _ _⟩

/-- Two boxes of values, new. -/
def Box2 (w w1 : World) (a b : Vl) : Prop := Blk w1 w.heap.size 42 #[.int .i64 a.k, .int .i64 a.n, .string a.s, .bool a.b] ∧ Blk w1 (w.heap.size + 1) 42 #[.int .i64 b.k, .int .i64 b.n, .string b.s, .bool b.b] ∧ Below w.heap.size w w1
theorem box2 (w : World) (a b : Vl) : Box2 w ((w.alloc (.cells #[.int .i64 a.k, .int .i64 a.n, .string a.s, .bool a.b] 42)).alloc (.cells #[.int .i64 b.k, .int .i64 b.n, .string b.s, .bool b.b] 42)) a b :=
  ⟨(Blk.new _ _ _).alloc _, by simpa using Blk.new (w.alloc (.cells #[.int .i64 a.k, .int .i64 a.n, .string a.s, .bool a.b] 42)) 42 #[.int .i64 b.k, .int .i64 b.n, .string b.s, .bool b.b], ((Below.refl _ w).alloc (Nat.le_refl _) _).alloc (by simp) _⟩
theorem Box2.later {w w1 w2 : World} {a b : Vl} (h : Box2 w w1 a b) (hb : Below w1.heap.size w1 w2) : Box2 w w2 a b := ⟨h.1.later hb, h.2.1.later hb, then_ h.2.2 hb⟩
set_option maxHeartbeats 4000000 in
set_option maxRecDepth 100000 in
theorem whole_any (a b : Vl) (w : World) : Calls Tryz.prog 66 #[vv a, vv b] w (Gives (.int .i64 (cmpW a b)) w) := by
  have H1 := Lib.hid (fun W => refcmp_any a.k a.n a.s a.b b.k b.n b.s b.b W)
  have H2 := Lib.hid (fun W => refcmp_int a.n ⟨#[]⟩ false b.n ⟨#[]⟩ false W)
  have H3 := Lib.hid (fun W => refcmp_str 0 a.s false 0 b.s false W)
  have H4 := Lib.hid (fun W => refcmp_bool 0 ⟨#[]⟩ a.b 0 ⟨#[]⟩ b.b W)
  unfold cmpW
  rw [orL4]
  generalize cmpV a.k a.n a.s a.b b.k b.n b.s b.b = r1 at H1 ⊢
  generalize cmpI a.n b.n = r2 at H2 ⊢
  generalize Lib.compareBytes a.s.data.toList b.s.data.toList = r3 at H3 ⊢
  generalize cmpB a.b b.b = r4 at H4 ⊢
  have HX := Lib.hid (box2 w a b)
  have hz : ∀ r : Int, r = 0 → (r != 0) = false ∧ (r == 0) = true := fun r h => by simp [h]
  have hn : ∀ r : Int, ¬ r = 0 → (r != 0) = true ∧ (r == 0) = false := fun r h => by simp [h]
  by_cases h1 : r1 = 0
  · rw [if_pos h1]
    obtain ⟨e1, e1'⟩ := hz r1 h1
    clear h1
    by_cases h2 : r2 = 0
    · rw [if_pos h2]
      obtain ⟨e2, e2'⟩ := hz r2 h2
      clear h2
      by_cases h3 : r3 = 0
      · rw [if_pos h3]
        obtain ⟨e3, e3'⟩ := hz r3 h3
        clear h3 hz hn
        go_enter Tryz.func66, Tryz.ntmps66
        go_wp2_with fail
        refine (H1.out _).mono ?_; rintro e w1 ⟨rfl, b1⟩
        have X1 := Lib.hid (HX.out.later b1)
        clear b1
        have c1 := X1.out.1.cell 1 rfl
        have d1 := X1.out.2.1.cell 1 rfl
        go_wp2_with fail
        refine (H2.out _).mono ?_; rintro e w2 ⟨rfl, b1⟩
        have X2 := Lib.hid (X1.out.later b1)
        clear b1 c1 d1
        have c2 := X2.out.1.cell 2 rfl
        have d2 := X2.out.2.1.cell 2 rfl
        go_wp2_with fail
        refine (H3.out _).mono ?_; rintro e w3 ⟨rfl, b1⟩
        have X3 := Lib.hid (X2.out.later b1)
        clear b1 c2 d2
        have c3 := X3.out.1.cell 3 rfl
        have d3 := X3.out.2.1.cell 3 rfl
        go_wp2_with fail
        refine (H4.out _).mono ?_; rintro e w4 ⟨rfl, b1⟩
        have X4 := Lib.hid (X3.out.later b1)
        clear b1 c3 d3
        go_wp2_with fail
        go_ret
        exact ⟨rfl, X4.out.2.2⟩
      · rw [if_neg h3]
        obtain ⟨e3, e3'⟩ := hn r3 h3
        clear h3 hz hn
        go_enter Tryz.func66, Tryz.ntmps66
        go_wp2_with fail
        refine (H1.out _).mono ?_; rintro e w1 ⟨rfl, b1⟩
        have X1 := Lib.hid (HX.out.later b1)
        clear b1
        have c1 := X1.out.1.cell 1 rfl
        have d1 := X1.out.2.1.cell 1 rfl
        go_wp2_with fail
        refine (H2.out _).mono ?_; rintro e w2 ⟨rfl, b1⟩
        have X2 := Lib.hid (X1.out.later b1)
        clear b1 c1 d1
        have c2 := X2.out.1.cell 2 rfl
        have d2 := X2.out.2.1.cell 2 rfl
        go_wp2_with fail
        refine (H3.out _).mono ?_; rintro e w3 ⟨rfl, b1⟩
        have X3 := Lib.hid (X2.out.later b1)
        clear b1 c2 d2
        go_wp2_with fail
        go_ret
        exact ⟨rfl, X3.out.2.2⟩
    · rw [if_neg h2]
      obtain ⟨e2, e2'⟩ := hn r2 h2
      clear h2 hz hn
      go_enter Tryz.func66, Tryz.ntmps66
      go_wp2_with fail
      refine (H1.out _).mono ?_; rintro e w1 ⟨rfl, b1⟩
      have X1 := Lib.hid (HX.out.later b1)
      clear b1
      have c1 := X1.out.1.cell 1 rfl
      have d1 := X1.out.2.1.cell 1 rfl
      go_wp2_with fail
      refine (H2.out _).mono ?_; rintro e w2 ⟨rfl, b1⟩
      have X2 := Lib.hid (X1.out.later b1)
      clear b1 c1 d1
      go_wp2_with fail
      go_ret
      exact ⟨rfl, X2.out.2.2⟩
  · rw [if_neg h1]
    obtain ⟨e1, e1'⟩ := hn r1 h1
    clear h1 hz hn
    go_enter Tryz.func66, Tryz.ntmps66
    go_wp2_with fail
    refine (H1.out _).mono ?_; rintro e w1 ⟨rfl, b1⟩
    have X1 := Lib.hid (HX.out.later b1)
    clear b1
    go_wp2_with fail
    go_ret
    exact ⟨rfl, X1.out.2.2⟩
end Go.Proofs.YtlnjmcodgdebmaaGreat.Gm
