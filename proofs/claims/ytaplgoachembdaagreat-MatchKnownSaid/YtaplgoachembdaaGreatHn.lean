/- Layer 8: words for the walk of ask. -/
import Derived.Test.YtaplgoachembdaaGreatHm
import Derived.Test.YtaplgoachembdaaGreatKL
set_option linter.unusedSimpArgs false
set_option linter.unusedVariables false
namespace Go.Proofs.YtaplgoachembdaaGreat.Gm
open Go Go.RowKit Go.Maps
attribute [local go_sem ↓] Go.wp_at_zero Go.wp_at_succ

/-- The names that were seen, as a set. -/
def SeenIs (D : DataW Value) (l : List ByteArray) : Prop := IsMap D ∧ ∀ nm, nm.size ≤ maxLen → Maps.has D (.string nm.data.toList) = decide (nm ∈ l)
theorem str_lit {a b : ByteArray} (h : a ≠ b) : (Lit.string a.data.toList) ≠ .string b.data.toList := by
  intro e; injection e with e; exact h (bytes_eq e)
theorem SeenIs.put {D : DataW Value} {l : List ByteArray} (h : SeenIs D l) (nm : ByteArray) (d : DataW Value) : SeenIs (D.put (.string nm.data.toList) d) (l ++ [nm]) := by
  refine ⟨?_, fun n hn => ?_⟩
  · exact IsMap.put h.1 _ _
  · by_cases e : n = nm
    · subst e
      rw [has_put_same h.1 (show WideAt.IsKeyLit (.string n.data.toList) from trivial)]
      simp
    · rw [has_put_other (str_lit e), h.2 n hn]
      simp [e]
theorem SeenIs.again {D : DataW Value} {l : List ByteArray} (h : SeenIs D l) {nm : ByteArray} (hm : nm ∈ l) : SeenIs D (l ++ [nm]) := by
  refine ⟨h.1, fun n hn => ?_⟩
  rw [h.2 n hn, decide_eq_decide]
  simp only [List.mem_append, List.mem_singleton]
  constructor
  · exact .inl
  · rintro (h | rfl)
    · exact h
    · exact hm
abbrev atc (x : At) : Array Value := #[.string x.nm, .int .i64 x.v.k, .int .i64 x.v.n, .string x.v.s, .bool x.v.b]
abbrev ooc (x : Int × Cn) : Array Value := #[.int .i64 x.1, .string x.2.nm, .int .i64 x.2.op, .int .i64 x.2.v.k, .int .i64 x.2.v.n, .string x.2.v.s, .bool x.2.v.b, .slice x.2.sp x.2.set.length x.2.sc]
theorem oo_agg (x : Int × Cn) : oo x = .agg (ooc x) := rfl
/-- What stands at a place of ask's outer loop. -/
structure Asks8 (I : List ((Int × Cn) × At) → World → Prop) (pre : List ((Int × Cn) × At)) (seen : List ByteArray) (T bm s : Nat) (w0 w : World) (Ds : DataW Value) (wr : World) : Prop where
  i : I pre wr
  g : w.grownBy wr (some T)
  b : Below w0.heap.size w0 wr
  m : wr.ownsMap Tryz.prog 9 unitElem bm s Ds
  is : SeenIs Ds seen
theorem Asks8.size {I : List ((Int × Cn) × At) → World → Prop} {pre : List ((Int × Cn) × At)} {seen : List ByteArray} {T bm s : Nat} {w0 w : World} {Ds : DataW Value} {wr : World} (h : Asks8 I pre seen T bm s w0 w Ds wr) : w.heap.size ≤ wr.heap.size := h.g.size
theorem Asks8.later {I : List ((Int × Cn) × At) → World → Prop} {pre : List ((Int × Cn) × At)} {seen : List ByteArray} {T bm s : Nat} {w0 w : World} {Ds : DataW Value} {wr wr' : World} (h : Asks8 I pre seen T bm s w0 w Ds wr) (hI : ∀ pre W W', I pre W → SameTo w.heap.size W W' → I pre W') (hb : Below wr.heap.size wr wr') : Asks8 I pre seen T bm s w0 w Ds wr' :=
  ⟨hI _ _ _ h.i (SameTo.of (hb.mono h.size)), grown_then8 h.g (hb.mono h.size), then_ h.b hb, map_later h.m hb h.m.lt, h.is⟩
theorem Asks8.turned {I : List ((Int × Cn) × At) → World → Prop} {pre : List ((Int × Cn) × At)} {seen seen' : List ByteArray} {T bm s s' : Nat} {w0 w : World} {Ds Ds' : DataW Value} {wr wr' : World} (h : Asks8 I pre seen T bm s w0 w Ds wr) (hI : ∀ pre W W', I pre W → SameTo w.heap.size W W' → I pre W') (hg : wr.grownBy wr' (some bm)) (hw : w.heap.size ≤ bm) (hw0 : w0.heap.size ≤ w.heap.size)
    (hm : wr'.ownsMap Tryz.prog 9 unitElem bm s' Ds') (his : SeenIs Ds' seen') : Asks8 I pre seen' T bm s' w0 w Ds' wr' :=
  ⟨hI _ _ _ h.i (SameTo.turned hg h.size hw), grown_then8 h.g (below_turned hg h.size hw), h.b.trans (below_turned hg (Nat.le_trans hw0 h.size) (Nat.le_trans hw0 hw)), hm, his⟩
theorem map_grown {w w' : World} {k : TypeId} {R : Value → Option (DataW Value × List MemPlace)} {b n T : Nat} {D : DataW Value} (h : w.ownsMap Tryz.prog k R b n D) (hg : w.grownBy w' (some T)) (hne : b ≠ T) : w'.ownsMap Tryz.prog k R b n D := by
  have hl := h.lt
  obtain ⟨es, clock, e, r⟩ := h
  exact ⟨es, clock, (hg.block b hl (by rintro he; exact hne (Option.some.inj he))).trans e, r⟩
theorem zero_unit (w : World) : (zeroValue 104).run Tryz.prog w = .ok (.agg #[]) w := by kernel_rfl
/-- What a call of what ask hands its questions to leaves. -/
def Step8 (I : List ((Int × Cn) × At) → World → Prop) (pre : List ((Int × Cn) × At)) (T : Nat) (w : World) (e : Ending) (w' : World) : Prop := e = .returned (.tuple #[]) ∧ I pre w' ∧ w.grownBy w' (some T)
end Go.Proofs.YtaplgoachembdaaGreat.Gm
