/- The document's item: MayItem, PutItem. -/
import Derived.Test.YtmbfhmjcphoddaaGreatDoorVa
import Derived.Test.YtmbfhmjcphoddaaGreatDoorGb
import Derived.Lib.AppendStr
import Derived.Test.YtmbfhmjcphoddaaGreatDoorEr
/- Bytes that are laid behind a row of the call's own: what changes is that row and new memory. The document's num, text and value. -/
set_option linter.unusedSimpArgs false
set_option linter.unusedVariables false
namespace Go.Proofs.YtmbfhmjcphoddaaGreatDoor.Gm
open Go Go.RowKit
attribute [local go_sem ↓] Go.wp_at_zero Go.wp_at_succ

/-- A row lies where r says, or in memory that is new behind w. -/
def RowAt (w : World) (r : Option Nat) (v : Value) : Prop := v.ownBlock = r ∨ ∀ g, v.ownBlock = some g → w.heap.size ≤ g
theorem lies_row {w : World} {g n cap H : Nat} {r : Option Nat} (h : r = some g ∨ g = H) (hH : w.heap.size ≤ H) : RowAt w r (.slice (some ⟨g, 0, none⟩) n cap) := by
  rcases h with h | h
  · exact .inl h.symm
  · exact .inr fun g' hg => by simp only [Value.ownBlock, Option.some.injEq] at hg; omega
theorem lies_str {w : World} {v : Value} {H : Nat} {r : Option Nat} (h : v.ownBlock = r ∨ v.ownBlock = some H) (hH : w.heap.size ≤ H) : RowAt w r v := by
  rcases h with h | h
  · exact .inl h
  · exact .inr fun g' hg => by rw [h] at hg; simp only [Option.some.injEq] at hg; omega
/-- What a call leaves that lays S behind the row v: the longer row, the call's own; nothing else that was there has changed; the new row lies where the old one lay, or in new memory. -/
def PutB (S : List UInt8) (base : Nat) (v : Value) (L : List UInt8) (w : World) (e : Ending) (w' : World) : Prop :=
  ∃ v', e = .returned v' ∧ OwnB w' base v' (L ++ S) ∧ w.grownBy w' v.ownBlock ∧ RowAt w v.ownBlock v'
theorem own_lt {w : World} {base : Nat} {e : TypeId} {size : Nat} {v : Value} {n : Nat} {xs : List Value} (h : w.ownsRow base e size v n xs) {g : Nat} (hg : v.ownBlock = some g) : g < w.heap.size := (World.ownsRow.lt h g hg).2
/-- One behind the other. -/
theorem grown_then {w w1 w2 : World} {r r1 : Option Nat} (h : w.grownBy w1 r) (k : w1.grownBy w2 r1) (hr : r1 = r ∨ ∀ g, r1 = some g → w.heap.size ≤ g) : w.grownBy w2 r := by
  refine ⟨k.os.trans h.os, k.tape.trans h.tape, k.output.trans h.output, Nat.le_trans h.size k.size, fun i hi hn => ?_⟩
  rw [k.block i (Nat.lt_of_lt_of_le hi h.size) (fun e => ?_)]
  · exact h.block i hi hn
  · rcases hr with rfl | hr
    · exact hn e
    · have := hr i e.symm; omega
theorem row_then {w w1 : World} {r : Option Nat} {v1 v2 : Value} (hs : w.heap.size ≤ w1.heap.size) (h : RowAt w r v1) (k : RowAt w1 v1.ownBlock v2) : RowAt w r v2 := by
  rcases k with k | k
  · unfold RowAt; rw [k]; exact h
  · exact .inr fun g hg => Nat.le_trans hs (k g hg)
theorem grown_old {w w' : World} {r : Option Nat} {base : Nat} (h : w.grownBy w' r) (hb : base ≤ w.heap.size) (hr : ∀ g, r = some g → base ≤ g) : Below base w w' := (Below.refl base w).grown h hb hr
/-- Behind blocks that the call has laid itself. -/
theorem grown_new {w w1 w2 : World} {r : Option Nat} (h : Below w.heap.size w w1) (k : w1.grownBy w2 r) : w.grownBy w2 r :=
  ⟨k.os.trans h.os, k.tape.trans h.tape, k.output.trans h.output, Nat.le_trans h.size k.size, fun i hi hn => by rw [k.block i (Nat.lt_of_lt_of_le hi h.size) hn]; exact h.block i hi⟩
theorem row_new {w w1 : World} {r : Option Nat} {v' : Value} (hs : w.heap.size ≤ w1.heap.size) (k : RowAt w1 r v') : RowAt w r v' := by
  rcases k with k | k
  · exact .inl k
  · exact .inr fun g hg => Nat.le_trans hs (k g hg)
theorem cells_str (s : ByteArray) : Lib.strCells s = cellsB s.data.toList := rfl
section
variable {P : Program} {w : World}
/-- append of a string's bytes: where the longer row lies. -/
theorem run_append_str (base : Nat) (t u ty e : TypeId) (i : TypeInfo) (ht : P.underlying t = some (.slice e)) (hu : P.underlying u = some .string) (hi : P.info? e = some i) (hz : i.zero = some (.int .u8 0))
    (hsize : i.size = 1) (hby : i.bytes = 1) (v : Value) (n : Nat) (xs : List Value) (hown : w.ownsRow base e 1 v n xs) (s : ByteArray) (h63 : n + s.size ≤ 1000000000) (hbase : base ≤ w.heap.size) :
    ∃ v' w', (Builtin.append_ #[t, u] ty #[v, .string s]).run P w = .ok v' w' ∧ w'.ownsRow base e 1 v' (n + s.size) (xs ++ Lib.strCells s) ∧ w.grownBy w' v.ownBlock ∧ (v'.ownBlock = v.ownBlock ∨ v'.ownBlock = some w.heap.size) := by
  obtain ⟨v', w', hr, h2, h3, h4⟩ := Lib.run_append_own_string (P := P) (w := w) base t u ty e i ht hu hi hz hsize hby v n xs hown s (by unfold maxLen; omega) (by omega) hbase
  refine ⟨v', w', hr, h2, h3, ?_⟩
  have hxl : xs.length = n := by simpa using hown.1
  rcases hown.2 with ⟨rfl, rfl⟩ | ⟨g, cap, cur, rfl, hbg, hg, hnc, hcm, hcs, htake⟩
  · by_cases hm : s.size = 0
    · exact .inl (by rw [h4.2 ⟨rfl, hm⟩])
    · have hr2 := run_append_nil_string (P := P) w t u ty e i (.int .u8 0) ht hu hi hz s (by omega) (by omega) (by rw [hby]; omega)
      rw [hr] at hr2
      injection hr2 with ha hb
      exact .inr (by rw [ha]; rfl)
  · by_cases hroom : n + s.size ≤ cap
    · have hr2 := Lib.run_append_room_string (P := P) (w := w) t u ty e i ht hu hi hsize g n cap cur hg s hroom (by rw [hcs]; omega)
      rw [hr] at hr2
      injection hr2 with ha hb
      exact .inl (by rw [ha]; rfl)
    · have holds : ∀ j u, xs[j]? = some u → w.cell? ((⟨g, 0, none⟩ : Addr).add j) = some u := hown.cells (g := g) rfl
      have hr2 := Lib.run_append_grow_string (P := P) (w := w) t u ty e i (.int .u8 0) ht hu hi hz ⟨g, 0, none⟩ n cap xs (by rw [hsize]; simpa using hxl) holds s (by omega) (by omega) (by rw [hby]; exact growslice_fits (by omega) (by omega))
      rw [hr] at hr2
      injection hr2 with ha hb
      exact .inr (by rw [ha]; rfl)
theorem wpList_append_str {ops : Array Oper} {rest : List Oper} {o : Oper} {a : Act} {Q : Exit → Act → World → Prop} (hgd : o.guard = none) (sl x : Operand) (t u : TypeId)
    (ho : o.op = .call { callee := .builtin .append, args := #[sl, x], argTypes := #[t, u] })
    (base : Nat) (e : TypeId) (i : TypeInfo) (ht : P.underlying t = some (.slice e)) (hu : P.underlying u = some .string) (hi : P.info? e = some i) (hz : i.zero = some (.int .u8 0))
    (hsize : i.size = 1) (hby : i.bytes = 1) (v : Value) (n : Nat) (xs : List Value) (hs : a.eval sl = v) (hown : w.ownsRow base e 1 v n xs) (s : ByteArray) (hx : a.eval x = .string s) (h63 : n + s.size ≤ 1000000000) (hbase : base ≤ w.heap.size)
    (h : ∀ p cap w', w'.ownsRow base e 1 (.slice p (n + s.size) cap) (n + s.size) (xs ++ Lib.strCells s) → w.grownBy w' v.ownBlock → ((Value.slice p (n + s.size) cap).ownBlock = v.ownBlock ∨ (Value.slice p (n + s.size) cap).ownBlock = some w.heap.size) → wpList P ops Q rest (a.put o.dst (.slice p (n + s.size) cap)) w') : wpList P ops Q (o :: rest) a w := by
  refine wpList_plain hgd fun K hK => ?_
  obtain ⟨v', w', hr, h2, h3, h4⟩ := run_append_str (P := P) (w := w) base t u o.type e i ht hu hi hz hsize hby v n xs hown s h63 hbase
  obtain ⟨p, cap, rfl⟩ := own_shape h2
  unfold Oper.wp execOp
  simp only [ho, resolve, invoke, builtin, Sem.run_bind, Sem.run_pure, Result.andThen_ok, List.map_toArray, List.map_cons, List.map_nil, hs, hx, hr]
  exact hK _ _ (h p cap w' h2 h3 h4)
end
/-- One laying behind the other. -/
theorem PutB.then {S T : List UInt8} {base : Nat} {v v1 : Value} {L : List UInt8} {w w1 : World} {e : Ending} {w2 : World} (hs : w.grownBy w1 v.ownBlock) (hr : RowAt w v.ownBlock v1) (h : PutB T base v1 (L ++ S) w1 e w2) : PutB (S ++ T) base v L w e w2 := by
  obtain ⟨v2, h1, h2, h3, h4⟩ := h
  exact ⟨v2, h1, by rw [← List.append_assoc]; exact h2, grown_then hs h3 hr, row_then hs.size hr h4⟩
/-- Behind blocks of the call's own. -/
theorem PutB.behind {S : List UInt8} {base : Nat} {v : Value} {L : List UInt8} {w w1 : World} {e : Ending} {w2 : World} (hs : Below w.heap.size w w1) (h : PutB S base v L w1 e w2) : PutB S base v L w e w2 := by
  obtain ⟨v2, h1, h2, h3, h4⟩ := h
  exact ⟨v2, h1, h2, grown_new hs h3, row_new hs.size h4⟩
theorem fold_neg {n : Int} (h1 : -9223372036854775808 ≤ n) (h2 : n < 0) : IntKind.u64.wrap (IntKind.u64.wrap (2 * IntKind.u64.wrap (wrap64 (-wrap64 (n + 1)))) + 1) = ((foldI n : Nat) : Int) := by
  have e1 : wrap64 (n + 1) = n + 1 := by unfold wrap64; omega
  have e2 : wrap64 (-(n + 1)) = -(n + 1) := by unfold wrap64; omega
  have e3 : ((foldI n : Nat) : Int) = 2 * (-(n + 1)) + 1 := by unfold foldI; rw [if_neg (by omega)]; omega
  rw [e1, e2, e3]
  rw [IntKind.wrap_u64, IntKind.wrap_u64, IntKind.wrap_u64]
  omega
theorem fold_pos {n : Int} (h1 : 0 ≤ n) (h2 : n ≤ 9223372036854775807) : IntKind.u64.wrap (2 * IntKind.u64.wrap n) = ((foldI n : Nat) : Int) := by
  have e3 : ((foldI n : Nat) : Int) = 2 * n := by unfold foldI; rw [if_pos h1]; omega
  rw [e3, IntKind.wrap_u64, IntKind.wrap_u64]
  omega
end Go.Proofs.YtmbfhmjcphoddaaGreatDoor.Gm
/- The document's event, item: bytes laid behind a row of the call's own. -/
set_option linter.unusedSimpArgs false
set_option linter.unusedVariables false
namespace Go.Proofs.YtmbfhmjcphoddaaGreatDoor.Gm
open Go Go.RowKit
attribute [local go_sem ↓] Go.wp_at_zero Go.wp_at_succ

/-- Attributes that lie below base. -/
def SlB (base : Nat) (w : World) (v : Value) (l : List Attr) : Prop :=
  ∃ (p : Option Addr) (cap b o : Nat), v = .slice p l.length cap ∧ (l ≠ [] → p = some ⟨b, o, none⟩ ∧ b < base) ∧ Cells5 w b o l ∧ l.length ≤ 140737488355328
theorem SlB.below {base : Nat} {w w' : World} {v : Value} {l : List Attr} (h : SlB base w v l) (hb : Below base w w') : SlB base w' v l := by
  obtain ⟨p, cap, b, o, h1, h2, h3, h4⟩ := h
  refine ⟨p, cap, b, o, h1, h2, fun i hi j u hu => ?_, h4⟩
  have hl : l ≠ [] := by rintro rfl; simp at hi
  rw [hb.cell (p := ⟨b, o + i * 5 + j, none⟩) (h2 hl).2]
  exact h3 i hi j u hu
theorem SlB.form {base : Nat} {w : World} {v : Value} {l : List Attr} (h : SlB base w v l) : ∃ p cap, v = .slice p l.length cap := by
  obtain ⟨p, cap, _, _, h1, _⟩ := h
  exact ⟨p, cap, h1⟩
theorem SlB.of {w : World} {v : Value} {l : List Attr} (h : Sl w v l) : SlB w.heap.size w v l := h
theorem formS_len {s : ByteArray} {n : Nat} (h : s.size ≤ n) (hn : n < 1000000) : (formS s).length ≤ n + 10 := by
  have h1 := (formN_length (show s.size < 18446744073709551616 by omega)).2
  have h2 : s.data.toList.length = s.size := rfl
  unfold formS
  rw [List.length_append]
  omega
theorem formVl_len {v : Vl} (h : WfV v) : (formVl v).length ≤ 52 := by
  unfold formVl formVt
  rw [List.length_append]
  rcases h with rfl | ⟨h1, h2, _, _⟩ | ⟨h1, _, h3, _⟩ | ⟨h1, _, _⟩
  · have := (formN_length (show 0 < 18446744073709551616 by decide)).2
    show (formN 0).length + 0 ≤ 52
    omega
  · rw [h1, if_pos rfl]
    have a := (formN_length (show (1 : Int).toNat < 18446744073709551616 by decide)).2
    have b := (formN_length (fold_lt h2.1 h2.2)).2
    omega
  · rw [h1, if_neg (by decide), if_pos rfl]
    have a := (formN_length (show (2 : Int).toNat < 18446744073709551616 by decide)).2
    have b := formS_len h3 (by decide)
    omega
  · rw [h1, if_neg (by decide), if_neg (by decide), if_pos rfl]
    have a := (formN_length (show (3 : Int).toNat < 18446744073709551616 by decide)).2
    have b := (formN_length (show bN v.b < 18446744073709551616 by cases v.b <;> decide)).2
    omega
theorem formA_len {a : Attr} (h : WfA a) : (formA a).length ≤ 78 := by
  unfold formA
  rw [List.length_append]
  have := formS_len h.1 (by decide)
  have := formVl_len h.2
  omega
theorem flat_len {α : Type} {f : α → List UInt8} {n : Nat} : ∀ l : List α, (∀ a ∈ l, (f a).length ≤ n) → (l.flatMap f).length ≤ l.length * n
  | [], _ => by simp
  | a :: l, h => by
    rw [List.flatMap_cons, List.length_append, List.length_cons, Nat.add_mul]
    have := h a (by simp)
    have := flat_len l fun b hb => h b (by simp [hb])
    omega
/-- Six cells: a box's second one, and an attribute's. -/
abbrev SixC (W : World) (A g o : Nat) (b : Value) (x : Attr) : Prop := W.cell? ⟨A, 1, none⟩ = some b ∧ W.cell? ⟨g, o, none⟩ = some (.string x.nm) ∧ W.cell? ⟨g, o + 1, none⟩ = some (.int .i64 x.k) ∧ W.cell? ⟨g, o + 2, none⟩ = some (.int .i64 x.n) ∧ W.cell? ⟨g, o + 3, none⟩ = some (.string x.s) ∧ W.cell? ⟨g, o + 4, none⟩ = some (.bool x.b)
theorem six_kept {W W' : World} {A g o : Nat} {r : Option Nat} {b : Value} {x : Attr} (h : W.grownBy W' r) (hn : r ≠ some A) (hn2 : r ≠ some g) (hz : A < W.heap.size) (hz2 : g < W.heap.size) (k : SixC W A g o b x) : SixC W' A g o b x := by
  obtain ⟨k0, k1, k2, k3, k4, k5⟩ := k
  have e : ∀ i, W'.cell? ⟨g, i, none⟩ = W.cell? ⟨g, i, none⟩ := fun i => World.cell?_of_block (h.block g hz2 (fun e => hn2 e.symm))
  exact ⟨(World.cell?_of_block (h.block A hz (fun e => hn e.symm))).trans k0, (e _).trans k1, (e _).trans k2, (e _).trans k3, (e _).trans k4, (e _).trans k5⟩
theorem grown_drew {w w' : World} {r : Option Nat} (h : w.drew.grownBy w' r) : w.grownBy w' r := ⟨h.os, h.tape, h.output, h.size, h.block⟩
theorem row_drew {w : World} {r : Option Nat} {v : Value} (h : RowAt w.drew r v) : RowAt w r v := h
theorem row_not {W : World} {A g : Nat} {r : Option Nat} {v : Value} (h : RowAt W r v) (hr : r ≠ some A ∧ r ≠ some g) (hA : A < W.heap.size) (hg : g < W.heap.size) (o : Option Nat) (ho : v.ownBlock = o) : o ≠ some A ∧ o ≠ some g := by
  subst ho
  rcases h with h | h
  · rw [h]; exact hr
  · exact ⟨fun e => by have := h A e; omega, fun e => by have := h g e; omega⟩
theorem two_kept {W W' : World} {A : Nat} {r : Option Nat} {a b : Value} (h : W.grownBy W' r) (hn : r ≠ some A) (hz : A < W.heap.size) (k : W.cell? ⟨A, 0, none⟩ = some a ∧ W.cell? ⟨A, 1, none⟩ = some b) : W'.cell? ⟨A, 0, none⟩ = some a ∧ W'.cell? ⟨A, 1, none⟩ = some b :=
  ⟨(World.cell?_of_block (h.block A hz (fun e => hn e.symm))).trans k.1, (World.cell?_of_block (h.block A hz (fun e => hn e.symm))).trans k.2⟩
end Go.Proofs.YtmbfhmjcphoddaaGreatDoor.Gm
/- The document's PutEvent and Size. -/
set_option linter.unusedSimpArgs false
set_option linter.unusedVariables false
namespace Go.Proofs.YtmbfhmjcphoddaaGreatDoor.Gm
open Go Go.RowKit
attribute [local go_sem ↓] Go.wp_at_zero Go.wp_at_succ

/-- What a Put leaves: the form, and whether there is one. -/
def PutR (S : Option (List UInt8)) (w : World) (e : Ending) (w' : World) : Prop :=
  ∃ v, e = .returned (.tuple #[v, .int .i64 (if S.isSome then 0 else 30)]) ∧ OwnB w' w.heap.size v (S.getD []) ∧ Below w.heap.size w w'
/-- The form of an event, if it may be. -/
def putE (e : Ev) : Option (List UInt8) := if mayE e.1 e.2 = true then some (formE e) else none
/-- What may be is what is read, where its numbers fit. -/
theorem mayB_wf {k n : Int} {s : ByteArray} {b : Bool} (h : mayB k n s b = true) (hn : FitsI n) : WfV ⟨k, n, s, b⟩ ∧ k ≠ 0 := by
  unfold mayB at h
  by_cases h1 : k = 1
  · rw [if_pos h1] at h
    simp only [Bool.and_eq_true, List.isEmpty_iff, Bool.not_eq_true'] at h
    refine ⟨.inr (.inl ⟨h1, hn, ?_, h.2⟩), by omega⟩
    have : s.data.toList = [] := by rw [← toList_data]; exact h.1
    exact bytes_eq this
  rw [if_neg h1] at h
  by_cases h2 : k = 2
  · rw [if_pos h2] at h
    simp only [Bool.and_eq_true, decide_eq_true_eq, beq_iff_eq, Bool.not_eq_true'] at h
    exact ⟨.inr (.inr (.inl ⟨h2, h.2.1, h.1, h.2.2⟩)), by omega⟩
  rw [if_neg h2] at h
  by_cases h3 : k = 3
  · rw [if_pos h3] at h
    simp only [Bool.and_eq_true, beq_iff_eq, List.isEmpty_iff] at h
    have : s.data.toList = [] := by rw [← toList_data]; exact h.2
    exact ⟨.inr (.inr (.inr ⟨h3, h.1, bytes_eq this⟩)), by omega⟩
  · rw [if_neg h3] at h; cases h
theorem may_parts_e {key : ByteArray} {l : List Attr} (h : mayE key l = true) : key.size ≤ 16 ∧ l.length ≤ 8 ∧ ∀ a ∈ l, okA a = true := by
  simp only [mayE, Bool.and_eq_true, decide_eq_true_eq, List.all_eq_true, List.mem_range] at h
  refine ⟨h.1.1, h.1.2, fun a ha => ?_⟩
  obtain ⟨i, hi, rfl⟩ := List.getElem_of_mem ha
  have := h.2 i hi
  simp only [okAt, Bool.and_eq_true] at this
  have e : l.getD i default = l[i] := by rw [List.getD_eq_getElem?_getD, List.getElem?_eq_getElem hi]; rfl
  rw [e] at this
  exact this.1
theorem may_wfe {key : ByteArray} {l : List Attr} (h : mayE key l = true) (hr : ∀ a ∈ l, FitsI a.n) : WfE (key, l) ∧ ∀ a ∈ l, a.k ≠ 0 := by
  obtain ⟨h1, h2, h3⟩ := may_parts_e h
  have hh : ∀ a ∈ l, WfA a ∧ a.k ≠ 0 := fun a ha => by
    have := h3 a ha
    simp only [okA, Bool.and_eq_true, nameB, decide_eq_true_eq] at this
    obtain ⟨a1, a2⟩ := mayB_wf this.2 (hr a ha)
    exact ⟨⟨this.1.2.2, a1⟩, a2⟩
  exact ⟨⟨h1, h2, fun a ha => (hh a ha).1⟩, fun a ha => (hh a ha).2⟩
end Go.Proofs.YtmbfhmjcphoddaaGreatDoor.Gm
set_option linter.unusedSimpArgs false
set_option linter.unusedVariables false
namespace Go.Proofs.YtmbfhmjcphoddaaGreatDoor.Gm
open Go Go.RowKit
attribute [local go_sem ↓] Go.wp_at_zero Go.wp_at_succ

/-- Which items may be. -/
def mayI (x : It) : Bool := decide (0 < x.1) && decide (x.1 ≤ 1099511627776) && decide (x.2.1 ≤ 1099511627776) && mayE x.2.2.1 x.2.2.2
def putI (x : It) : Option (List UInt8) := if mayI x = true then some (formI x) else none
abbrev iv (n t : Nat) (key : ByteArray) (u : Value) : Value := .agg #[.int .u64 n, .int .u64 t, .string key, u]
theorem may_wfi {x : It} (h : mayI x = true) (hr : ∀ a ∈ x.2.2.2, FitsI a.n) : WfI x ∧ ∀ a ∈ x.2.2.2, a.k ≠ 0 := by
  simp only [mayI, Bool.and_eq_true, decide_eq_true_eq] at h
  obtain ⟨a, b⟩ := may_wfe h.2 hr
  exact ⟨⟨h.1.1.2, h.1.2, a⟩, b⟩
/-- Four cells of a block. -/
theorem four_kept {W W' : World} {A : Nat} {r : Option Nat} {a b c d : Value} (h : W.grownBy W' r) (hn : r ≠ some A) (hz : A < W.heap.size) (k : W.cell? ⟨A, 0, none⟩ = some a ∧ W.cell? ⟨A, 1, none⟩ = some b ∧ W.cell? ⟨A, 2, none⟩ = some c ∧ W.cell? ⟨A, 3, none⟩ = some d) : W'.cell? ⟨A, 0, none⟩ = some a ∧ W'.cell? ⟨A, 1, none⟩ = some b ∧ W'.cell? ⟨A, 2, none⟩ = some c ∧ W'.cell? ⟨A, 3, none⟩ = some d := by
  have e : ∀ i, W'.cell? ⟨A, i, none⟩ = W.cell? ⟨A, i, none⟩ := fun i => World.cell?_of_block (h.block A hz (fun e => hn e.symm))
  exact ⟨(e 0).trans k.1, (e 1).trans k.2.1, (e 2).trans k.2.2.1, (e 3).trans k.2.2.2⟩
theorem row_not1 {W : World} {A : Nat} {r : Option Nat} {v : Value} (h : RowAt W r v) (hr : r ≠ some A) (hA : A < W.heap.size) : v.ownBlock ≠ some A := by
  rcases h with h | h
  · rw [h]; exact hr
  · exact fun e => by have := h A e; omega
end Go.Proofs.YtmbfhmjcphoddaaGreatDoor.Gm
