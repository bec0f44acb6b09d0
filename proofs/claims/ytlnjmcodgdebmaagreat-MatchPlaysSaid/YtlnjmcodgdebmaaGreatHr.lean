/- Layer 8: rows of numbers of a call's own: sorted; what a range over the predicates' numbers gathers. -/
import Derived.Test.YtlnjmcodgdebmaaGreatHd
import Derived.RangeFuncBox
import Derived.Maps.AppendAt
import Derived.Maps.OwnOps
import Derived.StringKeys
import Derived.Test.YtlnjmcodgdebmaaGreatHi
import Derived.Lib.OwnBridge
/- Layer 8: a look-up without ok, whatever the elements. -/
/- Layer 8: the closure of Match. -/
/- Layer 8: the closure of Looks. -/
set_option linter.unusedSimpArgs false
set_option linter.unusedVariables false
namespace Go.Proofs.YtlnjmcodgdebmaaGreat.Gm
open Go Go.RowKit Go.Maps
attribute [local go_sem ↓] Go.wp_at_zero Go.wp_at_succ

/-- A constraint with its predicate's number, as it lies in a row. -/
def encO (o : Int × Cn) : List Value := .int .i64 o.1 :: encC o.2
def oo (o : Int × Cn) : Value := .agg (encO o).toArray
/-- What Looks's closure does: it adds one. -/
def Adds (g : Nat) (n : Int) (w : World) (e : Ending) (w' : World) : Prop :=
  e = .returned (.tuple #[]) ∧ w'.cell? ⟨g, 0, none⟩ = some (.int .i64 (n + 1)) ∧ w'.frozen? ⟨g, 0, none⟩ = false ∧ w.grownBy w' (some g)
set_option maxHeartbeats 1000000 in
theorem looks_one (g : Nat) (n : Int) (h0 : 0 ≤ n) (hn : n < 4611686018427387904) (o : Int × Cn) (v : Vl) (w : World) (hc : w.cell? ⟨g, 0, none⟩ = some (.int .i64 n)) (hf : w.frozen? ⟨g, 0, none⟩ = false) (hl : g < w.heap.size) :
    Calls Tryz.prog 38 #[oo o, vv v, .pointer (some ⟨g, 0, none⟩)] w (Adds g n w) := by
  obtain ⟨i, c⟩ := o
  have hw : wrap64 (n + 1) = n + 1 := by
    unfold wrap64; omega
  unfold oo encO encC
  go_enter Tryz.func38, Tryz.ntmps38
  go_wp2_with fail
  go_end0
  have hs : (w.setCell ⟨g, 0, none⟩ (.int .i64 (n + 1))).heap.size = w.heap.size := by simp
  have hb : ∀ o1 o2 : Obj, Below w.heap.size (w.setCell ⟨g, 0, none⟩ (.int .i64 (n + 1))) (((w.setCell ⟨g, 0, none⟩ (.int .i64 (n + 1))).alloc o1).alloc o2) := fun o1 o2 => (((Below.refl _ _).alloc (by omega) _).alloc (by simp) _)
  refine ⟨rfl, ?_, ?_, ((grownBy_setCell' w g _).trans (World.grownBy_alloc _ _ _)).trans (World.grownBy_alloc _ _ _)⟩
  · exact (Below.cell (hb _ _) (p := ⟨g, 0, none⟩) hl).trans (World.cell?_setCell_same _ _ _ hc)
  · exact ((hb _ _).frozen (p := ⟨g, 0, none⟩) hl).trans (by simpa using hf)
end Go.Proofs.YtlnjmcodgdebmaaGreat.Gm
set_option linter.unusedSimpArgs false
set_option linter.unusedVariables false
namespace Go.Proofs.YtlnjmcodgdebmaaGreat.Gm
open Go Go.RowKit Go.Maps
attribute [local go_sem ↓] Go.wp_at_zero Go.wp_at_succ

/-- The counts that a map holds. -/
def HeldIs (D : DataW Value) (k : Int → Nat) : Prop := ∀ i, (Lit.int .i64 i).wf = true → D.atKey (.int .i64 i) (.lit (.int .i64 0)) = .lit (.int .i64 (k i))
/-- What Match's closure does: where the constraint holds, its number is counted once more. -/
def Counts (bh nn : Nat) (k : Int → Nat) (o : Int × Cn) (v : Vl) (w : World) (e : Ending) (w' : World) : Prop :=
  e = .returned (.tuple #[]) ∧ w.grownBy w' (some bh) ∧ ∃ D', w'.ownsMap Tryz.prog 3 (plainElem Tryz.prog 3) bh (nn + 1) D' ∧ HeldIs D' fun i => k i + if i = o.1 ∧ holdsB o.2 v = true then 1 else 0
theorem grownBy_below {w w' : World} (h : Below w.heap.size w w') (r : Option Nat) : w.grownBy w' r := ⟨h.os, h.tape, h.output, h.size, fun i hi _ => h.block i hi⟩
set_option maxHeartbeats 2000000 in
set_option maxRecDepth 20000 in
theorem match_one (g bh nn : Nat) (D : DataW Value) (k : Int → Nat) (hD : HeldIs D k) (hk : ∀ i, k i ≤ nn) (hnn : nn < 1099511627776) (o : Int × Cn) (ho : (Lit.int .i64 o.1).wf = true) (v : Vl) (w : World) (hS : Vs w o.2.sv o.2.set)
    (hc : w.cell? ⟨g, 0, none⟩ = some (.map (some bh))) (hl : g < w.heap.size) (hown : w.ownsMap Tryz.prog 3 (plainElem Tryz.prog 3) bh nn D) :
    Calls Tryz.prog 34 #[oo o, vv v, .pointer (some ⟨g, 0, none⟩)] w (Counts bh nn k o v w) := by
  obtain ⟨i, c⟩ := o
  have hw : ∀ n : Int, 0 ≤ n → n ≤ nn → wrap64 (n + 1) = n + 1 := by
    intro n h0 h1; unfold wrap64; omega
  have hwf : ∀ n : Int, 0 ≤ n → n ≤ nn → (Lit.int .i64 (n + 1)).wf = true := by
    intro n h0 h1; rw [← hw n h0 h1]; exact wrap64_wf _
  have hk0 : keyOf Tryz.prog 3 (.int .i64 i) = some (.int .i64 i) := Maps.keyOf_int_mk Tryz.underlying3 ho
  have HH := Lib.hid (fun W (h : Below w.heap.size w W) => holds_any c v W (hS.later h))
  have HO := Lib.hid hown
  have HC := Lib.hid hc
  have HD := Lib.hid hD
  have HK := Lib.hid (hk i)
  have HW := Lib.hid hw
  have HM := Lib.hid (show nn < maxLen from Nat.lt_of_lt_of_le hnn (by decide))
  have HF := Lib.hid (plainElem_int (H := Value) Tryz.underlying3 (wrap64_wf ((k i : Int) + 1)))
  unfold oo encO encC
  clear hown hc hD hk hw hwf hS
  go_enter Tryz.func34, Tryz.ntmps34
  go_wp2_with fail
  have hb2 : ∀ o1 o2 : Obj, Below w.heap.size w ((w.alloc o1).alloc o2) := fun o1 o2 => ((Below.refl _ w).alloc (Nat.le_refl _) _).alloc (by simp) _
  refine (HH.out _ (hb2 _ _)).mono ?_; rintro e w1 ⟨rfl, b1⟩
  have ci : w1.cell? ⟨w.heap.size, 0, none⟩ = some (.int .i64 i) := (Below.cell b1 (p := ⟨w.heap.size, 0, none⟩) (by simp; omega)).trans (by simp)
  have bw := (hb2 _ _).trans (b1.mono (by simp; omega))
  have hs1 : w.heap.size < w1.heap.size := by have := b1.size; simp at this; omega
  have cg := cell_later bw HC.out
  have hown := map_later HO.out bw HO.out.lt
  have HB := Lib.hid bw
  clear b1 bw hb2
  cases hh : holdsB c v with
  | false =>
    have HN := Lib.hid hh
    clear hh
    go_wp2_with fail
    go_end0
    exact ⟨rfl, grownBy_below HB.out _, D, hown.mono (Nat.le_succ _), fun j hj => by simp only [HN.out, Bool.false_eq_true, and_false, if_false, Nat.add_zero]; exact HD.out j hj⟩
  | true =>
    have HN := Lib.hid hh
    clear hh
    have hgw : g < w1.heap.size := by omega
    have hw := HW.out (k i : Int) (by omega) (by have := HK.out; omega)
    go_wp2_with (first
      | (at_lookup; refine wpList_lookup_own_int _ rfl _ _ 82 rfl 3 3 .i64 (Maps.int_keyed Tryz.underlying3) Tryz.underlying82 Tryz.underlying3 (by kernel_rfl) bh nn D rfl hown _ _ rfl hk0 ?_; intro cnt hat hwc; rw [HD.out i ho] at hat; injection hat with hat; injection hat with _ hat; subst hat)
      | (at_mapUpdate; refine wpList_mapUpdate_own _ rfl _ _ _ 82 rfl 3 3 (Maps.int_keyed Tryz.underlying3) Tryz.underlying82 _ bh nn D rfl hown HM.out (.int .i64 i) (.int .i64 (wrap64 ((k i : Int) + 1))) (.int .i64 i) rfl rfl hk0 _ [] HF.out ?_; intro w2 hown2 hgrow2)
      | fail)
    go_end0
    refine ⟨rfl, (grownBy_below HB.out _).trans hgrow2, _, hown2, fun j hj => ?_⟩
    by_cases hj' : j = i
    · subst hj'
      rw [atKey_put_same hown.isMap (show WideAt.IsKeyLit (.int .i64 j) from trivial)]
      simp [HN.out, hw]
    · rw [atKey_put_other (by simpa using hj'), HD.out j hj]
      simp [hj']
end Go.Proofs.YtlnjmcodgdebmaaGreat.Gm
set_option linter.unusedSimpArgs false
set_option linter.unusedVariables false
namespace Go.Proofs.YtlnjmcodgdebmaaGreat.Gm
open Go Go.RowKit Go.Maps

theorem look_own {w : World} {k t e : TypeId} {R : Value → Option (DataW Value × List MemPlace)} {b n : Nat} {D : DataW Value} (h : w.ownsMap Tryz.prog k R b n D) (K : Keyed Tryz.prog k) (ht : Tryz.prog.underlying t = some (.map k e)) {z : Value} (hz : (zeroValue e).run Tryz.prog w = .ok z w) {zd : DataW Value} {zp : List MemPlace} (hzd : R z = some (zd, zp))
    {key : Value} {kl : Lit} (hkey : keyOf Tryz.prog k key = some kl) : ∃ v ps, (Instr.lookup t (.map (some b)) key false).run Tryz.prog w = .ok v w ∧ R v = some (D.atKey kl zd, ps) := by
  obtain ⟨es, clock, hb, F, _, rfl⟩ := h
  rcases Maps.fit_look false K ht hz hb F hkey with ⟨hrun, _, hat⟩ | ⟨e0, y, _, _, hrun, hRv, hat, _⟩
  · exact ⟨z, zp, hrun, by rw [hat zd]; exact hzd⟩
  · exact ⟨e0.val, y.2, hrun, by rw [hat zd]; exact hRv⟩
theorem wpList_lookup_own {w : World} {ops : Array Oper} {rest : List Oper} {o : Oper} {a : Act} {Q : Exit → Act → World → Prop} (hg : o.guard = none) (m x : Operand) (t : TypeId) (hop : o.op = Op.lookup t m x false)
    (k e : TypeId) (K : Keyed Tryz.prog k) (ht : Tryz.prog.underlying t = some (.map k e)) (R : Value → Option (DataW Value × List MemPlace)) {z : Value} (hz : (zeroValue e).run Tryz.prog w = .ok z w) (zd : DataW Value) (zp : List MemPlace) (hzd : R z = some (zd, zp)) (b n : Nat) (D : DataW Value)
    (hm : a.eval m = .map (some b)) (hown : w.ownsMap Tryz.prog k R b n D) (key : Value) (kl : Lit) (hx : a.eval x = key) (hkey : keyOf Tryz.prog k key = some kl)
    (hK : ∀ v ps, R v = some (D.atKey kl zd, ps) → wpList Tryz.prog ops Q rest (a.put o.dst v) w) :
    wpList Tryz.prog ops Q (o :: rest) a w := by
  refine wpList_plain hg fun K' hK' => ?_
  obtain ⟨v, ps, hrun, hv⟩ := look_own hown K ht hz hzd hkey
  unfold Oper.wp
  simp [execOp, hop, hm, hx, hrun, Result.andThen]
  exact hK' _ _ (hK v ps hv)
end Go.Proofs.YtlnjmcodgdebmaaGreat.Gm
/- Layer 8, plain: what is asked of the first attributes; the constraints of a name in memory; worlds that differ above a bound alone. -/
set_option linter.unusedSimpArgs false
set_option linter.unusedVariables false
namespace Go.Proofs.YtlnjmcodgdebmaaGreat.Gm
open Go Go.RowKit Go.Maps

theorem firsts_snoc (l : List At) (a : At) (seen : List ByteArray) : firsts seen (l ++ [a]) = firsts seen l ++ if a.nm ∈ seen ∨ a.nm ∈ l.map (·.nm) then [] else [a] := by
  induction l generalizing seen with
  | nil => by_cases h : a.nm ∈ seen <;> simp [firsts, h]
  | cons x l ih =>
    rw [List.cons_append]
    unfold firsts
    by_cases hx : x.nm ∈ seen
    · rw [if_pos hx, if_pos hx, ih]
      congr 1
      have : (a.nm ∈ seen ∨ a.nm ∈ l.map (·.nm)) ↔ (a.nm ∈ seen ∨ a.nm ∈ (x :: l).map (·.nm)) := by
        simp only [List.map_cons, List.mem_cons]
        constructor
        · rintro (h | h)
          · exact .inl h
          · exact .inr (.inr h)
        · rintro (h | h | h)
          · exact .inl h
          · exact .inl (h ▸ hx)
          · exact .inr h
      simp only [this]
    · rw [if_neg hx, if_neg hx, ih, List.cons_append]
      congr 2
      have : (a.nm ∈ x.nm :: seen ∨ a.nm ∈ l.map (·.nm)) ↔ (a.nm ∈ seen ∨ a.nm ∈ (x :: l).map (·.nm)) := by
        simp only [List.map_cons, List.mem_cons]
        constructor
        · rintro ((h | h) | h)
          · exact .inr (.inl h)
          · exact .inl h
          · exact .inr (.inr h)
        · rintro (h | h | h)
          · exact .inl (.inr h)
          · exact .inl (.inl h)
          · exact .inr h
      simp only [this]
theorem asks_snoc (D : List Ent) (l : List At) (a : At) : asks D (l ++ [a]) = asks D l ++ if a.nm ∈ l.map (·.nm) then [] else (named D a.nm).map fun o => (o, a) := by
  unfold asks
  rw [firsts_snoc, List.flatMap_append]
  congr 1
  by_cases h : a.nm ∈ l.map (·.nm) <;> simp [h]
theorem take_snoc {α : Type} [Inhabited α] (l : List α) {k : Nat} (hk : k < l.length) : l.take (k + 1) = l.take k ++ [l.getD k default] := by
  rw [List.take_add_one, List.getElem?_eq_getElem hk, List.getD_eq_getElem?_getD, List.getElem?_eq_getElem hk]; rfl
theorem firsts_append (l m : List At) (seen : List ByteArray) : ∃ r, firsts seen (l ++ m) = firsts seen l ++ r := by
  induction l generalizing seen with
  | nil => exact ⟨_, rfl⟩
  | cons x l ih =>
    rw [List.cons_append]
    unfold firsts
    by_cases hx : x.nm ∈ seen
    · rw [if_pos hx, if_pos hx]; exact ih seen
    · rw [if_neg hx, if_neg hx]
      obtain ⟨r, hr⟩ := ih (x.nm :: seen)
      exact ⟨r, by rw [hr, List.cons_append]⟩
/-- What is asked up to a place is a beginning of all that is asked. -/
theorem asks_prefix (D : List Ent) (l : List At) (k : Nat) : ∃ r, asks D l = asks D (l.take k) ++ r := by
  obtain ⟨r, hr⟩ := firsts_append (l.take k) (l.drop k) []
  rw [List.take_append_drop] at hr
  unfold asks
  rw [hr, List.flatMap_append]
  exact ⟨_, rfl⟩
/-- A constraint with its number in a row. -/
instance : Inhabited (Int × Cn) := ⟨(0, default)⟩
theorem encO_length (o : Int × Cn) : (encO o).length = 8 := rfl
def Eight (w : World) (b o : Nat) (x : Int × Cn) : Prop := w.cell? ⟨b, o, none⟩ = some (.int .i64 x.1) ∧ w.cell? ⟨b, o + 1, none⟩ = some (.string x.2.nm) ∧ w.cell? ⟨b, o + 2, none⟩ = some (.int .i64 x.2.op) ∧ w.cell? ⟨b, o + 3, none⟩ = some (.int .i64 x.2.v.k) ∧ w.cell? ⟨b, o + 4, none⟩ = some (.int .i64 x.2.v.n) ∧ w.cell? ⟨b, o + 5, none⟩ = some (.string x.2.v.s) ∧ w.cell? ⟨b, o + 6, none⟩ = some (.bool x.2.v.b) ∧ w.cell? ⟨b, o + 7, none⟩ = some (.slice x.2.sp x.2.set.length x.2.sc)
theorem eight_at {w : World} {v : Value} {l : List (Int × Cn)} (h : RowIn encO 8 w v l) {i : Nat} (hi : i < l.length) : ∃ p cap b o, v = .slice p l.length cap ∧ p = some ⟨b, o, none⟩ ∧ b < w.heap.size ∧ Eight w b (o + i * 8) (l.getD i default) := by
  obtain ⟨p, cap, b, o, h1, _, h3, _, h5⟩ := h
  have hl : l ≠ [] := by rintro rfl; simp at hi
  exact ⟨p, cap, b, o, h1, (h3 hl).1, (h3 hl).2, h5 i hi 0 _ rfl, h5 i hi 1 _ rfl, h5 i hi 2 _ rfl, h5 i hi 3 _ rfl, h5 i hi 4 _ rfl, h5 i hi 5 _ rfl, h5 i hi 6 _ rfl, h5 i hi 7 _ rfl⟩
theorem idx_o (p : Option Addr) (b o n cap k : Nat) (hp : p = some ⟨b, o, none⟩) (hk : k < n) (W : World) : (Instr.indexAt 75 (.slice p n cap) (.int .i64 (k : Int))).run Tryz.prog W = .ok (.pointer (some ⟨b, o + k * 8, none⟩)) W := by subst hp; go_simp
/-- The constraints by names: of each name the row of those that an index has. -/
structure NamedIs (W : World) (Dn : DataW Value) (D : List Ent) (U : ByteArray → Value) : Prop where
  at_ : ∀ nm, nm.size ≤ maxLen → Dn.atKey (.string nm.data.toList) (.held (.slice none 0 0)) = .held (U nm)
  row : ∀ nm, nm.size ≤ maxLen → RowIn encO 8 W (U nm) (named D nm)
theorem NamedIs.later {w w' : World} {Dn : DataW Value} {D : List Ent} {U : ByteArray → Value} (h : NamedIs w Dn D U) (hb : Below w.heap.size w w') : NamedIs w' Dn D U := ⟨h.at_, fun nm hn => (h.row nm hn).later hb⟩
theorem zero_named (w : World) : (zeroValue 75).run Tryz.prog w = .ok (.slice none 0 0) w := by kernel_rfl
/-- A look-up of a name. -/
theorem named_look {w : World} {bn nn : Nat} {Dn : DataW Value} {D : List Ent} {U : ByteArray → Value} (hown : w.ownsMap Tryz.prog 9 idElem bn nn Dn) (hN : NamedIs w Dn D U) (nm : ByteArray) (hs : nm.size ≤ maxLen) :
    (Instr.lookup 70 (.map (some bn)) (.string nm) false).run Tryz.prog w = .ok (U nm) w := by
  obtain ⟨v, ps, hrun, hv⟩ := look_own hown (string_keyed Tryz.underlying9) Tryz.underlying70 (zero_named w) (zd := .held (.slice none 0 0)) (zp := []) rfl (WideMaps.keyOf_string_mk Tryz.underlying9 hs)
  rw [hN.at_ nm hs] at hv
  have h2 := idElem_eq hv
  have h3 : v = U nm := (DataW.held.inj h2).symm
  rw [← h3]
  exact hrun
/-- Nothing below B has changed. -/
def SameTo (B : Nat) (w w' : World) : Prop := w.heap.size ≤ w'.heap.size ∧ ∀ k, k < B → w'.heap[k]? = w.heap[k]?
theorem SameTo.refl (B : Nat) (w : World) : SameTo B w w := ⟨Nat.le_refl _, fun _ _ => rfl⟩
theorem SameTo.trans {B : Nat} {a b c : World} (h : SameTo B a b) (k : SameTo B b c) : SameTo B a c := ⟨Nat.le_trans h.1 k.1, fun j hj => (k.2 j hj).trans (h.2 j hj)⟩
theorem SameTo.of {B : Nat} {w w' : World} (h : Below B w w') : SameTo B w w' := ⟨h.size, h.block⟩
theorem SameTo.turned {B b : Nat} {w w' : World} (h : w.grownBy w' (some b)) (hB : B ≤ w.heap.size) (hb : B ≤ b) : SameTo B w w' := ⟨h.size, fun k hk => h.block k (by omega) (by rintro he; have := Option.some.inj he; omega)⟩
/-- What has changed of a world that was, through one that was made of it. -/
theorem grown_then8 {w a b : World} {T : Nat} (h : w.grownBy a (some T)) (k : Below w.heap.size a b) : w.grownBy b (some T) :=
  ⟨k.os.trans h.os, k.tape.trans h.tape, k.output.trans h.output, Nat.le_trans h.size k.size, fun j hj hn => (k.block j hj).trans (h.block j hj hn)⟩
theorem below_turned {w a b : World} {T : Nat} (h : a.grownBy b (some T)) (hw : w.heap.size ≤ a.heap.size) (hT : w.heap.size ≤ T) : Below w.heap.size a b :=
  ⟨h.os, h.tape, h.output, h.size, fun k hk => h.block k (by omega) (by rintro he; have := Option.some.inj he; omega)⟩
end Go.Proofs.YtlnjmcodgdebmaaGreat.Gm
set_option linter.unusedSimpArgs false
set_option linter.unusedVariables false
namespace Go.Proofs.YtlnjmcodgdebmaaGreat.Gm
open Go Go.RowKit Go.Maps Go.Sort
attribute [local go_sem ↓] Go.wp_at_zero Go.wp_at_succ

theorem below_grow8 (w : World) (os : Array Obj) : Below w.heap.size w (Sort.grow w os) := ⟨rfl, rfl, rfl, by rw [Sort.size_grow]; omega, fun k hk => Sort.heap_grow_old w os hk⟩
def OwnN (w : World) (base : Nat) (v : Value) (l : List Int) : Prop := w.ownsRow base 3 1 v l.length (l.map encZ)
/-- What Sort leaves of a row that the call owns. -/
def SortN8 (B : Nat) (v : Value) (l : List Int) (w : World) (e : Ending) (w' : World) : Prop := e = .returned (.tuple #[]) ∧ OwnN w' B v l ∧ Below B w w'
theorem sort_own_n (B : Nat) (v : Value) (l : List Int) (w : World) (hO : OwnN w B v l) (hB : B ≤ w.heap.size) (hl : l.length ≤ 1000000) : Calls Tryz.prog 36 #[v] w (SortN8 B v (l.mergeSort fun x y => decide (x ≤ y)) w) := by
  have hlen : (l.mergeSort fun x y => decide (x ≤ y)).length = l.length := List.length_mergeSort _
  by_cases hv : v = .slice none 0 0
  · subst hv
    have h0 : l = [] := by
      rcases hO.2 with ⟨_, h⟩ | ⟨g, cap, cur, e, _⟩
      · exact List.eq_nil_of_length_eq_zero h
      · cases e
    subst h0
    exact (Tryz.slices_Sort_int_none none 0 w).mono fun e w' ⟨he, hw⟩ => ⟨he, by rw [hw]; simpa using hO, by rw [hw]; exact Below.refl _ _⟩
  · obtain ⟨g, cap, rfl, hg, hgw, hc, _, _, hH⟩ := Lib.holds_of_ownsRow (enc := Value.int .i64) hO hv
    refine (Tryz.slices_Sort_int g 0 cap l w hH hgw (by omega)).mono fun e w' ⟨he, n, os, hw⟩ => ⟨he, ?_, ?_⟩
    · have h1 := Lib.ownsRow_putRow (enc := Value.int .i64) (q := n) (k := l.length) (ys := l.mergeSort fun x y => decide (x ≤ y)) hO hlen (Nat.le_refl _)
      rw [List.take_of_length_le (by omega)] at h1
      rw [hw]
      unfold OwnN
      rw [hlen]
      exact own_later h1 (below_grow8 _ _)
    · rw [hw]
      have h1 : Below B w (Sort.putRow (Value.int .i64) (Sort.ahead w n) g 0 (l.mergeSort fun x y => decide (x ≤ y)).toArray) := Lib.below_putRow (q := n) (Below.refl _ _) hg
      exact h1.trans ((below_grow8 _ os).mono (by rw [Sort.size_putRow]; exact hB))
theorem encZ_flat : ∀ l : List Int, l.map encZ = l.flatMap encN
  | [] => rfl
  | a :: l => by rw [List.map_cons, List.flatMap_cons, encZ_flat l]; rfl
theorem OwnN.row {w : World} {base : Nat} {v : Value} {l : List Int} (h : OwnN w base v l) : RowIn encN 1 w v l := by
  unfold OwnN at h
  rw [encZ_flat] at h
  exact row_of_own (fun _ => rfl) h

/-- Which of an index's predicates are told, of those that have come. -/
def told (D : List Ent) (left : Lit → Bool) (m : Ent → Bool) : List Int := (D.filter fun e => !left (.int .i64 e.1) && m e).map (·.1)
theorem told_none (D : List Ent) (left : Lit → Bool) (m : Ent → Bool) (h : ∀ e ∈ D, left (.int .i64 e.1) = true) : told D left m = [] := by
  unfold told
  rw [List.filter_eq_nil_iff.2 fun e he => by simp [h e he]]; rfl
theorem told_all (D : List Ent) (left : Lit → Bool) (m : Ent → Bool) (h : ∀ kl, left kl = false) : told D left m = (D.filter m).map (·.1) := by
  unfold told
  congr 2
  funext e; simp [h]
theorem told_step {D : List Ent} (hD : (D.map (·.1)).Nodup) {left : Lit → Bool} {m : Ent → Bool} {id : Int} {p : List Cn} (hp : (id, p) ∈ D) (hl : left (.int .i64 id) = true) :
    (told D (fun z => left z && !z.sameKey (.int .i64 id)) m).Perm (told D left m ++ if m (id, p) then [id] else []) := by
  unfold told
  induction D with
  | nil => cases hp
  | cons e D ih =>
    rw [List.map_cons, List.nodup_cons] at hD
    rw [List.filter_cons, List.filter_cons]
    by_cases he : e.1 = id
    · have hep : e = (id, p) := by
        rcases List.mem_cons.1 hp with h | h
        · exact h.symm
        · exact absurd (List.mem_map.2 ⟨_, h, rfl⟩) (he ▸ hD.1)
      subst hep
      have h1 : left (.int .i64 id) = true := hl
      have hs : (Lit.int .i64 id).sameKey (.int .i64 id) = true := WideAt.sameKey_self trivial
      have hrest : D.filter (fun e => !(left (.int .i64 e.1) && !(Lit.int .i64 e.1).sameKey (.int .i64 id)) && m e) = D.filter (fun e => !left (.int .i64 e.1) && m e) := by
        refine List.filter_congr fun d hd => ?_
        have hne : d.1 ≠ id := fun h => hD.1 (h ▸ List.mem_map.2 ⟨d, hd, rfl⟩)
        have hk : (Lit.int .i64 d.1).sameKey (.int .i64 id) = false := by simp [Lit.sameKey, hne]
        rw [hk]; simp
      rw [hrest]
      simp only [h1, hs]
      cases m (id, p)
      · simp
      · simpa using (List.perm_append_comm (l₁ := [id]))
    · have hk : (Lit.int .i64 e.1).sameKey (.int .i64 id) = false := by simp [Lit.sameKey, he]
      have hp' : (id, p) ∈ D := by
        rcases List.mem_cons.1 hp with h | h
        · exact absurd (by rw [← h]) he
        · exact h
      have := ih hD.2 hp'
      simp only [hk, Bool.not_false, Bool.and_true] at this ⊢
      by_cases hm : (!left (.int .i64 e.1) && m e) = true
      · rw [if_pos hm, if_pos hm, List.map_cons, List.map_cons, List.cons_append]
        exact List.Perm.cons _ this
      · rw [if_neg hm, if_neg hm]
        exact this
end Go.Proofs.YtlnjmcodgdebmaaGreat.Gm
