/- Layer 8, plain: what is asked of the first attributes; the constraints of a name in memory; worlds that differ above a bound alone. -/
import Derived.Test.YtaplgoachembdaaGreatHc
import Derived.Test.YtaplgoachembdaaGreatKqa
import Derived.RangeFuncBox
import Derived.Maps.AppendAt
import Derived.Maps.OwnOps
import Derived.StringKeys
/- Layer 8: a look-up without ok, whatever the elements. -/
/- Layer 8: Get. -/
set_option linter.unusedSimpArgs false
set_option linter.unusedVariables false
namespace Go.Proofs.YtaplgoachembdaaGreat.Gm
open Go Go.RowKit Go.Maps
attribute [local go_sem ↓] Go.wp_at_zero Go.wp_at_succ

/-- The predicates' map: which numbers it has, and their slices. -/
structure PredsIs (Dp : DataW Value) (f : Int → Option Value) : Prop where
  has : ∀ i, (Lit.int .i64 i).wf = true → Maps.has Dp (.int .i64 i) = (f i).isSome
  at_ : ∀ i v, f i = some v → ∀ z, Dp.atKey (.int .i64 i) z = .held v
theorem idElem_eq {v : Value} {d : DataW Value} {ps : List MemPlace} (h : idElem v = some (d, ps)) : d = .held v := by
  unfold idElem at h; injection h with h; injection h with h _; exact h.symm
theorem zero_pred (w : World) : (zeroValue 31).run Tryz.prog w = .ok (.slice none 0 0) w := by kernel_rfl
theorem get_none (i : Int) (w : World) : Calls Tryz.prog 18 #[.pointer none, .int .i64 i] w (Gives (.tuple #[.slice none 0 0, .bool false]) w) := by
  have HM := Lib.hid (fun W => made_none W)
  go_enter Tryz.func18, Tryz.ntmps18
  go_wp2_with fail
  refine (HM.out _).mono ?_; rintro e w1 ⟨rfl, b1⟩
  have HB := Lib.hid b1
  clear b1
  go_wp2_with fail
  go_ret2
  exact ⟨rfl, HB.out⟩
set_option maxHeartbeats 1000000 in
theorem get_not (g bp bn nn : Nat) (Dp : DataW Value) (f : Int → Option Value) (i : Int) (hi : (Lit.int .i64 i).wf = true) (w : World) (h : Maps2 w g bp bn) (hown : w.ownsMap Tryz.prog 3 idElem bp nn Dp) (hf : PredsIs Dp f) (hn : f i = none) :
    Calls Tryz.prog 18 #[.pointer (some ⟨g, 0, none⟩), .int .i64 i] w (Gives (.tuple #[.slice none 0 0, .bool false]) w) := by
  have HM := Lib.hid (made_yes g bp bn w h)
  have HX := Lib.hid h
  have HO := Lib.hid hown
  have hk : keyOf Tryz.prog 3 (.int .i64 i) = some (.int .i64 i) := Maps.keyOf_int_mk Tryz.underlying3 hi
  have hh : Maps.has Dp (.int .i64 i) = false := by rw [hf.has i hi, hn]; rfl
  clear h hown
  go_enter Tryz.func18, Tryz.ntmps18
  go_wp2_with fail
  refine HM.out.mono ?_; rintro e w1 ⟨rfl, b1⟩
  have h0 := (HX.out.later b1).p
  have hl := (HX.out.later b1).lt
  have hown := map_later HO.out b1 HO.out.lt
  have HB := Lib.hid b1
  clear b1
  go_wp2_with (first | (at_lookup; refine wpList_lookup_own_ok _ rfl _ _ 69 rfl 3 31 (Maps.int_keyed Tryz.underlying3) Tryz.underlying69 idElem (zero_pred _) (.held (.slice none 0 0)) [] rfl bp nn Dp rfl hown _ _ rfl hk ?_; rw [hh]; intro v ps _; clear hh) | fail)
  go_ret2
  exact ⟨rfl, HB.out⟩
/-- What Get tells where the number is there: the normal form of its normal form, in new memory. -/
def GetR (l : List Cn) (w : World) (e : Ending) (w' : World) : Prop := ∃ p cap r, e = .returned (.tuple #[.slice p r.length cap, .bool true]) ∧ Norm l w w' p cap r
set_option maxHeartbeats 1000000 in
theorem get_there (g bp bn nn : Nat) (Dp : DataW Value) (f : Int → Option Value) (i : Int) (hi : (Lit.int .i64 i).wf = true) (w : World) (h : Maps2 w g bp bn) (hown : w.ownsMap Tryz.prog 3 idElem bp nn Dp) (hf : PredsIs Dp f) (v : Value) (hn : f i = some v) (l : List Cn) (hC : Cs w v l) (hm : mayPr l = true) :
    Calls Tryz.prog 18 #[.pointer (some ⟨g, 0, none⟩), .int .i64 i] w (GetR l w) := by
  have HM := Lib.hid (made_yes g bp bn w h)
  have HX := Lib.hid h
  have HO := Lib.hid hown
  have HC := Lib.hid hC
  obtain ⟨p0, cap0, rfl⟩ := hC.1.form
  have hk : keyOf Tryz.prog 3 (.int .i64 i) = some (.int .i64 i) := Maps.keyOf_int_mk Tryz.underlying3 hi
  have hh : Maps.has Dp (.int .i64 i) = true := by rw [hf.has i hi, hn]; rfl
  have HA := Lib.hid (hf.at_ i _ hn)
  clear h hown hC
  go_enter Tryz.func18, Tryz.ntmps18
  go_wp2_with fail
  refine HM.out.mono ?_; rintro e w1 ⟨rfl, b1⟩
  have h0 := (HX.out.later b1).p
  have hl := (HX.out.later b1).lt
  have hown := map_later HO.out b1 HO.out.lt
  have HB := Lib.hid b1
  have HN := Lib.hid (normal_yes _ l w1 (HC.out.later b1) hm)
  clear b1
  go_wp2_with (first | (at_lookup; refine wpList_lookup_own_ok _ rfl _ _ 69 rfl 3 31 (Maps.int_keyed Tryz.underlying3) Tryz.underlying69 idElem (zero_pred _) (.held (.slice none 0 0)) [] rfl bp nn Dp rfl hown _ _ rfl hk ?_; rw [hh]; intro v ps hv; clear hh; have hv := idElem_eq hv; rw [HA.out] at hv; injection hv with hv; subst hv) | fail)
  refine HN.out.mono ?_; rintro e w2 ⟨p, cap, r, rfl, hN⟩
  have HR := Lib.hid (show GetR l w (.returned (.tuple #[.slice p r.length cap, .bool true])) w2 from ⟨p, cap, r, rfl, ⟨⟨own_base hN.own.1 HB.out.size, fun c hc => (hN.own.2 c hc).base HB.out.size⟩, hN.rise, hN.is, hN.sets, hN.len, HB.out.trans (hN.bel.mono HB.out.size)⟩⟩)
  clear hN
  go_wp2_with fail
  go_ret2
  exact HR.out
end Go.Proofs.YtaplgoachembdaaGreat.Gm
/- Layer 8: the closure of Match. -/
/- Layer 8: the closure of Looks. -/
set_option linter.unusedSimpArgs false
set_option linter.unusedVariables false
namespace Go.Proofs.YtaplgoachembdaaGreat.Gm
open Go Go.RowKit Go.Maps
attribute [local go_sem ↓] Go.wp_at_zero Go.wp_at_succ

/-- A constraint with its predicate's number, as it lies in a row. -/
def encO (o : Int × Cn) : List Value := .int .i64 o.1 :: encC o.2
def oo (o : Int × Cn) : Value := .agg (encO o).toArray
/-- What Looks's closure does: it adds one. -/
def Adds (g : Nat) (n : Int) (w : World) (e : Ending) (w' : World) : Prop :=
  e = .returned (.tuple #[]) ∧ w'.cell? ⟨g, 0, none⟩ = some (.int .i64 (n + 1)) ∧ w'.frozen? ⟨g, 0, none⟩ = false ∧ w.grownBy w' (some g)
set_option maxHeartbeats 1000000 in
theorem looks_one (g : Nat) (n : Int) (h0 : 0 ≤ n) (hn : n < 4611686018427387904) (o : Int × Cn) (v : Vl) (w : World) (hc : w.cell? ⟨g, 0, none⟩ = some (.int .i64 n)) (hf : w.frozen? ⟨g, 0, none⟩ = false) (hl : g < w.heap.size) :
    Calls Tryz.prog 39 #[oo o, vv v, .pointer (some ⟨g, 0, none⟩)] w (Adds g n w) := by
  obtain ⟨i, c⟩ := o
  have hw : wrap64 (n + 1) = n + 1 := by
    unfold wrap64; omega
  unfold oo encO encC
  go_enter Tryz.func39, Tryz.ntmps39
  go_wp2_with fail
  go_end0
  have hs : (w.setCell ⟨g, 0, none⟩ (.int .i64 (n + 1))).heap.size = w.heap.size := by simp
  have hb : ∀ o1 o2 : Obj, Below w.heap.size (w.setCell ⟨g, 0, none⟩ (.int .i64 (n + 1))) (((w.setCell ⟨g, 0, none⟩ (.int .i64 (n + 1))).alloc o1).alloc o2) := fun o1 o2 => (((Below.refl _ _).alloc (by omega) _).alloc (by simp) _)
  refine ⟨rfl, ?_, ?_, ((grownBy_setCell' w g _).trans (World.grownBy_alloc _ _ _)).trans (World.grownBy_alloc _ _ _)⟩
  · exact (Below.cell (hb _ _) (p := ⟨g, 0, none⟩) hl).trans (World.cell?_setCell_same _ _ _ hc)
  · exact ((hb _ _).frozen (p := ⟨g, 0, none⟩) hl).trans (by simpa using hf)
end Go.Proofs.YtaplgoachembdaaGreat.Gm
set_option linter.unusedSimpArgs false
set_option linter.unusedVariables false
namespace Go.Proofs.YtaplgoachembdaaGreat.Gm
open Go Go.RowKit Go.Maps
attribute [local go_sem ↓] Go.wp_at_zero Go.wp_at_succ

/-- The counts that a map holds. -/
def HeldIs (D : DataW Value) (k : Int → Nat) : Prop := ∀ i, (Lit.int .i64 i).wf = true → D.atKey (.int .i64 i) (.lit (.int .i64 0)) = .lit (.int .i64 (k i))
/-- What Match's closure does: where the constraint holds, its number is counted once more. -/
def Counts (bh nn : Nat) (k : Int → Nat) (o : Int × Cn) (v : Vl) (w : World) (e : Ending) (w' : World) : Prop :=
  e = .returned (.tuple #[]) ∧ w.grownBy w' (some bh) ∧ ∃ D', w'.ownsMap Tryz.prog 3 (plainElem Tryz.prog 3) bh (nn + 1) D' ∧ HeldIs D' fun i => k i + if i = o.1 ∧ holdsB o.2 v = true then 1 else 0
theorem grownBy_below {w w' : World} (h : Below w.heap.size w w') (r : Option Nat) : w.grownBy w' r := ⟨h.os, h.tape, h.output, h.size, fun i hi _ => h.block i hi⟩
set_option maxHeartbeats 2000000 in
set_option maxRecDepth 20000 in
theorem match_one (g bh nn : Nat) (D : DataW Value) (k : Int → Nat) (hD : HeldIs D k) (hk : ∀ i, k i ≤ nn) (hnn : nn < 1099511627776) (o : Int × Cn) (ho : (Lit.int .i64 o.1).wf = true) (v : Vl) (w : World) (hS : Vs w o.2.sv o.2.set)
    (hc : w.cell? ⟨g, 0, none⟩ = some (.map (some bh))) (hl : g < w.heap.size) (hown : w.ownsMap Tryz.prog 3 (plainElem Tryz.prog 3) bh nn D) :
    Calls Tryz.prog 35 #[oo o, vv v, .pointer (some ⟨g, 0, none⟩)] w (Counts bh nn k o v w) := by
  obtain ⟨i, c⟩ := o
  have hw : ∀ n : Int, 0 ≤ n → n ≤ nn → wrap64 (n + 1) = n + 1 := by
    intro n h0 h1; unfold wrap64; omega
  have hwf : ∀ n : Int, 0 ≤ n → n ≤ nn → (Lit.int .i64 (n + 1)).wf = true := by
    intro n h0 h1; rw [← hw n h0 h1]; exact wrap64_wf _
  have hk0 : keyOf Tryz.prog 3 (.int .i64 i) = some (.int .i64 i) := Maps.keyOf_int_mk Tryz.underlying3 ho
  have HH := Lib.hid (fun W (h : Below w.heap.size w W) => holds_any c v W (hS.later h))
  have HO := Lib.hid hown
  have HC := Lib.hid hc
  have HD := Lib.hid hD
  have HK := Lib.hid (hk i)
  have HW := Lib.hid hw
  have HM := Lib.hid (show nn < maxLen from Nat.lt_of_lt_of_le hnn (by decide))
  have HF := Lib.hid (plainElem_int (H := Value) Tryz.underlying3 (wrap64_wf ((k i : Int) + 1)))
  unfold oo encO encC
  clear hown hc hD hk hw hwf hS
  go_enter Tryz.func35, Tryz.ntmps35
  go_wp2_with fail
  have hb2 : ∀ o1 o2 : Obj, Below w.heap.size w ((w.alloc o1).alloc o2) := fun o1 o2 => ((Below.refl _ w).alloc (Nat.le_refl _) _).alloc (by simp) _
  refine (HH.out _ (hb2 _ _)).mono ?_; rintro e w1 ⟨rfl, b1⟩
  have ci : w1.cell? ⟨w.heap.size, 0, none⟩ = some (.int .i64 i) := (Below.cell b1 (p := ⟨w.heap.size, 0, none⟩) (by simp; omega)).trans (by simp)
  have bw := (hb2 _ _).trans (b1.mono (by simp; omega))
  have hs1 : w.heap.size < w1.heap.size := by have := b1.size; simp at this; omega
  have cg := cell_later bw HC.out
  have hown := map_later HO.out bw HO.out.lt
  have HB := Lib.hid bw
  clear b1 bw hb2
  cases hh : holdsB c v with
  | false =>
    have HN := Lib.hid hh
    clear hh
    go_wp2_with fail
    go_end0
    exact ⟨rfl, grownBy_below HB.out _, D, hown.mono (Nat.le_succ _), fun j hj => by simp only [HN.out, Bool.false_eq_true, and_false, if_false, Nat.add_zero]; exact HD.out j hj⟩
  | true =>
    have HN := Lib.hid hh
    clear hh
    have hgw : g < w1.heap.size := by omega
    have hw := HW.out (k i : Int) (by omega) (by have := HK.out; omega)
    go_wp2_with (first
      | (at_lookup; refine wpList_lookup_own_int _ rfl _ _ 82 rfl 3 3 .i64 (Maps.int_keyed Tryz.underlying3) Tryz.underlying82 Tryz.underlying3 (by kernel_rfl) bh nn D rfl hown _ _ rfl hk0 ?_; intro cnt hat hwc; rw [HD.out i ho] at hat; injection hat with hat; injection hat with _ hat; subst hat)
      | (at_mapUpdate; refine wpList_mapUpdate_own _ rfl _ _ _ 82 rfl 3 3 (Maps.int_keyed Tryz.underlying3) Tryz.underlying82 _ bh nn D rfl hown HM.out (.int .i64 i) (.int .i64 (wrap64 ((k i : Int) + 1))) (.int .i64 i) rfl rfl hk0 _ [] HF.out ?_; intro w2 hown2 hgrow2)
      | fail)
    go_end0
    refine ⟨rfl, (grownBy_below HB.out _).trans hgrow2, _, hown2, fun j hj => ?_⟩
    by_cases hj' : j = i
    · subst hj'
      rw [atKey_put_same hown.isMap (show WideAt.IsKeyLit (.int .i64 j) from trivial)]
      simp [HN.out, hw]
    · rw [atKey_put_other (by simpa using hj'), HD.out j hj]
      simp [hj']
end Go.Proofs.YtaplgoachembdaaGreat.Gm
set_option linter.unusedSimpArgs false
set_option linter.unusedVariables false
namespace Go.Proofs.YtaplgoachembdaaGreat.Gm
open Go Go.RowKit Go.Maps

theorem look_own {w : World} {k t e : TypeId} {R : Value → Option (DataW Value × List MemPlace)} {b n : Nat} {D : DataW Value} (h : w.ownsMap Tryz.prog k R b n D) (K : Keyed Tryz.prog k) (ht : Tryz.prog.underlying t = some (.map k e)) {z : Value} (hz : (zeroValue e).run Tryz.prog w = .ok z w) {zd : DataW Value} {zp : List MemPlace} (hzd : R z = some (zd, zp))
    {key : Value} {kl : Lit} (hkey : keyOf Tryz.prog k key = some kl) : ∃ v ps, (Instr.lookup t (.map (some b)) key false).run Tryz.prog w = .ok v w ∧ R v = some (D.atKey kl zd, ps) := by
  obtain ⟨es, clock, hb, F, _, rfl⟩ := h
  rcases Maps.fit_look false K ht hz hb F hkey with ⟨hrun, _, hat⟩ | ⟨e0, y, _, _, hrun, hRv, hat, _⟩
  · exact ⟨z, zp, hrun, by rw [hat zd]; exact hzd⟩
  · exact ⟨e0.val, y.2, hrun, by rw [hat zd]; exact hRv⟩
theorem wpList_lookup_own {w : World} {ops : Array Oper} {rest : List Oper} {o : Oper} {a : Act} {Q : Exit → Act → World → Prop} (hg : o.guard = none) (m x : Operand) (t : TypeId) (hop : o.op = Op.lookup t m x false)
    (k e : TypeId) (K : Keyed Tryz.prog k) (ht : Tryz.prog.underlying t = some (.map k e)) (R : Value → Option (DataW Value × List MemPlace)) {z : Value} (hz : (zeroValue e).run Tryz.prog w = .ok z w) (zd : DataW Value) (zp : List MemPlace) (hzd : R z = some (zd, zp)) (b n : Nat) (D : DataW Value)
    (hm : a.eval m = .map (some b)) (hown : w.ownsMap Tryz.prog k R b n D) (key : Value) (kl : Lit) (hx : a.eval x = key) (hkey : keyOf Tryz.prog k key = some kl)
    (hK : ∀ v ps, R v = some (D.atKey kl zd, ps) → wpList Tryz.prog ops Q rest (a.put o.dst v) w) :
    wpList Tryz.prog ops Q (o :: rest) a w := by
  refine wpList_plain hg fun K' hK' => ?_
  obtain ⟨v, ps, hrun, hv⟩ := look_own hown K ht hz hzd hkey
  unfold Oper.wp
  simp [execOp, hop, hm, hx, hrun, Result.andThen]
  exact hK' _ _ (hK v ps hv)
end Go.Proofs.YtaplgoachembdaaGreat.Gm
set_option linter.unusedSimpArgs false
set_option linter.unusedVariables false
namespace Go.Proofs.YtaplgoachembdaaGreat.Gm
open Go Go.RowKit Go.Maps

theorem firsts_snoc (l : List At) (a : At) (seen : List ByteArray) : firsts seen (l ++ [a]) = firsts seen l ++ if a.nm ∈ seen ∨ a.nm ∈ l.map (·.nm) then [] else [a] := by
  induction l generalizing seen with
  | nil => by_cases h : a.nm ∈ seen <;> simp [firsts, h]
  | cons x l ih =>
    rw [List.cons_append]
    unfold firsts
    by_cases hx : x.nm ∈ seen
    · rw [if_pos hx, if_pos hx, ih]
      congr 1
      have : (a.nm ∈ seen ∨ a.nm ∈ l.map (·.nm)) ↔ (a.nm ∈ seen ∨ a.nm ∈ (x :: l).map (·.nm)) := by
        simp only [List.map_cons, List.mem_cons]
        constructor
        · rintro (h | h)
          · exact .inl h
          · exact .inr (.inr h)
        · rintro (h | h | h)
          · exact .inl h
          · exact .inl (h ▸ hx)
          · exact .inr h
      simp only [this]
    · rw [if_neg hx, if_neg hx, ih, List.cons_append]
      congr 2
      have : (a.nm ∈ x.nm :: seen ∨ a.nm ∈ l.map (·.nm)) ↔ (a.nm ∈ seen ∨ a.nm ∈ (x :: l).map (·.nm)) := by
        simp only [List.map_cons, List.mem_cons]
        constructor
        · rintro ((h | h) | h)
          · exact .inr (.inl h)
          · exact .inl h
          · exact .inr (.inr h)
        · rintro (h | h | h)
          · exact .inl (.inr h)
          · exact .inl (.inl h)
          · exact .inr h
      simp only [this]
theorem asks_snoc (D : List Ent) (l : List At) (a : At) : asks D (l ++ [a]) = asks D l ++ if a.nm ∈ l.map (·.nm) then [] else (named D a.nm).map fun o => (o, a) := by
  unfold asks
  rw [firsts_snoc, List.flatMap_append]
  congr 1
  by_cases h : a.nm ∈ l.map (·.nm) <;> simp [h]
theorem take_snoc {α : Type} [Inhabited α] (l : List α) {k : Nat} (hk : k < l.length) : l.take (k + 1) = l.take k ++ [l.getD k default] := by
  rw [List.take_add_one, List.getElem?_eq_getElem hk, List.getD_eq_getElem?_getD, List.getElem?_eq_getElem hk]; rfl
theorem firsts_append (l m : List At) (seen : List ByteArray) : ∃ r, firsts seen (l ++ m) = firsts seen l ++ r := by
  induction l generalizing seen with
  | nil => exact ⟨_, rfl⟩
  | cons x l ih =>
    rw [List.cons_append]
    unfold firsts
    by_cases hx : x.nm ∈ seen
    · rw [if_pos hx, if_pos hx]; exact ih seen
    · rw [if_neg hx, if_neg hx]
      obtain ⟨r, hr⟩ := ih (x.nm :: seen)
      exact ⟨r, by rw [hr, List.cons_append]⟩
/-- What is asked up to a place is a beginning of all that is asked. -/
theorem asks_prefix (D : List Ent) (l : List At) (k : Nat) : ∃ r, asks D l = asks D (l.take k) ++ r := by
  obtain ⟨r, hr⟩ := firsts_append (l.take k) (l.drop k) []
  rw [List.take_append_drop] at hr
  unfold asks
  rw [hr, List.flatMap_append]
  exact ⟨_, rfl⟩
/-- A constraint with its number in a row. -/
instance : Inhabited (Int × Cn) := ⟨(0, default)⟩
theorem encO_length (o : Int × Cn) : (encO o).length = 8 := rfl
def Eight (w : World) (b o : Nat) (x : Int × Cn) : Prop := w.cell? ⟨b, o, none⟩ = some (.int .i64 x.1) ∧ w.cell? ⟨b, o + 1, none⟩ = some (.string x.2.nm) ∧ w.cell? ⟨b, o + 2, none⟩ = some (.int .i64 x.2.op) ∧ w.cell? ⟨b, o + 3, none⟩ = some (.int .i64 x.2.v.k) ∧ w.cell? ⟨b, o + 4, none⟩ = some (.int .i64 x.2.v.n) ∧ w.cell? ⟨b, o + 5, none⟩ = some (.string x.2.v.s) ∧ w.cell? ⟨b, o + 6, none⟩ = some (.bool x.2.v.b) ∧ w.cell? ⟨b, o + 7, none⟩ = some (.slice x.2.sp x.2.set.length x.2.sc)
theorem eight_at {w : World} {v : Value} {l : List (Int × Cn)} (h : RowIn encO 8 w v l) {i : Nat} (hi : i < l.length) : ∃ p cap b o, v = .slice p l.length cap ∧ p = some ⟨b, o, none⟩ ∧ b < w.heap.size ∧ Eight w b (o + i * 8) (l.getD i default) := by
  obtain ⟨p, cap, b, o, h1, _, h3, _, h5⟩ := h
  have hl : l ≠ [] := by rintro rfl; simp at hi
  exact ⟨p, cap, b, o, h1, (h3 hl).1, (h3 hl).2, h5 i hi 0 _ rfl, h5 i hi 1 _ rfl, h5 i hi 2 _ rfl, h5 i hi 3 _ rfl, h5 i hi 4 _ rfl, h5 i hi 5 _ rfl, h5 i hi 6 _ rfl, h5 i hi 7 _ rfl⟩
theorem idx_o (p : Option Addr) (b o n cap k : Nat) (hp : p = some ⟨b, o, none⟩) (hk : k < n) (W : World) : (Instr.indexAt 75 (.slice p n cap) (.int .i64 (k : Int))).run Tryz.prog W = .ok (.pointer (some ⟨b, o + k * 8, none⟩)) W := by subst hp; go_simp
/-- The constraints by names: of each name the row of those that an index has. -/
structure NamedIs (W : World) (Dn : DataW Value) (D : List Ent) (U : ByteArray → Value) : Prop where
  at_ : ∀ nm, nm.size ≤ maxLen → Dn.atKey (.string nm.data.toList) (.held (.slice none 0 0)) = .held (U nm)
  row : ∀ nm, nm.size ≤ maxLen → RowIn encO 8 W (U nm) (named D nm)
theorem NamedIs.later {w w' : World} {Dn : DataW Value} {D : List Ent} {U : ByteArray → Value} (h : NamedIs w Dn D U) (hb : Below w.heap.size w w') : NamedIs w' Dn D U := ⟨h.at_, fun nm hn => (h.row nm hn).later hb⟩
theorem zero_named (w : World) : (zeroValue 75).run Tryz.prog w = .ok (.slice none 0 0) w := by kernel_rfl
/-- A look-up of a name. -/
theorem named_look {w : World} {bn nn : Nat} {Dn : DataW Value} {D : List Ent} {U : ByteArray → Value} (hown : w.ownsMap Tryz.prog 9 idElem bn nn Dn) (hN : NamedIs w Dn D U) (nm : ByteArray) (hs : nm.size ≤ maxLen) :
    (Instr.lookup 70 (.map (some bn)) (.string nm) false).run Tryz.prog w = .ok (U nm) w := by
  obtain ⟨v, ps, hrun, hv⟩ := look_own hown (string_keyed Tryz.underlying9) Tryz.underlying70 (zero_named w) (zd := .held (.slice none 0 0)) (zp := []) rfl (WideMaps.keyOf_string_mk Tryz.underlying9 hs)
  rw [hN.at_ nm hs] at hv
  have h2 := idElem_eq hv
  have h3 : v = U nm := (DataW.held.inj h2).symm
  rw [← h3]
  exact hrun
/-- Nothing below B has changed. -/
def SameTo (B : Nat) (w w' : World) : Prop := w.heap.size ≤ w'.heap.size ∧ ∀ k, k < B → w'.heap[k]? = w.heap[k]?
theorem SameTo.refl (B : Nat) (w : World) : SameTo B w w := ⟨Nat.le_refl _, fun _ _ => rfl⟩
theorem SameTo.trans {B : Nat} {a b c : World} (h : SameTo B a b) (k : SameTo B b c) : SameTo B a c := ⟨Nat.le_trans h.1 k.1, fun j hj => (k.2 j hj).trans (h.2 j hj)⟩
theorem SameTo.of {B : Nat} {w w' : World} (h : Below B w w') : SameTo B w w' := ⟨h.size, h.block⟩
theorem SameTo.turned {B b : Nat} {w w' : World} (h : w.grownBy w' (some b)) (hB : B ≤ w.heap.size) (hb : B ≤ b) : SameTo B w w' := ⟨h.size, fun k hk => h.block k (by omega) (by rintro he; have := Option.some.inj he; omega)⟩
/-- What has changed of a world that was, through one that was made of it. -/
theorem grown_then8 {w a b : World} {T : Nat} (h : w.grownBy a (some T)) (k : Below w.heap.size a b) : w.grownBy b (some T) :=
  ⟨k.os.trans h.os, k.tape.trans h.tape, k.output.trans h.output, Nat.le_trans h.size k.size, fun j hj hn => (k.block j hj).trans (h.block j hj hn)⟩
theorem below_turned {w a b : World} {T : Nat} (h : a.grownBy b (some T)) (hw : w.heap.size ≤ a.heap.size) (hT : w.heap.size ≤ T) : Below w.heap.size a b :=
  ⟨h.os, h.tape, h.output, h.size, fun k hk => h.block k (by omega) (by rintro he; have := Option.some.inj he; omega)⟩
end Go.Proofs.YtaplgoachembdaaGreat.Gm
