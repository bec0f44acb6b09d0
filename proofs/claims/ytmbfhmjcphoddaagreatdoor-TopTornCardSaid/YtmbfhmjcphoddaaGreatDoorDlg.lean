/- Layer 10: what a crash leaves of a view, file by file; plain facts for DiskKeeps. -/
import Derived.Test.YtmbfhmjcphoddaaGreatDoorDla
import Derived.Test.YtmbfhmjcphoddaaGreatDoorKL
import Derived.Laws.Cover4
/- Layer 10: what a disk has, as a text: shape. -/
/- Layer 10: a row's call, walked: do. -/
set_option linter.unusedSimpArgs false
set_option linter.unusedVariables false
namespace Go.Proofs.YtmbfhmjcphoddaaGreatDoor.Gm
open Go Go.RowKit Go.Maps
attribute [local go_sem ↓] Go.wp_at_zero Go.wp_at_succ

/-- What holds behind the call itself: the disk; the bytes of the call's own, in a block that is none of the disk's. -/
structure DoMid (W0 : World) (B g bm t : Nat) (o : AOut) (vb : Value) (b : List UInt8) (w : World) : Prop where
  dsk : ∃ nn D L, Dsk B g bm t nn w D L o.q o.fu o.off ∧ view L = o.V ∧ ∀ k, Inn g bm L k → vb.ownBlock ≠ some k
  own : OwnB w B vb b
  bel : Below B W0 w
theorem DoMid.stay {W0 : World} {B g bm t nn : Nat} {V : View} {q fu : Int} {off : Bool} {D : DataW Value} {L : List Ent} {vb : Value} {b : List UInt8} {w1 w2 w3 : World} (hD : Dsk B g bm t nn w2 D L q fu off) (hV : view L = V) (ho : OwnB w2 w1.heap.size vb b) (hI : ∀ k, Inn g bm L k → k < w1.heap.size) (hw : Below w1.heap.size w1 w2) (hB : Below B W0 w2) (hB1 : B ≤ w1.heap.size)
    {t' : Nat} (ht : t ≤ t') : DoMid W0 B g bm t' ⟨0, V, q, fu, off⟩ vb b w2 :=
  ⟨⟨nn, D, L, hD.up ht, hV, fun k hk e => by have := (World.ownsRow.lt ho k e).1; have := hI k hk; omega⟩, ho.base hB1, hB⟩
theorem DoMid.step {W0 : World} {B g bm t : Nat} {q fu : Int} {off : Bool} {L : List Ent} {V' : View} {vb : Value} {b : List UInt8} {w1 w2 w3 : World} (hS : StepV B g bm t L V' q fu off w2 w3) (ho : OwnB w2 w1.heap.size vb b) (hI : ∀ k, Inn g bm L k → k < w1.heap.size) (hIB : ∀ k, Inn g bm L k → B ≤ k) (hB : Below B W0 w2) (hB1 : B ≤ w1.heap.size) (h12 : w1.heap.size ≤ w2.heap.size) (c : Int) :
    DoMid W0 B g bm (t + 2) ⟨c, V', q, fu, off⟩ vb b w3 := by
  obtain ⟨L', ⟨nn, D, hD, hC, hI'⟩, hV⟩ := hS
  have hn : ∀ k, vb.ownBlock = some k → ¬ Inn g bm L k := fun k e hk => by have := (World.ownsRow.lt ho k e).1; have := hI k hk; omega
  refine ⟨⟨nn, D, L', hD, hV, fun k hk e => ?_⟩, (chg_own ho hC hn).base hB1, below_then hB (hC.toBelow hIB (by omega))⟩
  rcases hI' k hk with h1 | h1
  · exact hn k e h1
  · have := (World.ownsRow.lt ho k e).2; omega
/-- Bytes that may be written through, whatever they are. -/
def WrB (w : World) (B : Nat) (p : Option Addr) (n : Nat) : Prop := n = 0 ∨ ∃ gb, p = some ⟨gb, 0, none⟩ ∧ B ≤ gb ∧ gb < w.heap.size ∧ Wr8 w gb n
theorem WrB.of {w : World} {B : Nat} {p : Option Addr} {n c : Nat} {L : List UInt8} (h : OwnB w B (.slice p n c) L) (hn : L.length = n) : WrB w B p n := by
  by_cases hl : L = []
  · left; rw [← hn, hl]; rfl
  · obtain ⟨gb, cap, hv, hb, hlt, hw⟩ := h.row hl
    simp only [Value.slice.injEq] at hv
    obtain ⟨rfl, -, -⟩ := hv
    exact .inr ⟨gb, rfl, hb, hlt, by rw [← hn]; exact hw⟩
theorem WrB.set {w : World} {B : Nat} {p : Option Addr} {n b : Nat} (h : WrB w B p n) (j : Nat) (c : UInt8) : WrB (w.setCell ⟨b, j, none⟩ (byteV c)) B p n := by
  rcases h with h | ⟨gb, h1, h2, h3, h4⟩
  · exact .inl h
  · exact .inr ⟨gb, h1, h2, by simpa using h3, h4.set b j c⟩
theorem actO_0 (V : View) (q fu : Int) (off : Bool) (nm ot : Nm) (b : List UInt8) (n : Int) (P : List Nat) : actO V q fu off ⟨0, nm, ot, b, n, P⟩ = ofOut q (offV V fu off (runV V fu (createC V nm) (putV V (nm, [], 0)))) := by simp [actO]
theorem actO_1 (V : View) (q fu : Int) (off : Bool) (nm ot : Nm) (b : List UInt8) (n : Int) (P : List Nat) : actO V q fu off ⟨1, nm, ot, b, n, P⟩ = ofOut q (offV V fu off (runV V fu (appendC V nm b.length q) (setV V nm ((fileOf V nm).1 ++ b) (fileOf V nm).2))) := by simp [actO]
theorem actO_2 (V : View) (q fu : Int) (off : Bool) (nm ot : Nm) (b : List UInt8) (n : Int) (P : List Nat) : actO V q fu off ⟨2, nm, ot, b, n, P⟩ = ofOut q (offV V fu off (runV V fu (lackC V nm) (setV V nm (fileOf V nm).1 (fileOf V nm).1.length))) := by simp [actO]
theorem actO_3 (V : View) (q fu : Int) (off : Bool) (nm ot : Nm) (b : List UInt8) (n : Int) (P : List Nat) : actO V q fu off ⟨3, nm, ot, b, n, P⟩ = ofOut q (offV V fu off (runV V fu (renameC V nm ot) (putV (delV V nm) (ot, fileOf V nm)))) := by simp [actO]
theorem actO_4 (V : View) (q fu : Int) (off : Bool) (nm ot : Nm) (b : List UInt8) (n : Int) (P : List Nat) : actO V q fu off ⟨4, nm, ot, b, n, P⟩ = ofOut q (offV V fu off (runV V fu (truncC V nm n) (setV V nm ((fileOf V nm).1.take n.toNat) (min (fileOf V nm).2 n.toNat)))) := by simp [actO]
theorem actO_5 (V : View) (q fu : Int) (off : Bool) (nm ot : Nm) (b : List UInt8) (n : Int) (P : List Nat) : actO V q fu off ⟨5, nm, ot, b, n, P⟩ = ofOut q (offV V fu off (runV V fu (lackC V nm) (delV V nm))) := by simp [actO]
theorem actO_6 (V : View) (q fu : Int) (off : Bool) (nm ot : Nm) (b : List UInt8) (n : Int) (P : List Nat) : actO V q fu off ⟨6, nm, ot, b, n, P⟩ = ⟨if okQ n then 0 else 1, V, if okQ n then n else q, fu, off⟩ := by simp [actO]
theorem actO_7 (V : View) (q fu : Int) (off : Bool) (nm ot : Nm) (b : List UInt8) (n : Int) (P : List Nat) : actO V q fu off ⟨7, nm, ot, b, n, P⟩ = ⟨fuseC n off, V, q, if fuseC n off = 0 then n else fu, off⟩ := by simp [actO]
theorem actO_8 (V : View) (q fu : Int) (off : Bool) (nm ot : Nm) (b : List UInt8) (n : Int) (P : List Nat) : actO V q fu off ⟨8, nm, ot, b, n, P⟩ = ⟨0, crashS P b (unsV V) (unsV V).length V, q, -1, false⟩ := by simp [actO]
theorem actO_else {V : View} {q fu : Int} {off : Bool} {what : Int} {nm ot : Nm} {b : List UInt8} {n : Int} {P : List Nat} (h : ∀ k : Nat, k ≤ 8 → what ≠ (k : Int)) : actO V q fu off ⟨what, nm, ot, b, n, P⟩ = ⟨0, V, q, fu, off⟩ := by
  have h0 := h 0 (by omega)
  have h1 := h 1 (by omega)
  have h2 := h 2 (by omega)
  have h3 := h 3 (by omega)
  have h4 := h 4 (by omega)
  have h5 := h 5 (by omega)
  have h6 := h 6 (by omega)
  have h7 := h 7 (by omega)
  have h8 := h 8 (by omega)
  simp at h0 h1 h2 h3 h4 h5 h6 h7 h8
  unfold actO
  rw [if_neg h0, if_neg h1, if_neg h2, if_neg h3, if_neg h4, if_neg h5, if_neg h6, if_neg h7, if_neg h8]
/-- What `do` leaves. -/
def DoR (W0 : World) (B g bm t : Nat) (o : AOut) (e : Ending) (w' : World) : Prop := e = .returned (.int .i64 o.c) ∧ DkAt B g bm t o.V o.q o.fu o.off w' ∧ Below B W0 w'
theorem idx_b10 (p : Option Addr) (b o n cap k : Nat) (hp : p = some ⟨b, o, none⟩) (hk : k < n) (W : World) : (Instr.indexAt 25 (.slice p n cap) (.int .i64 (k : Int))).run Tryz.prog W = .ok (.pointer (some ⟨b, o + k, none⟩)) W := by subst hp; go_simp
end Go.Proofs.YtmbfhmjcphoddaaGreatDoor.Gm
set_option linter.unusedSimpArgs false
set_option linter.unusedVariables false
namespace Go.Proofs.YtmbfhmjcphoddaaGreatDoor.Gm
open Go Go.RowKit Go.Maps
attribute [local go_sem ↓] Go.wp_at_zero Go.wp_at_succ

theorem le_sum_mem10 : ∀ {l : List Nat} {x : Nat}, x ∈ l → x ≤ l.sum
  | y :: l, x, h => by
    rcases List.mem_cons.1 h with rfl | h
    · simp
    · have := le_sum_mem10 h; simp; omega
theorem file_le (V : View) (n : Nm) : (fileOf V n).1.length ≤ totV V := by
  unfold fileOf pickV
  cases h : V.find? fun e => decide (e.1 = n) with
  | none => simp
  | some e =>
    have hm := List.mem_of_find?_eq_some h
    simp only [Option.map_some, Option.getD_some]
    exact le_sum_mem10 (List.mem_map.2 ⟨e, hm, rfl⟩)
theorem read_le (V : View) (n : Nm) (off : Bool) : (readB V n off).length ≤ totV V := by
  unfold readB
  split
  · exact file_le V n
  · simp
/-- What shape tells of one file; of all. -/
def pieceS (V : View) (off : Bool) (x : Nm) : ByteArray := (⟨x.toArray⟩ : ByteArray) ++ ⟨#[0]⟩ ++ ⟨(readB V x off).toArray⟩ ++ ⟨#[0]⟩ ++ Utf8.encode (IntKind.i32.wrap (looseV V x off : Nat)) ++ ⟨#[0]⟩
def shapeK (V : View) (off : Bool) (l : List Nm) : ByteArray := l.foldl (fun s x => s ++ pieceS V off x) ⟨#[]⟩
def shapeS (V : View) (off : Bool) : ByteArray := shapeK V off (namesV V off)
theorem shapeK_snoc (V : View) (off : Bool) (l : List Nm) (x : Nm) : shapeK V off (l ++ [x]) = shapeK V off l ++ pieceS V off x := by unfold shapeK; rw [List.foldl_append]; rfl
theorem DkAt.facts {B g bm t : Nat} {V : View} {q fu : Int} {off : Bool} {w : World} (h : DkAt B g bm t V q fu off w) : V.length ≤ 512 ∧ totV V ≤ 4194304 ∧ (∀ x ∈ V.map (·.1), x.length ≤ 32) ∧ (∀ e ∈ V, e.2.2 ≤ e.2.1.length) ∧ V.Pairwise (fun a b => a.1 < b.1) ∧ (0 ≤ q ∧ q ≤ 4194304) ∧ -1 ≤ fu ∧ (∀ e ∈ V, mayNm e.1 = true) := by
  obtain ⟨nn, D, L, hD, rfl⟩ := h
  refine ⟨by rw [len_view]; exact hD.len, by rw [tot_view]; exact hD.tot, fun x hx => ?_, fun e he => ?_, ?_, hD.qb, hD.fb.1, fun e he => ?_⟩
  · rw [view_names] at hx
    obtain ⟨e, he, rfl⟩ := List.mem_map.1 hx
    have := hD.may e he
    unfold mayNm at this
    simp only [Bool.and_eq_true, decide_eq_true_eq] at this
    exact this.2
  · unfold view at he
    obtain ⟨y, hy, rfl⟩ := List.mem_map.1 he
    exact hD.syn y hy
  · unfold view
    rw [List.pairwise_map]
    exact hD.nms
  · unfold view at he
    obtain ⟨y, hy, rfl⟩ := List.mem_map.1 he
    exact hD.may y hy
theorem namesV_in {V : View} {off : Bool} {x : Nm} (h : x ∈ namesV V off) : x ∈ V.map (·.1) := by
  unfold namesV at h
  cases off
  · exact h
  · cases h
theorem namesV_len (V : View) (off : Bool) : (namesV V off).length ≤ V.length := by
  unfold namesV
  cases off
  · simp
  · simp
end Go.Proofs.YtmbfhmjcphoddaaGreatDoor.Gm
set_option linter.unusedSimpArgs false
set_option linter.unusedVariables false
namespace Go.Proofs.YtmbfhmjcphoddaaGreatDoor.Gm
open Go Go.RowKit Go.Maps

/-- An entry behind a crash that has come to the first k of the names U. -/
def crE (P : List Nat) (T : List UInt8) (U : List Nm) (k : Nat) (e : Nm × List UInt8 × Nat) : Nm × List UInt8 × Nat :=
  if e.1 ∈ U.take k then (e.1, newB P T (U.idxOf e.1) e.2.1 e.2.2, (newB P T (U.idxOf e.1) e.2.1 e.2.2).length) else e
theorem crE_name (P : List Nat) (T : List UInt8) (U : List Nm) (k : Nat) (e : Nm × List UInt8 × Nat) : (crE P T U k e).1 = e.1 := by unfold crE; split <;> rfl
theorem crashS_map (P : List Nat) (T : List UInt8) (U : List Nm) (hU : U.Nodup) (V : View) : ∀ k, k ≤ U.length → crashS P T U k V = V.map (crE P T U k)
  | 0, _ => by
    have h : crE P T U 0 = id := by funext e; unfold crE; simp
    rw [h, List.map_id]; rfl
  | k + 1, hk => by
    show updV P T k (U.getD k []) (crashS P T U k V) = _
    rw [crashS_map P T U hU V k (by omega)]
    unfold updV
    rw [List.map_map]
    apply List.map_congr_left
    intro e _
    simp only [Function.comp, crE_name]
    have hn : U.getD k [] = U[k] := by rw [List.getD_eq_getElem?_getD, List.getElem?_eq_getElem (by omega)]; rfl
    rw [hn]
    by_cases h : e.1 = U[k]
    · have h1 : e.1 ∉ U.take k := by
        rw [h]
        intro hm
        obtain ⟨j, hj, e2⟩ := List.getElem_of_mem hm
        rw [List.getElem_take] at e2
        rw [List.length_take] at hj
        have := (List.getElem_inj hU).1 e2
        omega
      have h2 : e.1 ∈ U.take (k + 1) := by rw [List.take_succ_eq_append_getElem (by omega), h]; exact List.mem_append_right _ (List.mem_singleton.2 rfl)
      have h3 : U.idxOf e.1 = k := by rw [h]; exact List.Nodup.idxOf_getElem hU k (by omega)
      have h4 : crE P T U k e = e := by unfold crE; rw [if_neg h1]
      rw [if_pos h, h4]
      unfold crE
      rw [if_pos h2, h3]
    · rw [if_neg h]
      have h1 : e.1 ∈ U.take (k + 1) ↔ e.1 ∈ U.take k := by
        rw [List.take_succ_eq_append_getElem (by omega), List.mem_append, List.mem_singleton]
        exact ⟨fun x => x.resolve_right h, .inl⟩
      unfold crE
      by_cases h2 : e.1 ∈ U.take k
      · rw [if_pos h2, if_pos (h1.2 h2)]
      · rw [if_neg h2, if_neg (fun x => h2 (h1.1 x))]
theorem find_crE (P : List Nat) (T : List UInt8) (U : List Nm) (k : Nat) (V : View) (n : Nm) : (V.map (crE P T U k)).find? (fun e => decide (e.1 = n)) = (V.find? fun e => decide (e.1 = n)).map (crE P T U k) := by
  rw [List.find?_map]
  have h : ((fun e : Nm × List UInt8 × Nat => decide (e.1 = n)) ∘ crE P T U k) = fun e => decide (e.1 = n) := by funext e; simp [Function.comp, crE_name]
  rw [h]
/-- What a crash leaves of a view. -/
def crV (P : List Nat) (T : List UInt8) (V : View) : View := crashS P T (unsV V) (unsV V).length V
section
variable {V : View} (hs : ∀ e ∈ V, e.2.2 ≤ e.2.1.length) (hu : V.Pairwise fun a b => a.1 < b.1) (P : List Nat) (T : List UInt8)
include hu in
theorem view_nodup : (V.map (·.1)).Nodup := by
  unfold List.Nodup
  rw [List.pairwise_map]
  exact hu.imp fun h e => by rw [e] at h; exact absurd h (List.lt_irrefl _)
include hu in
theorem uns_nodup : (unsV V).Nodup := by
  unfold unsV
  exact List.Nodup.sublist (List.Sublist.map _ List.filter_sublist) (view_nodup hu)
include hu in
theorem crV_map : crV P T V = V.map (crE P T (unsV V) (unsV V).length) := crashS_map P T _ (uns_nodup hu) V _ (Nat.le_refl _)
theorem crV_names : (crV P T V).map (·.1) = V.map (·.1) := crashS_names _ _ _ _ _
include hu in
/-- A name among those with loose bytes tells its own entry. -/
theorem uns_iff {e : Nm × List UInt8 × Nat} (he : e ∈ V) : e.1 ∈ unsV V ↔ ¬ (e.2.1.length - e.2.2 = 0) := by
  unfold unsV
  constructor
  · intro h
    obtain ⟨x, hx, e1⟩ := List.mem_map.1 h
    obtain ⟨h1, h2⟩ := List.mem_filter.1 hx
    have hxe : x = e := by
      obtain ⟨i, hi, rfl⟩ := List.getElem_of_mem h1
      obtain ⟨j, hj, rfl⟩ := List.getElem_of_mem he
      have hn := view_nodup hu
      have : i = j := by
        apply (List.getElem_inj (h₀ := by simpa using hi) (h₁ := by simpa using hj) hn).1
        rw [List.getElem_map, List.getElem_map]
        exact e1
      subst this; rfl
    rw [← hxe]
    simpa using h2
  · intro h
    exact List.mem_map.2 ⟨e, List.mem_filter.2 ⟨he, by simpa using h⟩, rfl⟩
include hs hu in
theorem crV_synced : unsV (crV P T V) = [] := by
  rw [crV_map hu]
  unfold unsV
  rw [List.map_eq_nil_iff, List.filter_eq_nil_iff]
  intro x hx
  obtain ⟨e, he, rfl⟩ := List.mem_map.1 hx
  have h0 := hs e he
  have hm := uns_iff hu he
  unfold crE
  rw [show List.take (List.map (fun x => x.1) (List.filter (fun e => !decide (e.2.1.length - e.2.2 = 0)) V)).length (List.map (fun x => x.1) (List.filter (fun e => !decide (e.2.1.length - e.2.2 = 0)) V)) = unsV V from List.take_length]
  by_cases h : e.1 ∈ unsV V
  · rw [if_pos h]; simp
  · rw [if_neg h]
    have := mt hm.2 h
    simp only [Classical.not_not] at this
    simp [this]
theorem set_take8 {l : List UInt8} {m j : Nat} {c : UInt8} (h : m ≤ j) : (l.set j c).take m = l.take m := List.take_set_of_le h
include hs hu in
/-- What a crash leaves of a file: all that was synced, and behind that a beginning of what was loose, of which at most the last byte is another. -/
theorem crV_file (n : Nm) : (fileOf (crV P T V) n).2 = (fileOf (crV P T V) n).1.length ∧ (fileOf V n).2 ≤ (fileOf V n).1.length ∧ (fileOf V n).2 ≤ (fileOf (crV P T V) n).1.length ∧ (fileOf (crV P T V) n).1.length ≤ (fileOf V n).1.length ∧ (fileOf (crV P T V) n).1.take (fileOf V n).2 = (fileOf V n).1.take (fileOf V n).2 ∧ ((fileOf V n).2 < (fileOf (crV P T V) n).1.length → (fileOf (crV P T V) n).1.take ((fileOf (crV P T V) n).1.length - 1) = (fileOf V n).1.take ((fileOf (crV P T V) n).1.length - 1)) := by
  unfold fileOf pickV
  rw [crV_map hu, find_crE]
  cases hf : V.find? (fun e => decide (e.1 = n)) with
  | none => simp
  | some e =>
    have he : e ∈ V := List.mem_of_find?_eq_some hf
    have h0 := hs e he
    have hm := uns_iff hu he
    simp only [Option.map_some, Option.getD_some]
    unfold crE
    rw [List.take_length]
    by_cases h : e.1 ∈ unsV V
    · rw [if_pos h]
      simp only
      generalize (unsV V).idxOf e.1 = k
      have hl := newB_length P T k h0
      have hst := stay_le P k h0
      refine ⟨trivial, h0, by omega, by omega, ?_, fun hlt => ?_⟩
      · unfold newB
        split
        · rename_i hc
          rw [set_take8 (by omega), List.take_take, Nat.min_eq_left (by omega)]
        · rw [List.take_take, Nat.min_eq_left (by omega)]
      · rw [hl] at hlt ⊢
        unfold newB
        split
        · rw [set_take8 (Nat.le_refl _), List.take_take, Nat.min_eq_left (by omega)]
        · rw [List.take_take, Nat.min_eq_left (by omega)]
    · rw [if_neg h]
      have h1 := mt hm.2 h
      simp only [Classical.not_not] at h1
      exact ⟨by omega, h0, h0, Nat.le_refl _, rfl, fun _ => rfl⟩
include hs hu in
theorem crV_twice (P2 : List Nat) (T2 : List UInt8) : crV P2 T2 (crV P T V) = crV P T V := by
  unfold crV
  have h := crV_synced hs hu P T
  unfold crV at h
  rw [h]
  rfl
theorem lack_in (hm : ∀ e ∈ V, mayNm e.1 = true) {n : Nm} (hn : n ∈ V.map (·.1)) : lackC V n = 0 := by
  obtain ⟨e, he, rfl⟩ := List.mem_map.1 hn
  unfold lackC
  rw [hm e he, if_neg (by simp)]
  have : (pickV V e.1).isSome = true := by
    unfold pickV
    rw [Option.isSome_map, List.find?_isSome]
    exact ⟨e, he, by simp⟩
  rw [this, if_neg (by simp)]
theorem read_in (hm : ∀ e ∈ V, mayNm e.1 = true) {n : Nm} (hn : n ∈ V.map (·.1)) : readC V n false = 0 ∧ readB V n false = (fileOf V n).1 := by
  have h : readC V n false = 0 := by unfold readC; rw [if_neg (by simp)]; exact lack_in hm hn
  exact ⟨h, by unfold readB; rw [if_pos h]⟩
end
end Go.Proofs.YtmbfhmjcphoddaaGreatDoor.Gm
