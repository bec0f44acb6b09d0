/- Layer 10: the calls, told of a disk's plain view: names, bytes, how many of them are synced. -/
import Derived.Test.YtnhdnmlclnndoaaDkz
import Derived.Test.YtnhdnmlclnndoaaDkza
set_option linter.unusedSimpArgs false
set_option linter.unusedVariables false
namespace Go.Proofs.Ytnhdnmlclnndoaa.Gm
open Go Go.RowKit Go.Maps

def pickV (V : View) (n : Nm) : Option (List UInt8 × Nat) := (V.find? fun e => decide (e.1 = n)).map (·.2)
def fileOf (V : View) (n : Nm) : List UInt8 × Nat := (pickV V n).getD ([], 0)
def totV (V : View) : Nat := (V.map fun e => e.2.1.length).sum
def putV (V : View) (e : Nm × List UInt8 × Nat) : View := (V.filter fun a => decide (a.1 < e.1)) ++ e :: V.filter fun a => decide (e.1 < a.1)
def delV (V : View) (n : Nm) : View := V.filter fun a => !decide (a.1 = n)
def setV (V : View) (n : Nm) (b : List UInt8) (s : Nat) : View := V.map fun a => if a.1 = n then (n, b, s) else a
theorem pick_view (L : List Ent) (n : Nm) : pickV (view L) n = (pickE L n).map fun x => (x.b, x.s) := by
  unfold pickV pickE view
  rw [List.find?_map, Option.map_map, Option.map_map]
  rfl
theorem some_view (L : List Ent) (n : Nm) : (pickV (view L) n).isSome = (pickE L n).isSome := by rw [pick_view, Option.isSome_map]
theorem file_view {L : List Ent} (hu : L.Pairwise fun a b => a.1 ≠ b.1) {n : Nm} {x : Fl} (h : (n, x) ∈ L) : fileOf (view L) n = (x.b, x.s) := by
  unfold fileOf; rw [pick_view, pick_of hu h]; rfl
theorem tot_view (L : List Ent) : totV (view L) = totE L := by unfold totV totE view; rw [List.map_map]; rfl
theorem len_view (L : List Ent) : (view L).length = L.length := List.length_map _
theorem put_view (L : List Ent) (e : Ent) : view (putE L e) = putV (view L) (e.1, e.2.b, e.2.s) := by
  unfold view putE putV
  rw [List.map_append, List.map_cons, List.filter_map, List.filter_map]
  rfl
theorem del_view (L : List Ent) (n : Nm) : view (delE L n) = delV (view L) n := by
  unfold view delE delV
  rw [List.filter_map]
  rfl
theorem upd_view (L : List Ent) (n : Nm) (x : Fl) : view (updE L n x) = setV (view L) n x.b x.s := by
  unfold view updE setV
  rw [List.map_map, List.map_map]
  apply List.map_congr_left
  intro e _
  simp only [Function.comp]
  split <;> rfl
/-- The codes. -/
def lackC (V : View) (n : Nm) : Int := if mayNm n = false then 1 else if (pickV V n).isSome = false then 6 else 0
def createC (V : View) (n : Nm) : Int := if mayNm n = false then 1 else if (pickV V n).isSome = true then 9 else if 512 ≤ V.length then 7 else 0
def appendC (V : View) (n : Nm) (len : Nat) (q : Int) : Int := if mayNm n = false then 1 else if (pickV V n).isSome = false then 6 else if q < (totV V + len : Nat) then 7 else 0
def renameC (V : View) (n m : Nm) : Int := if mayNm n = false ∨ mayNm m = false then 1 else if (pickV V n).isSome = false then 6 else 0
def truncC (V : View) (n : Nm) (z : Int) : Int := if mayNm n = false ∨ z < 0 ∨ ((fileOf V n).1.length : Int) < z ∧ (pickV V n).isSome = true then 1 else if (pickV V n).isSome = false then 6 else 0
theorem lackC_view (L : List Ent) (n : Nm) : firstE (lackB L n) = lackC (view L) n := by
  unfold firstE lackB lackC
  rw [some_view]
  cases mayNm n <;> cases (pickE L n).isSome <;> simp
theorem createC_view (L : List Ent) (n : Nm) : firstE (createB L n) = createC (view L) n := by
  unfold firstE createB createC
  rw [some_view, len_view]
  by_cases h : 512 ≤ L.length <;> cases mayNm n <;> cases (pickE L n).isSome <;> simp [h]
theorem appendC_view (L : List Ent) (n : Nm) (len : Nat) (q : Int) : firstE (appendB L n len q) = appendC (view L) n len q := by
  unfold firstE appendB lackB appendC
  rw [some_view, tot_view]
  by_cases h : q < (totE L + len : Nat) <;> cases mayNm n <;> cases (pickE L n).isSome <;> simp [h] <;> omega
theorem renameC_view (L : List Ent) (n m : Nm) : firstE (renameB L n m) = renameC (view L) n m := by
  unfold firstE renameB lackB renameC
  rw [some_view]
  cases mayNm n <;> cases mayNm m <;> cases (pickE L n).isSome <;> simp
theorem truncC_view (L : List Ent) (n : Nm) (z : Int) : firstE (truncB L n z) = truncC (view L) n z := by
  unfold firstE truncB lackB truncC overE fileOf
  rw [some_view, pick_view]
  cases hp : pickE L n with
  | none => by_cases h : z < 0 <;> cases mayNm n <;> simp [h]
  | some x => by_cases h : z < 0 <;> by_cases h2 : (x.b.length : Int) < z <;> cases mayNm n <;> simp [h, h2]
/-- What a call answers and leaves. -/
structure Out where
  c : Int
  V : View
  fu : Int
  off : Bool
def runV (V : View) (fu : Int) (c0 : Int) (V' : View) : Out := if c0 = 0 then (if fu = 0 then ⟨8, V, -1, true⟩ else ⟨0, V', fuseN fu, false⟩) else ⟨c0, V, fu, false⟩
/-- A disk that has become another one. -/
def StepV (B g bm t : Nat) (L : List Ent) (V' : View) (q fu : Int) (off : Bool) (w w' : World) : Prop := ∃ L', StepD B g bm t L L' q fu off w w' ∧ view L' = V'
def OutQ (B g bm t : Nat) (L : List Ent) (q : Int) (o : Out) (w : World) (e : Ending) (w' : World) : Prop := e = .returned (.int .i64 o.c) ∧ StepV B g bm t L o.V q o.fu o.off w w'
section
variable {B g bm t nn : Nat} {w w' : World} {D : DataW Value} {L : List Ent} {q fu : Int} {off : Bool}
theorem Dsk.stay (h : Dsk B g bm t nn w D L q fu off) (hb : Below w.heap.size w w') : StepV B g bm t L (view L) q fu off w w' :=
  ⟨L, ⟨nn, D, (h.later hb).up (by omega), Chg.below hb, fun k hk => .inl hk⟩, rfl⟩
theorem out_of {c0 : Int} {R : List Ent → Prop} {V' : View} (h : Dsk B g bm t nn w D L q fu false) (hR : ∀ L', R L' → view L' = V') {e : Ending} (hq : AnsQ (MutQ B g bm t L q fu c0 R w) e w') : OutQ B g bm t L q (runV (view L) fu c0 V') w e w' := by
  obtain ⟨c, rfl, hq⟩ := hq
  unfold runV
  rcases hq with ⟨h1, rfl, h3⟩ | ⟨h1, h2, rfl, h4⟩ | ⟨h1, h2, rfl, L', h4, h5⟩
  · rw [if_neg h1]
    exact ⟨rfl, h.stay h3⟩
  · rw [if_pos h1, if_pos h2]
    exact ⟨rfl, L, h4, rfl⟩
  · rw [if_pos h1, if_neg h2]
    exact ⟨rfl, L', h5, hR L' h4⟩
theorem bad_out {c0 : Int} (h : Dsk B g bm t nn w D L q fu off) {e : Ending} (hq : AnsQ (BadQ c0 w) e w') : OutQ B g bm t L q ⟨c0, view L, fu, off⟩ w e w' := by
  obtain ⟨c, rfl, rfl, hb⟩ := hq
  exact ⟨rfl, h.stay hb⟩
/-- With the power off, nothing is done. -/
def offV (V : View) (fu : Int) (off : Bool) (o : Out) : Out := if off then ⟨8, V, fu, true⟩ else o
theorem Sync_v (h : Dsk B g bm t nn w D L q fu off) (ht : t < 1099511627776) (n : Nm) (hn : n.length ≤ 140737488351232) :
    Calls Try.prog 29 #[.pointer (some ⟨g, 0, none⟩), encStr n] w (OutQ B g bm t L q (offV (view L) fu off (runV (view L) fu (lackC (view L) n) (setV (view L) n (fileOf (view L) n).1 (fileOf (view L) n).1.length))) w) := by
  cases off with
  | true => exact (Sync_off h n).mono fun e w' hq => bad_out h hq
  | false =>
    rw [← lackC_view]
    exact (Sync_on h ht n hn).mono fun e w' hq => out_of h (fun L' ⟨x, hx, e⟩ => by rw [e, upd_view, file_view h.uniq hx]) hq
theorem Remove_v (h : Dsk B g bm t nn w D L q fu off) (ht : t < 1099511627776) (n : Nm) (hn : n.length ≤ 140737488351232) :
    Calls Try.prog 34 #[.pointer (some ⟨g, 0, none⟩), encStr n] w (OutQ B g bm t L q (offV (view L) fu off (runV (view L) fu (lackC (view L) n) (delV (view L) n))) w) := by
  cases off with
  | true => exact (Remove_off h n).mono fun e w' hq => bad_out h hq
  | false =>
    rw [← lackC_view]
    exact (Remove_on h ht n hn).mono fun e w' hq => out_of h (fun L' ⟨x, hx, e⟩ => by rw [e, del_view]) hq
theorem Create_v (h : Dsk B g bm t nn w D L q fu off) (ht : t < 1099511627776) (n : Nm) (hn : n.length ≤ 140737488351232) :
    Calls Try.prog 27 #[.pointer (some ⟨g, 0, none⟩), encStr n] w (OutQ B g bm t L q (offV (view L) fu off (runV (view L) fu (createC (view L) n) (putV (view L) (n, [], 0)))) w) := by
  cases off with
  | true => exact (Create_off h n).mono fun e w' hq => bad_out h hq
  | false =>
    rw [← createC_view]
    exact (Create_on h ht n hn).mono fun e w' hq => out_of h (fun L' ⟨_, _, _, f, e⟩ => by rw [e, put_view]) hq
theorem Append_v (h : Dsk B g bm t nn w D L q fu off) (ht : t < 1099511627776) (n : Nm) (hn : n.length ≤ 140737488351232) (p : Option Addr) (cc : Nat) (bs : List UInt8) (hlen : bs.length ≤ 140737488351232) (hBs : Bs w (.slice p bs.length cc) bs) :
    Calls Try.prog 28 #[.pointer (some ⟨g, 0, none⟩), encStr n, .slice p bs.length cc] w (OutQ B g bm t L q (offV (view L) fu off (runV (view L) fu (appendC (view L) n bs.length q) (setV (view L) n ((fileOf (view L) n).1 ++ bs) (fileOf (view L) n).2))) w) := by
  cases off with
  | true => exact (Append_off h n p bs.length cc).mono fun e w' hq => bad_out h hq
  | false =>
    rw [← appendC_view]
    exact (Append_on h ht n hn p cc bs hlen hBs).mono fun e w' hq => out_of h (fun L' ⟨x, _, _, hx, _, e⟩ => by rw [e, upd_view, file_view h.uniq hx]) hq
theorem Rename_v (h : Dsk B g bm t nn w D L q fu off) (ht : t < 1099511627776) (n : Nm) (hn : n.length ≤ 140737488351232) (m : Nm) (hm : m.length ≤ 140737488351232) :
    Calls Try.prog 32 #[.pointer (some ⟨g, 0, none⟩), encStr n, encStr m] w (OutQ B g bm t L q (offV (view L) fu off (runV (view L) fu (renameC (view L) n m) (putV (delV (view L) n) (m, fileOf (view L) n)))) w) := by
  cases off with
  | true => exact (Rename_off h n m).mono fun e w' hq => bad_out h hq
  | false =>
    rw [← renameC_view]
    exact (Rename_on h ht n hn m hm).mono fun e w' hq => out_of h (fun L' ⟨x, hx, _, e⟩ => by rw [e, put_view, del_view, file_view h.uniq hx]) hq
theorem Truncate_v (h : Dsk B g bm t nn w D L q fu off) (ht : t < 1099511627776) (n : Nm) (hn : n.length ≤ 140737488351232) (z : Int) :
    Calls Try.prog 33 #[.pointer (some ⟨g, 0, none⟩), encStr n, .int .i64 z] w (OutQ B g bm t L q (offV (view L) fu off (runV (view L) fu (truncC (view L) n z) (setV (view L) n ((fileOf (view L) n).1.take z.toNat) (min (fileOf (view L) n).2 z.toNat)))) w) := by
  cases off with
  | true => exact (Truncate_off h n z).mono fun e w' hq => bad_out h hq
  | false =>
    rw [← truncC_view]
    exact (Truncate_on h ht n hn z).mono fun e w' hq => out_of h (fun L' ⟨x, _, _, k, hx, hz, _, e⟩ => by rw [e, upd_view, file_view h.uniq hx, hz]; rfl) hq
end
end Go.Proofs.Ytnhdnmlclnndoaa.Gm
