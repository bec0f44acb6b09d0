/- Layer 10: the other calls, told of a disk's plain view. -/
import Derived.Test.YtnhdnmlclnndoaaDkzb
set_option linter.unusedSimpArgs false
set_option linter.unusedVariables false
namespace Go.Proofs.Ytnhdnmlclnndoaa.Gm
open Go Go.RowKit Go.Maps
def readC (V : View) (n : Nm) (off : Bool) : Int := if off then 8 else lackC V n
def readB (V : View) (n : Nm) (off : Bool) : List UInt8 := if readC V n off = 0 then (fileOf V n).1 else []
def looseV (V : View) (n : Nm) (off : Bool) : Nat := if off then 0 else (fileOf V n).1.length - (fileOf V n).2
def namesV (V : View) (off : Bool) : List Nm := if off then [] else V.map (·.1)
def usedV (V : View) (off : Bool) : Nat := if off then 0 else totV V
def unsV (V : View) : List Nm := (V.filter fun e => !decide (e.2.1.length - e.2.2 = 0)).map (·.1)
def okQ (z : Int) : Prop := 0 ≤ z ∧ z ≤ 4194304
instance (z : Int) : Decidable (okQ z) := by unfold okQ; infer_instance
theorem uns_view {L : List Ent} (hu : L.Pairwise fun a b => a.1 ≠ b.1) : unsE L = unsV (view L) := by
  unfold unsE unsV view keptS
  rw [List.filter_map, List.filter_map, List.map_map]
  have : L.filter ((fun o => !restE L o) ∘ fun x => x.1) = L.filter ((fun e : Nm × List UInt8 × Nat => !decide (e.2.1.length - e.2.2 = 0)) ∘ fun e : Ent => (e.1, e.2.b, e.2.s)) := by
    apply List.filter_congr
    intro e he
    have hp := pick_of hu (n := e.1) (x := e.2) he
    simp only [Function.comp]
    unfold restE looseE
    rw [hp]
  rw [this]
  rfl
theorem pick_off {L : List Ent} (hu : L.Pairwise fun a b => a.1 ≠ b.1) {n : Nm} (h : lackC (view L) n = 0) : ∃ x, (n, x) ∈ L := by
  rw [← lackC_view] at h
  exact (lack_there h).2
/-- What a call that reads bytes leaves. -/
def ReadV (b : List UInt8) (c : Int) (w : World) (e : Ending) (w' : World) : Prop := ∃ v, e = .returned (.tuple #[v, .int .i64 c]) ∧ OwnB w' w.heap.size v b ∧ Below w.heap.size w w'
def NamesV (l : List Nm) (w : World) (e : Ending) (w' : World) : Prop := ∃ v, e = .returned v ∧ OwnS w' w.heap.size v l ∧ Below w.heap.size w w'
section
variable {B g bm t nn : Nat} {w w' : World} {D : DataW Value} {L : List Ent} {q fu : Int} {off : Bool}
theorem askIs_v (h : Dsk B g bm t nn w D L q fu off) (n : Nm) (hn : n.length ≤ 140737488351232) : AskIs (some ⟨g, 0, none⟩) n (readC (view L) n off) w := by
  unfold readC
  cases off with
  | true => exact askIs_off h n
  | false => simp only [Bool.false_eq_true, if_false]; rw [← lackC_view]; exact askIs_on h n hn
theorem Read_v (h : Dsk B g bm t nn w D L q fu off) (n : Nm) (hn : n.length ≤ 140737488351232) : Calls Try.prog 12 #[.pointer (some ⟨g, 0, none⟩), encStr n] w (ReadV (readB (view L) n off) (readC (view L) n off) w) := by
  unfold readB
  by_cases hc : readC (view L) n off = 0
  · rw [if_pos hc, hc]
    have ho : off = false := by cases off with
      | true => unfold readC at hc; simp at hc
      | false => rfl
    subst ho
    unfold readC at hc
    simp only [Bool.false_eq_true, if_false] at hc
    obtain ⟨x, hx⟩ := pick_off h.uniq hc
    rw [file_view h.uniq hx]
    exact Read_good h n hn x hx
  · rw [if_neg hc]
    exact (Read_bad _ n _ hc w (askIs_v h n hn)).mono fun e w' ⟨he, hb⟩ => ⟨_, he, OwnB.nil _ _, hb⟩
theorem Size_v (h : Dsk B g bm t nn w D L q fu off) (n : Nm) (hn : n.length ≤ 140737488351232) : Calls Try.prog 14 #[.pointer (some ⟨g, 0, none⟩), encStr n] w (Gives (.tuple #[.int .i64 ((readB (view L) n off).length : Nat), .int .i64 (readC (view L) n off)]) w) := by
  unfold readB
  by_cases hc : readC (view L) n off = 0
  · rw [if_pos hc, hc]
    have ho : off = false := by cases off with
      | true => unfold readC at hc; simp at hc
      | false => rfl
    subst ho
    unfold readC at hc
    simp only [Bool.false_eq_true, if_false] at hc
    obtain ⟨x, hx⟩ := pick_off h.uniq hc
    rw [file_view h.uniq hx]
    exact Size_good h n hn x hx
  · rw [if_neg hc]
    exact Size_bad _ n _ hc w (askIs_v h n hn)
theorem Loose_v (h : Dsk B g bm t nn w D L q fu off) (n : Nm) (hn : n.length ≤ 140737488351232) : Calls Try.prog 15 #[.pointer (some ⟨g, 0, none⟩), encStr n] w (Gives (.int .i64 (looseV (view L) n off : Nat)) w) := by
  unfold looseV
  cases off with
  | true => exact Loose_off h _
  | false =>
    have : looseE L n = (fileOf (view L) n).1.length - (fileOf (view L) n).2 := by
      unfold looseE fileOf
      rw [pick_view]
      cases pickE L n <;> rfl
    simp only [Bool.false_eq_true, if_false]
    rw [← this]
    exact Loose_on h n hn
theorem Names_v (h : Dsk B g bm t nn w D L q fu off) : Calls Try.prog 19 #[.pointer (some ⟨g, 0, none⟩)] w (NamesV (namesV (view L) off) w) := by
  unfold namesV
  cases off with
  | true => exact (Names_off h).mono fun e w' ⟨he, hb⟩ => ⟨_, he, World.ownsRow_nil _ _ _ _, hb⟩
  | false => simp only [Bool.false_eq_true, if_false]; rw [view_names]; exact Names_on h
theorem Used_v (h : Dsk B g bm t nn w D L q fu off) : Calls Try.prog 46 #[.pointer (some ⟨g, 0, none⟩)] w (Gives (.int .i64 (usedV (view L) off : Nat)) w) := by
  unfold usedV
  cases off with
  | true => exact Used_off h
  | false => simp only [Bool.false_eq_true, if_false]; rw [tot_view]; exact Used_on h
theorem Off_v (h : Dsk B g bm t nn w D L q fu off) : Calls Try.prog 26 #[.pointer (some ⟨g, 0, none⟩)] w (Gives (.bool off) w) := Off_yes g bm q fu off w h.blk
theorem Dsk.turned (h : Dsk B g bm t nn w D L q fu off) (hO : Only [g] w w') {q' fu' : Int} {off' : Bool} (hb : Blk w' g 65 #[.map (some bm), .int .i64 q', .int .i64 fu', .bool off']) (hq : 0 ≤ q' ∧ q' ≤ 4194304) (hf : -1 ≤ fu' ∧ fu' ≤ 9223372036854775807) : StepV B g bm t L (view L) q' fu' off' w w' :=
  ⟨L, ⟨nn, D, (h.turn hO hb hq hf).up (by omega), Chg.only hO (fun k hk => .inl (List.mem_singleton.1 hk)), fun k hk => .inl hk⟩, rfl⟩
theorem Quota_v (h : Dsk B g bm t nn w D L q fu off) (z : Int) : Calls Try.prog 35 #[.pointer (some ⟨g, 0, none⟩), .int .i64 z] w (fun e w' => e = .returned (.int .i64 (if okQ z then 0 else 1)) ∧ StepV B g bm t L (view L) (if okQ z then z else q) fu off w w') := by
  refine (Quota_yes g bm q fu z off w h.blk).mono fun e w' hq => ?_
  rcases hq with ⟨h1, rfl, h3⟩ | ⟨h1, rfl, h3, h4⟩
  · have h1' : ¬ okQ z := h1
    rw [if_neg h1', if_neg h1']; exact ⟨rfl, h.stay h3⟩
  · rw [if_pos (show okQ z from h1), if_pos (show okQ z from h1)]; exact ⟨rfl, h.turned h3 h4 h1 h.fb⟩
def fuseC (z : Int) (off : Bool) : Int := if off then 8 else if z < -1 then 1 else 0
theorem Fuse_v (h : Dsk B g bm t nn w D L q fu off) (z : Int) (hz : z ≤ 9223372036854775807) : Calls Try.prog 24 #[.pointer (some ⟨g, 0, none⟩), .int .i64 z] w (fun e w' => e = .returned (.int .i64 (fuseC z off)) ∧ StepV B g bm t L (view L) q (if fuseC z off = 0 then z else fu) off w w') := by
  unfold fuseC
  cases off with
  | true => exact (Fuse_off h z).mono fun e w' ⟨he, hb⟩ => ⟨he, h.stay hb⟩
  | false =>
    refine (Fuse_on h z).mono fun e w' hq => ?_
    rcases hq with ⟨h1, rfl, h3⟩ | ⟨h1, rfl, h3, h4⟩
    · have e1 : (if (false : Bool) = true then (8 : Int) else if z < -1 then 1 else 0) = 1 := by rw [if_neg (by simp), if_pos h1]
      rw [e1, if_neg (by decide)]
      exact ⟨rfl, h.stay h3⟩
    · have e1 : (if (false : Bool) = true then (8 : Int) else if z < -1 then 1 else 0) = 0 := by rw [if_neg (by simp), if_neg h1]
      rw [e1, if_pos rfl]
      exact ⟨rfl, h.turned h3 h4 h.qb (by omega)⟩
theorem Crash_v (h : Dsk B g bm t nn w D L q fu off) (pv tv : Value) (P : List Nat) (T : List UInt8) (hF : Foreign (Inn g bm L) w pv tv P T) : Calls Try.prog 20 #[.pointer (some ⟨g, 0, none⟩), pv, tv] w (fun e w' => e = .returned (.int .i64 0) ∧ StepV B g bm t L (crashS P T (unsV (view L)) (unsV (view L)).length (view L)) q (-1) false w w') := by
  rw [← uns_view h.uniq]
  exact (Crash_yes h pv tv P T hF).mono fun e w' ⟨he, L', hD, hV, hI, hC⟩ => ⟨he, L', ⟨nn, D, hD.up (by omega), hC, hI⟩, hV⟩
end
end Go.Proofs.Ytnhdnmlclnndoaa.Gm
