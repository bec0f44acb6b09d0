/- Layer 10: a crash's round, at its end. -/
import Derived.Test.YtnhdnmlclnndoaaDky
set_option linter.unusedSimpArgs false
set_option linter.unusedVariables false
namespace Go.Proofs.Ytnhdnmlclnndoaa.Gm
open Go Go.RowKit Go.Maps
/-- Where a crash stands behind k of its names. -/
structure CrashAt (B g bm t nn : Nat) (D : DataW Value) (L : List Ent) (q fu : Int) (off : Bool) (P : List Nat) (T : List UInt8) (w : World) (k : Nat) (wr : World) : Prop where
  at_ : ∃ L', Dsk B g bm t nn wr D L' q fu off ∧ view L' = crashS P T (unsE L) k (view L) ∧ ∀ i, Inn g bm L' i → Inn g bm L i ∨ w.heap.size ≤ i
  chg : Chg (Inn g bm L) w wr
section
variable {B g bm t nn : Nat} {w wr wz w3 w4 : World} {D : DataW Value} {L L' : List Ent} {q fu : Int} {off : Bool} {P : List Nat} {T : List UInt8}
theorem only_trans10 {F : List Nat} {a b c : World} (h : Only F a b) (k : Only F b c) : Only F a c := ⟨k.1.trans h.1, k.2.1.trans h.2.1, k.2.2.1.trans h.2.2.1, Nat.le_trans h.2.2.2.1 k.2.2.2.1, fun j hj hn => (k.2.2.2.2 j (Nat.lt_of_lt_of_le hj h.2.2.2.1) hn).trans (h.2.2.2.2 j hj hn)⟩
theorem CrashAt.next {k : Nat} (hX : Dsk B g bm t nn wr D L' q fu off) (hV : view L' = crashS P T (unsE L) k (view L)) (hI : ∀ i, Inn g bm L' i → Inn g bm L i ∨ w.heap.size ≤ i) (hC : Chg (Inn g bm L) w wr) (hb : Below wr.heap.size wr wz) {n : Nm} (hn : n = (unsE L).getD k []) {x : Fl} (hm : (n, x) ∈ L')
    {p : Option Addr} {c : Nat} {b : List UInt8} {s1 : Nat} (ho : OwnB w3 wz.heap.size (.slice p b.length c) b) (hO3 : Only [x.f] wz w3) (hf3 : FBlk w3 ⟨x.f, p, c, b, s1⟩) (hf4 : FBlk w4 ⟨x.f, p, c, b, b.length⟩) (hO4 : Only [x.f] w3 w4) (hbb : b = newB P T k x.b x.s) : CrashAt B g bm t nn D L q fu off P T w (k + 1) w4 := by
  have hs := hX.syn _ hm
  have hz := hX.later hb
  have ho4 : OwnB w4 wz.heap.size (.slice p b.length c) b := own_only10 (t := 0) ho hO4 (fun k hk => by rw [List.mem_singleton.1 hk]; exact blk_not hf3 (by decide))
  obtain ⟨h1, h2, h3⟩ := hz.crashed hm hf4 ho4 (only_trans10 hO3 hO4) (by rw [hbb, newB_length P T k hs]; exact stay_le P k hs)
  refine ⟨⟨_, h1, ?_, fun i hi => ?_⟩, ?_⟩
  · rw [view_upd hX.uniq hm P T k (y := ⟨x.f, p, c, b, b.length⟩) hbb rfl, hV, hn]; rfl
  · rcases h3 i hi with h4 | h4
    · exact hI i h4
    · exact .inr (Nat.le_trans hC.size (Nat.le_trans hb.size h4))
  · refine Chg.trans hC (Chg.trans (Chg.below hb) h2 (fun i hi => .inl hi)) (fun i hi => hI i hi)
/-- One byte of the new bytes is turned. -/
theorem turned_ok {x : Fl} {gb c s1 j : Nat} {b : List UInt8} {v : UInt8} (ho : OwnB w3 wz.heap.size (.slice (some ⟨gb, 0, none⟩) b.length c) b) (hO3 : Only [x.f] wz w3) (hf3 : FBlk w3 ⟨x.f, some ⟨gb, 0, none⟩, c, b, s1⟩) :
    OwnB (w3.setCell ⟨gb, j, none⟩ (byteV v)) wz.heap.size (.slice (some ⟨gb, 0, none⟩) (b.set j v).length c) (b.set j v) ∧ Only [x.f] wz (w3.setCell ⟨gb, j, none⟩ (byteV v)) ∧ FBlk (w3.setCell ⟨gb, j, none⟩ (byteV v)) ⟨x.f, some ⟨gb, 0, none⟩, c, b.set j v, s1⟩ := by
  have hlt := World.ownsRow.lt ho gb rfl
  have hg : w3.grownBy (w3.setCell ⟨gb, j, none⟩ (byteV v)) (some gb) := (World.ownsRow.stored ho j (byteV v)).2
  have hne : x.f ≠ gb := fun e => by
    rcases ho.2 with ⟨e1, _⟩ | ⟨g1, cap, cur, e1, _, hh, _⟩
    · cases e1
    · simp only [Value.slice.injEq, Option.some.injEq, Addr.mk.injEq, and_true, true_and] at e1
      obtain ⟨rfl, rfl⟩ := e1
      rw [← e] at hh
      exact blk_not hf3 (by decide) _ hh
  refine ⟨own_turn ho j v, ⟨hg.os.trans hO3.1, hg.tape.trans hO3.2.1, hg.output.trans hO3.2.2.1, Nat.le_trans hO3.2.2.2.1 hg.size, fun i hi hn => (hg.block i (Nat.lt_of_lt_of_le hi hO3.2.2.2.1) (fun e => by have := Option.some.inj e; omega)).trans (hO3.2.2.2.2 i hi hn)⟩, ?_⟩
  have h1 := (hg.block x.f hf3.lt (fun e => hne (Option.some.inj e))).trans hf3
  unfold FBlk Blk
  simp only [Fl.v, List.length_set]
  exact h1
end
end Go.Proofs.Ytnhdnmlclnndoaa.Gm
