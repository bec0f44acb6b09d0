/- Layer 10: what a change leaves of a disk in memory. -/
import Derived.Test.YtmbfhmjcphoddaaGreatDoorDkh
set_option linter.unusedSimpArgs false
set_option linter.unusedVariables false
namespace Go.Proofs.YtmbfhmjcphoddaaGreatDoor.Gm
open Go Go.RowKit Go.Maps

/-- The blocks that a disk has for its own. -/
def Inn (g bm : Nat) (L : List Ent) (k : Nat) : Prop := k = g ∨ k = bm ∨ ∃ e ∈ L, k = e.2.f ∨ e.2.v.ownBlock = some k
/-- What is none of these stays. -/
def Chg (I : Nat → Prop) (w w' : World) : Prop := w'.os = w.os ∧ w'.tape = w.tape ∧ w'.output = w.output ∧ w.heap.size ≤ w'.heap.size ∧ ∀ k, k < w.heap.size → ¬ I k → w'.heap[k]? = w.heap[k]?
theorem Chg.refl (I : Nat → Prop) (w : World) : Chg I w w := ⟨rfl, rfl, rfl, Nat.le_refl _, fun _ _ _ => rfl⟩
theorem Chg.below {I : Nat → Prop} {w w' : World} (h : Below w.heap.size w w') : Chg I w w' := ⟨h.os, h.tape, h.output, h.size, fun k hk _ => h.block k hk⟩
theorem Chg.only {I : Nat → Prop} {F : List Nat} {w w' : World} (h : Only F w w') (hF : ∀ k ∈ F, I k) : Chg I w w' := ⟨h.1, h.2.1, h.2.2.1, h.2.2.2.1, fun k hk hn => h.2.2.2.2 k hk (fun hm => hn (hF k hm))⟩
theorem Chg.grown {I : Nat → Prop} {w w' : World} {row : Option Nat} (h : w.grownBy w' row) (hF : ∀ k, row = some k → I k ∨ w.heap.size ≤ k) : Chg I w w' := ⟨h.os, h.tape, h.output, h.size, fun k hk hn => h.block k hk (fun e => by rcases hF k e.symm with h1 | h1; exact hn h1; omega)⟩
theorem Chg.trans {I J : Nat → Prop} {a b c : World} (h : Chg I a b) (k : Chg J b c) (hJ : ∀ i, J i → I i ∨ a.heap.size ≤ i) : Chg I a c :=
  ⟨k.1.trans h.1, k.2.1.trans h.2.1, k.2.2.1.trans h.2.2.1, Nat.le_trans h.2.2.2.1 k.2.2.2.1, fun i hi hn => (k.2.2.2.2 i (Nat.lt_of_lt_of_le hi h.2.2.2.1) (fun hj => by rcases hJ i hj with h1 | h1; exact hn h1; omega)).trans (h.2.2.2.2 i hi hn)⟩
theorem Chg.size {I : Nat → Prop} {w w' : World} (h : Chg I w w') : w.heap.size ≤ w'.heap.size := h.2.2.2.1
theorem Chg.toBelow {I : Nat → Prop} {B : Nat} {w w' : World} (h : Chg I w w') (hI : ∀ k, I k → B ≤ k) (hB : B ≤ w.heap.size) : Below B w w' := ⟨h.1, h.2.1, h.2.2.1, h.2.2.2.1, fun k hk => h.2.2.2.2 k (Nat.lt_of_lt_of_le hk hB) (fun hi => by have := hI k hi; omega)⟩
section
variable {B g bm t nn : Nat} {w w' : World} {D : DataW Value} {L : List Ent} {q fu : Int} {off : Bool}
theorem Dsk.lt (h : Dsk B g bm t nn w D L q fu off) : ∀ k, Inn g bm L k → k < w.heap.size := fun k hk => by
  rcases hk with rfl | rfl | ⟨e, he, rfl | hk⟩
  · exact h.blk.lt
  · exact h.map.lt
  · exact (h.fil e he).1.lt
  · exact (World.ownsRow.lt (h.fil e he).2.1 k hk).2
theorem Dsk.inB (h : Dsk B g bm t nn w D L q fu off) : ∀ k, Inn g bm L k → B ≤ k := fun k hk => by
  rcases hk with rfl | rfl | ⟨e, he, rfl | hk⟩
  · exact h.base.2.1
  · exact h.base.2.2
  · exact (h.fil e he).2.2
  · exact (World.ownsRow.lt (h.fil e he).2.1 k hk).1
theorem own_only10 {F : List Nat} {t : TypeId} {v : Value} {b : List UInt8} (h : OwnB w B v b) (ho : Only F w w') (hF : ∀ k ∈ F, ∀ cs, w.heap[k]? ≠ some (.cells cs 5 (0, 0))) : OwnB w' B v b := by
  refine ⟨h.1, ?_⟩
  rcases h.2 with h0 | ⟨gb, cap, cur, hv, hb, hh, r⟩
  · exact .inl h0
  · exact .inr ⟨gb, cap, cur, hv, hb, (ho.2.2.2.2 gb (lt_of_block hh) (fun hm => hF gb hm _ hh)).trans hh, r⟩
theorem blk_not {t t' : TypeId} {cs : Array Value} {k : Nat} (h : Blk w k t cs) (hne : t ≠ t') : ∀ cs', w.heap[k]? ≠ some (.cells cs' t' (0, 0)) := fun cs' e => by
  unfold Blk at h
  rw [h] at e
  injection e with e
  injection e with _ e
  exact hne e
/-- The disk's own block is written. -/
theorem Dsk.turn (h : Dsk B g bm t nn w D L q fu off) (hO : Only [g] w w') {q' fu' : Int} {off' : Bool} (hb : Blk w' g 50 #[.map (some bm), .int .i64 q', .int .i64 fu', .bool off']) (hq : 0 ≤ q' ∧ q' ≤ 4194304) (hf : -1 ≤ fu' ∧ fu' ≤ 9223372036854775807) : Dsk B g bm t nn w' D L q' fu' off' := by
  have hgm : bm ≠ g := fun e => by
    obtain ⟨es, c, hm, _⟩ := h.map
    have hg := h.blk
    unfold Blk at hg
    rw [e, hg] at hm; cases hm
  refine ⟨hb, ?_, h.nnt, h.szd, h.has, h.at_, fun e he => ⟨?_, ?_, (h.fil e he).2.2⟩, h.apt, h.nms, h.may, h.syn, h.tot, h.len, hq, hf, ⟨Nat.le_trans h.base.1 hO.size, h.base.2⟩⟩
  · have hl := h.map.lt
    obtain ⟨es, c, hm, r⟩ := h.map
    exact ⟨es, c, (hO.2.2.2.2 bm hl (fun hm => hgm (List.mem_singleton.1 hm))).trans hm, r⟩
  · have hb1 := (h.fil e he).1
    exact (hO.2.2.2.2 _ hb1.lt (fun hm => by
      rw [List.mem_singleton.1 hm] at hb1
      exact blk_not h.blk (by decide) _ hb1)).trans hb1
  · exact own_only10 (t := 0) (h.fil e he).2.1 hO (fun k hk => by rw [List.mem_singleton.1 hk]; exact blk_not h.blk (by decide))
end
end Go.Proofs.YtmbfhmjcphoddaaGreatDoor.Gm
