/- Layer 10: a disk at a world, told of its plain view alone; a call as a row tells it. -/
import Derived.Test.YtnhdnmlclnndoaaDkze
import Derived.Test.YtnhdnmlclnndoaaWro
set_option linter.unusedSimpArgs false
set_option linter.unusedVariables false
namespace Go.Proofs.Ytnhdnmlclnndoaa.Gm
open Go Go.RowKit Go.Maps
attribute [local go_sem ↓] Go.wp_at_zero Go.wp_at_succ

/-- A disk at a world: its view, its quota, its fuse, its power. -/
def DkAt (B g bm t : Nat) (V : View) (q fu : Int) (off : Bool) (w : World) : Prop := ∃ nn D L, Dsk B g bm t nn w D L q fu off ∧ view L = V
theorem DkAt.later {B g bm t : Nat} {V : View} {q fu : Int} {off : Bool} {w w' : World} (h : DkAt B g bm t V q fu off w) (hb : Below w.heap.size w w') : DkAt B g bm t V q fu off w' := by
  obtain ⟨nn, D, L, h1, h2⟩ := h
  exact ⟨nn, D, L, h1.later hb, h2⟩
theorem chg_own {I : Nat → Prop} {B : Nat} {w w' : World} {v : Value} {b : List UInt8} (h : OwnB w B v b) (hc : Chg I w w') (hn : ∀ k, v.ownBlock = some k → ¬ I k) : OwnB w' B v b := by
  refine ⟨h.1, ?_⟩
  rcases h.2 with h0 | ⟨gb, cap, cur, hv, hb, hh, r⟩
  · exact .inl h0
  · exact .inr ⟨gb, cap, cur, hv, hb, (hc.2.2.2.2 gb (lt_of_block hh) (hn gb (by rw [hv]; rfl))).trans hh, r⟩
/-- What is none of a disk's own blocks may change. -/
theorem Dsk.free {B g bm t nn : Nat} {w w' : World} {D : DataW Value} {L : List Ent} {q fu : Int} {off : Bool} {I : Nat → Prop} (h : Dsk B g bm t nn w D L q fu off) (hc : Chg I w w') (hn : ∀ k, Inn g bm L k → ¬ I k) : Dsk B g bm t nn w' D L q fu off := by
  refine ⟨(hc.2.2.2.2 g h.blk.lt (hn g (.inl rfl))).trans h.blk, ?_, h.nnt, h.szd, h.has, h.at_, fun e he => ⟨?_, ?_, (h.fil e he).2.2⟩, h.apt, h.nms, h.may, h.syn, h.tot, h.len, h.qb, h.fb, ⟨Nat.le_trans h.base.1 hc.size, h.base.2⟩⟩
  · have hl := h.map.lt
    obtain ⟨es, c, hm, r⟩ := h.map
    exact ⟨es, c, (hc.2.2.2.2 bm hl (hn bm (.inr (.inl rfl)))).trans hm, r⟩
  · exact (hc.2.2.2.2 _ (h.fil e he).1.lt (hn _ (.inr (.inr ⟨e, he, .inl rfl⟩)))).trans (h.fil e he).1
  · exact chg_own (h.fil e he).2.1 hc (fun k hk => hn k (.inr (.inr ⟨e, he, .inr hk⟩)))
/-- A call, plainly: which, names, bytes, a number, picks. -/
structure ActP where
  what : Int
  nm : Nm
  ot : Nm
  b : List UInt8
  n : Int
  p : List Nat
/-- What it answers and what it leaves: the code, the view, the quota, the fuse, the power. -/
structure AOut where
  c : Int
  V : View
  q : Int
  fu : Int
  off : Bool
def ofOut (q : Int) (o : Out) : AOut := ⟨o.c, o.V, q, o.fu, o.off⟩
def actO (V : View) (q fu : Int) (off : Bool) (a : ActP) : AOut :=
  if a.what = 0 then ofOut q (offV V fu off (runV V fu (createC V a.nm) (putV V (a.nm, [], 0))))
  else if a.what = 1 then ofOut q (offV V fu off (runV V fu (appendC V a.nm a.b.length q) (setV V a.nm ((fileOf V a.nm).1 ++ a.b) (fileOf V a.nm).2)))
  else if a.what = 2 then ofOut q (offV V fu off (runV V fu (lackC V a.nm) (setV V a.nm (fileOf V a.nm).1 (fileOf V a.nm).1.length)))
  else if a.what = 3 then ofOut q (offV V fu off (runV V fu (renameC V a.nm a.ot) (putV (delV V a.nm) (a.ot, fileOf V a.nm))))
  else if a.what = 4 then ofOut q (offV V fu off (runV V fu (truncC V a.nm a.n) (setV V a.nm ((fileOf V a.nm).1.take a.n.toNat) (min (fileOf V a.nm).2 a.n.toNat))))
  else if a.what = 5 then ofOut q (offV V fu off (runV V fu (lackC V a.nm) (delV V a.nm)))
  else if a.what = 6 then ⟨if okQ a.n then 0 else 1, V, if okQ a.n then a.n else q, fu, off⟩
  else if a.what = 7 then ⟨fuseC a.n off, V, q, if fuseC a.n off = 0 then a.n else fu, off⟩
  else if a.what = 8 then ⟨0, crashS a.p a.b (unsV V) (unsV V).length V, q, -1, false⟩
  else ⟨0, V, q, fu, off⟩
/-- A call's parts in the caller's memory. -/
structure ActIn (W : World) (vb vp : Value) (a : ActP) : Prop where
  nl : a.nm.length ≤ 140737488351232
  ol : a.ot.length ≤ 140737488351232
  bs : Bs W vb a.b
  bl : a.b.length ≤ 140737488351232
  pk : P16 W vp a.p
  pl : a.p.length ≤ 140737488355328
  p6 : ∀ k, a.p.getD k 0 < 65536
  nb : a.n ≤ 9223372036854775807
theorem P16.below {w w' : World} {v : Value} {P : List Nat} (h : P16 w v P) (hb : Below w.heap.size w w') : P16 w' v P := by
  obtain ⟨p, cap, e, hc⟩ := h
  refine ⟨p, cap, e, fun k hk => ?_⟩
  obtain ⟨b, o, h1, h2⟩ := hc k hk
  exact ⟨b, o, h1, (hb.cell (p := ⟨b, o + k, none⟩) (World.block_lt_of_cell? _ _ h2)).trans h2⟩
theorem Chg.cell {I : Nat → Prop} {w w' : World} (hc : Chg I w w') {a : Addr} {v : Value} (h : w.cell? a = some v) (hn : ¬ I a.block) : w'.cell? a = some v :=
  (World.cell?_of_block (a := a) (hc.2.2.2.2 a.block (World.block_lt_of_cell? _ _ h) hn)).trans h
theorem Bs.chg {I : Nat → Prop} {w w' : World} {v : Value} {L : List UInt8} (h : Bs w v L) (hc : Chg I w w') (hn : ∀ b o cap, v = .slice (some ⟨b, o, none⟩) L.length cap → ¬ I b) : Bs w' v L := by
  rcases h with h | ⟨a, cap, h1, h2, h3⟩
  · exact .inl h
  · refine .inr ⟨a, cap, h1, h2, fun hl => ?_⟩
    obtain ⟨b, o, rfl, hbl, hcl⟩ := h3 hl
    exact ⟨b, o, rfl, Nat.lt_of_lt_of_le hbl hc.size, fun i hi => hc.cell (hcl i hi) (hn b o cap h1)⟩
theorem P16.chg {I : Nat → Prop} {w w' : World} {v : Value} {P : List Nat} (h : P16 w v P) (hc : Chg I w w') (hn : ∀ k, I k → ∀ b o cap, v = .slice (some ⟨b, o, none⟩) P.length cap → k ≠ b) : P16 w' v P := by
  obtain ⟨p, cap, e, hk⟩ := h
  refine ⟨p, cap, e, fun k hk2 => ?_⟩
  obtain ⟨b, o, rfl, h2⟩ := hk k hk2
  exact ⟨b, o, rfl, hc.cell h2 (fun hi => hn b hi b o cap e rfl)⟩
end Go.Proofs.Ytnhdnmlclnndoaa.Gm
