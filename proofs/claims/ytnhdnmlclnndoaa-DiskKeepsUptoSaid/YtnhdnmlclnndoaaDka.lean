/- Layer 10: a disk in memory: its files, its map, its blocks; looking a file up. -/
import Derived.Test.YtnhdnmlclnndoaaGc
import Derived.Test.YtnhdnmlclnndoaaShelf
import Derived.Maps.OwnSet
import Derived.Maps.RangeWalk
import Derived.Maps.Ext
import Derived.Maps.StringElems
import Derived.StringKeys
set_option linter.unusedSimpArgs false
set_option linter.unusedVariables false
namespace Go.Proofs.Ytnhdnmlclnndoaa.Gm
open Go Go.RowKit Go.Maps

/-- An element as it stands. -/
def idElem (v : Value) : Option (DataW Value × List MemPlace) := some (.held v, [])
theorem idElem_eq {v : Value} {d : DataW Value} {ps : List MemPlace} (h : idElem v = some (d, ps)) : d = .held v := by
  unfold idElem at h; injection h with h; injection h with h _; exact h.symm
theorem cell_later {w w' : World} {a : Addr} {v : Value} (hb : Below w.heap.size w w') (h : w.cell? a = some v) : w'.cell? a = some v := (Below.cell hb (World.block_lt_of_cell? _ _ h)).trans h
theorem map_later {w w' : World} {k : TypeId} {R : Value → Option (DataW Value × List MemPlace)} {b n B : Nat} {D : DataW Value} (h : w.ownsMap Try.prog k R b n D) (hb : Below B w w') (hB : b < B) : w'.ownsMap Try.prog k R b n D := by
  obtain ⟨es, clock, e, r⟩ := h
  exact ⟨es, clock, (hb.block b hB).trans e, r⟩
theorem look_own {w : World} {k t e : TypeId} {R : Value → Option (DataW Value × List MemPlace)} {b n : Nat} {D : DataW Value} (h : w.ownsMap Try.prog k R b n D) (K : Keyed Try.prog k) (ht : Try.prog.underlying t = some (.map k e)) {z : Value} (hz : (zeroValue e).run Try.prog w = .ok z w) {zd : DataW Value} {zp : List MemPlace} (hzd : R z = some (zd, zp))
    {key : Value} {kl : Lit} (hkey : keyOf Try.prog k key = some kl) : ∃ v ps, (Instr.lookup t (.map (some b)) key false).run Try.prog w = .ok v w ∧ R v = some (D.atKey kl zd, ps) := by
  obtain ⟨es, clock, hb, F, _, rfl⟩ := h
  rcases Maps.fit_look false K ht hz hb F hkey with ⟨hrun, _, hat⟩ | ⟨e0, y, _, _, hrun, hRv, hat, _⟩
  · exact ⟨z, zp, hrun, by rw [hat zd]; exact hzd⟩
  · exact ⟨e0.val, y.2, hrun, by rw [hat zd]; exact hRv⟩

theorem setCell_block {w : World} {g o : Nat} {t : TypeId} {cs : Array Value} (h : Blk w g t cs) (ho : o < cs.size) (u : Value) : Blk (w.setCell ⟨g, o, none⟩ u) g t (cs.set o u ho) := by
  have hlt := h.lt
  have h' : w.heap[g] = .cells cs t (0, 0) := by
    have := h; unfold Blk at this; rw [Array.getElem?_eq_getElem hlt] at this; exact Option.some.inj this
  show (w.heap.modify g _)[g]? = _
  rw [Array.getElem?_eq_getElem (by simpa using hlt), Array.getElem_modify_self, h']
  simp [ho, Array.setIfInBounds]
/-- A file in memory: its block, its bytes' row, its bytes, how many of them last. -/
structure Fl where
  f : Nat
  p : Option Addr
  c : Nat
  b : List UInt8
  s : Nat
instance : Inhabited Fl := ⟨⟨0, none, 0, [], 0⟩⟩
def Fl.v (x : Fl) : Value := .slice x.p x.b.length x.c
abbrev Ent := List UInt8 × Fl
/-- The file of a name. -/
def pickE (L : List Ent) (n : List UInt8) : Option Fl := (L.find? fun e => decide (e.1 = n)).map (·.2)
theorem pick_mem {L : List Ent} {n : List UInt8} {x : Fl} (h : pickE L n = some x) : (n, x) ∈ L := by
  unfold pickE at h
  cases hf : L.find? fun e => decide (e.1 = n) with
  | none => rw [hf] at h; cases h
  | some e =>
    rw [hf] at h
    have h1 := List.mem_of_find?_eq_some hf
    have h2 := List.find?_some hf
    injection h with h
    have h3 : e.1 = n := of_decide_eq_true h2
    rw [← h3, ← h]; exact h1
theorem pick_none {L : List Ent} {n : List UInt8} (h : pickE L n = none) : ∀ e ∈ L, e.1 ≠ n := by
  unfold pickE at h
  intro e he hn
  have h1 := List.find?_eq_none.1 (Option.map_eq_none_iff.1 h) e he
  simp [hn] at h1
theorem pick_of {L : List Ent} (hu : L.Pairwise fun a b => a.1 ≠ b.1) {n : List UInt8} {x : Fl} (h : (n, x) ∈ L) : pickE L n = some x := by
  induction L with
  | nil => cases h
  | cons e L ih =>
    obtain ⟨h1, h2⟩ := List.pairwise_cons.1 hu
    unfold pickE
    rw [List.find?_cons]
    rcases List.mem_cons.1 h with rfl | hm
    · simp
    · have : e.1 ≠ n := h1 _ hm
      rw [decide_eq_false this]
      exact ih h2 hm
/-- How many bytes all have. -/
def totE (L : List Ent) : Nat := (L.map fun e => e.2.b.length).sum
/-- Is this a file's name? -/
def okC (c : UInt8) : Bool := decide (97 ≤ c.toNat ∧ c.toNat ≤ 122) || decide (48 ≤ c.toNat ∧ c.toNat ≤ 57) || decide (c.toNat = 45) || decide (c.toNat = 46)
def mayNm (n : List UInt8) : Bool := n.all okC && decide (1 ≤ n.length) && decide (n.length ≤ 32)
/-- A disk in memory: what it has at B or behind. -/
structure Dsk (B g bm t nn : Nat) (w : World) (D : DataW Value) (L : List Ent) (q fu : Int) (off : Bool) : Prop where
  blk : Blk w g 65 #[.map (some bm), .int .i64 q, .int .i64 fu, .bool off]
  map : w.ownsMap Try.prog 9 idElem bm nn D
  nnt : nn ≤ t
  szd : Maps.size D = L.length
  has : ∀ n : List UInt8, n.length ≤ maxLen → Maps.has D (.string n) = (pickE L n).isSome
  at_ : ∀ e ∈ L, ∀ z, D.atKey (.string e.1) z = .held (.pointer (some ⟨e.2.f, 0, none⟩))
  fil : ∀ e ∈ L, Blk w e.2.f 82 #[e.2.v, .int .i64 (e.2.s : Nat)] ∧ OwnB w B e.2.v e.2.b ∧ B ≤ e.2.f
  apt : ∀ a ∈ L, ∀ b ∈ L, a.1 ≠ b.1 → a.2.f ≠ b.2.f ∧ ∀ k, a.2.v.ownBlock = some k → b.2.v.ownBlock ≠ some k
  nms : L.Pairwise fun a b => a.1 < b.1
  may : ∀ e ∈ L, mayNm e.1 = true
  syn : ∀ e ∈ L, e.2.s ≤ e.2.b.length
  tot : totE L ≤ 4194304
  len : L.length ≤ 512
  qb : 0 ≤ q ∧ q ≤ 4194304
  fb : -1 ≤ fu ∧ fu ≤ 9223372036854775807
  base : B ≤ w.heap.size ∧ B ≤ g ∧ B ≤ bm
section
variable {B g bm t nn : Nat} {w w' : World} {D : DataW Value} {L : List Ent} {q fu : Int} {off : Bool}
theorem Dsk.later (h : Dsk B g bm t nn w D L q fu off) (hb : Below w.heap.size w w') : Dsk B g bm t nn w' D L q fu off :=
  ⟨h.blk.later hb, map_later h.map hb h.map.lt, h.nnt, h.szd, h.has, h.at_, fun e he => ⟨(h.fil e he).1.later hb, (h.fil e he).2.1.below hb, (h.fil e he).2.2⟩, h.apt, h.nms, h.may, h.syn, h.tot, h.len, h.qb, h.fb, ⟨Nat.le_trans h.base.1 hb.size, h.base.2⟩⟩
theorem Dsk.uniq (h : Dsk B g bm t nn w D L q fu off) : L.Pairwise fun a b => a.1 ≠ b.1 := h.nms.imp fun {a b} hab he => by rw [he] at hab; exact absurd hab (List.lt_irrefl _)
set_option maxRecDepth 100000 in
theorem zero_file (w : World) : (zeroValue 83).run Try.prog w = .ok (.pointer none) w := by kernel_rfl
set_option maxRecDepth 100000 in
theorem key_str {n : List UInt8} (h : n.length ≤ maxLen) : keyOf Try.prog 9 (encStr n) = some (.string n) := by
  have := WideMaps.keyOf_string_mk (P := Try.prog) Try.underlying9 (s := ⟨n.toArray⟩) (by simpa [ByteArray.size] using h)
  simpa [encStr] using this
/-- What a look-up gives. -/
def fileV (L : List Ent) (n : List UInt8) : Value := match pickE L n with
  | some x => .pointer (some ⟨x.f, 0, none⟩)
  | none => .pointer none
set_option maxRecDepth 100000 in
theorem Dsk.look (h : Dsk B g bm t nn w D L q fu off) (n : List UInt8) (hn : n.length ≤ maxLen) : (Instr.lookup 63 (.map (some bm)) (encStr n) false).run Try.prog w = .ok (fileV L n) w := by
  obtain ⟨v, ps, hrun, hv⟩ := look_own h.map (Maps.string_keyed Try.underlying9) Try.underlying63 (zero_file w) (zd := .held (.pointer none)) (zp := []) rfl (key_str hn)
  have hv := idElem_eq hv
  rw [hrun]
  congr 1
  unfold fileV
  cases hp : pickE L n with
  | some x =>
    rw [h.at_ _ (pick_mem hp)] at hv
    injection hv with hv
    exact hv.symm
  | none =>
    have hh := h.has n hn
    rw [hp] at hh
    rw [Maps.atKey_of_not_has hh] at hv
    injection hv with hv
    exact hv.symm
end
end Go.Proofs.Ytnhdnmlclnndoaa.Gm
