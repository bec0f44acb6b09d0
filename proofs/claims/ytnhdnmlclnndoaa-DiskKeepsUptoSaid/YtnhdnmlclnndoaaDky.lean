/- Layer 10: what a crash leaves of a file; one round of it. -/
import Derived.Test.YtnhdnmlclnndoaaDkx
import Derived.Test.YtnhdnmlclnndoaaDkp
import Derived.Laws.BitsAllLaws
set_option linter.unusedSimpArgs false
set_option linter.unusedVariables false
namespace Go.Proofs.Ytnhdnmlclnndoaa.Gm
open Go Go.RowKit Go.Maps
/-- How many of a file's loose bytes stay. -/
def stayN (P : List Nat) (k : Nat) (b : List UInt8) (s : Nat) : Nat := if k < P.length then P.getD k 0 % (b.length - s + 1) else 0
/-- Its bytes, then. -/
def newB (P : List Nat) (T : List UInt8) (k : Nat) (b : List UInt8) (s : Nat) : List UInt8 :=
  if 0 < stayN P k b s ∧ k < T.length then (b.take (s + stayN P k b s)).set (s + stayN P k b s - 1) ((b.take (s + stayN P k b s)).getD (s + stayN P k b s - 1) 0 ^^^ T.getD k 0) else b.take (s + stayN P k b s)
theorem stay_le (P : List Nat) (k : Nat) {b : List UInt8} {s : Nat} (h : s ≤ b.length) : s + stayN P k b s ≤ b.length := by
  unfold stayN
  split
  · have := Nat.mod_lt (P.getD k 0) (show 0 < b.length - s + 1 by omega)
    omega
  · omega
theorem newB_length (P : List Nat) (T : List UInt8) (k : Nat) {b : List UInt8} {s : Nat} (h : s ≤ b.length) : (newB P T k b s).length = s + stayN P k b s := by
  have := stay_le P k h
  unfold newB
  split
  · rw [List.length_set, List.length_take]; omega
  · rw [List.length_take]; omega
abbrev View := List (Nm × List UInt8 × Nat)
def view (L : List Ent) : View := L.map fun e => (e.1, e.2.b, e.2.s)
def updV (P : List Nat) (T : List UInt8) (k : Nat) (n : Nm) (V : View) : View := V.map fun e => if e.1 = n then (e.1, newB P T k e.2.1 e.2.2, (newB P T k e.2.1 e.2.2).length) else e
/-- Behind the first k of the names. -/
def crashS (P : List Nat) (T : List UInt8) (U : List Nm) : Nat → View → View
  | 0, V => V
  | k + 1, V => updV P T k (U.getD k []) (crashS P T U k V)
theorem updV_names (P : List Nat) (T : List UInt8) (k : Nat) (n : Nm) (V : View) : (updV P T k n V).map (·.1) = V.map (·.1) := by
  unfold updV
  rw [List.map_map]
  apply List.map_congr_left
  intro e _
  simp only [Function.comp]
  split <;> rfl
theorem crashS_names (P : List Nat) (T : List UInt8) (U : List Nm) (k : Nat) (V : View) : (crashS P T U k V).map (·.1) = V.map (·.1) := by
  induction k with
  | zero => rfl
  | succ k ih => show (updV P T k _ _).map (·.1) = _; rw [updV_names, ih]
theorem view_names (L : List Ent) : (view L).map (·.1) = L.map (·.1) := by
  unfold view; rw [List.map_map]; rfl
theorem view_upd {L : List Ent} (hu : L.Pairwise fun a b => a.1 ≠ b.1) {n : Nm} {x y : Fl} (hm : (n, x) ∈ L) (P : List Nat) (T : List UInt8) (k : Nat) (hb : y.b = newB P T k x.b x.s) (hs : y.s = y.b.length) : view (updE L n y) = updV P T k n (view L) := by
  unfold view updE updV
  rw [List.map_map, List.map_map]
  apply List.map_congr_left
  intro e he
  simp only [Function.comp]
  by_cases h : e.1 = n
  · have h1 := pick_of hu hm
    have h2 := pick_of hu (n := e.1) (x := e.2) he
    rw [h, h1] at h2
    have h3 := Option.some.inj h2
    rw [if_pos h, if_pos h, ← h3, h]
    simp only
    rw [hs, hb]
  · rw [if_neg h, if_neg h]
/-- A row of picks in memory. -/
def P16 (w : World) (v : Value) (P : List Nat) : Prop := ∃ p cap, v = .slice p P.length cap ∧ ∀ k, k < P.length → ∃ b o, p = some ⟨b, o, none⟩ ∧ w.cell? ⟨b, o + k, none⟩ = some (.int .u16 (P.getD k 0 : Nat))
theorem idx_b (p : Option Addr) (b o n cap k : Nat) (hp : p = some ⟨b, o, none⟩) (hk : k < n) (W : World) : (Instr.indexAt 31 (.slice p n cap) (.int .i64 (k : Int))).run Try.prog W = .ok (.pointer (some ⟨b, o + k, none⟩)) W := by subst hp; go_simp
theorem idx_p (p : Option Addr) (b o n cap k : Nat) (hp : p = some ⟨b, o, none⟩) (hk : k < n) (W : World) : (Instr.indexAt 32 (.slice p n cap) (.int .i64 (k : Int))).run Try.prog W = .ok (.pointer (some ⟨b, o + k, none⟩)) W := by subst hp; go_simp
theorem bs_at {w : World} {v : Value} {T : List UInt8} (h : Bs w v T) {k : Nat} (hk : k < T.length) : ∃ b o cap, v = .slice (some ⟨b, o, none⟩) T.length cap ∧ w.cell? ⟨b, o + k, none⟩ = some (byteV (T.getD k 0)) := by
  rcases h with ⟨_, rfl⟩ | ⟨a, cap, e, _, h3⟩
  · simp at hk
  · obtain ⟨b, o, rfl, _, hc⟩ := h3 (by rintro rfl; simp at hk)
    exact ⟨b, o, cap, e, hc k hk⟩
theorem xor_u8 (a b : UInt8) : bits .xor .u8 (a.toNat : Int) (b.toNat : Int) = ((a ^^^ b).toNat : Int) := by
  rw [u8_xor_nat _ _ a.toNat_lt b.toNat_lt, UInt8.toNat_xor]
/-- One byte of a row of one's own is written. -/
theorem own_turn {w : World} {B g cap : Nat} {b : List UInt8} (h : OwnB w B (.slice (some ⟨g, 0, none⟩) b.length cap) b) (j : Nat) (c : UInt8) : OwnB (w.setCell ⟨g, j, none⟩ (byteV c)) B (.slice (some ⟨g, 0, none⟩) (b.set j c).length cap) (b.set j c) := by
  have h1 := (World.ownsRow.stored h j (byteV c)).1
  unfold OwnB cellsB at *
  rw [List.length_set, List.map_set]
  exact h1
/-- What is foreign to a disk stays readable. -/
structure Foreign (I : Nat → Prop) (w : World) (pv tv : Value) (P : List Nat) (T : List UInt8) : Prop where
  p : ∀ W, Chg I w W → P16 W pv P
  t : ∀ W, Chg I w W → Bs W tv T
  lt : ∀ k, P.getD k 0 < 65536
  pl : P.length ≤ 140737488355328
  tl : T.length ≤ 140737488355328
section
variable {B g bm t nn : Nat} {w : World} {D : DataW Value} {L : List Ent} {q fu : Int} {off : Bool}
/-- The file behind one round: new bytes of its own, all of them synced. -/
theorem Dsk.crashed (h : Dsk B g bm t nn w D L q fu off) {n : Nm} {x : Fl} (hm : (n, x) ∈ L) {w' : World} {p : Option Addr} {c : Nat} {b : List UInt8} (hb : FBlk w' ⟨x.f, p, c, b, b.length⟩) (ho : OwnB w' w.heap.size (.slice p b.length c) b) (hO : Only [x.f] w w') (hl : b.length ≤ x.b.length) :
    Dsk B g bm t nn w' D (updE L n ⟨x.f, p, c, b, b.length⟩) q fu off ∧ Chg (Inn g bm L) w w' ∧ ∀ k, Inn g bm (updE L n ⟨x.f, p, c, b, b.length⟩) k → Inn g bm L k ∨ w.heap.size ≤ k := by
  have hC : Chg (fun i => i = x.f ∨ x.v.ownBlock = some i) w w' := Chg.only hO (fun i hi => .inl (List.mem_singleton.1 hi))
  have hr : ∀ k, (⟨x.f, p, c, b, b.length⟩ : Fl).v.ownBlock = some k → x.v.ownBlock = some k ∨ w.heap.size ≤ k := fun i hi => .inr (World.ownsRow.lt ho i hi).1
  have h1 := upd_step h (y := ⟨x.f, p, c, b, b.length⟩) hm rfl hb (OwnB.base ho h.base.1) hC hr (Nat.le_refl _)
    (by have h1 := upd_tot h.uniq hm (y := ⟨x.f, p, c, b, b.length⟩); have h2 := h.tot; simp only at h1; omega)
  obtain ⟨nn', D', hD, hC2, hI⟩ := h1
  exact ⟨h.upd hm rfl hb (OwnB.base ho h.base.1) hC hr (Nat.le_refl _) (by have h1 := upd_tot h.uniq hm (y := ⟨x.f, p, c, b, b.length⟩); have h2 := h.tot; simp only at h1; omega), hC2, hI⟩
end
end Go.Proofs.Ytnhdnmlclnndoaa.Gm
