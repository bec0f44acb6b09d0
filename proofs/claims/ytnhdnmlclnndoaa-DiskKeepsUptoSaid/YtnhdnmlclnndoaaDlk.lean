/- Layer 10: DiskKeeps' rows behind a crash. -/
import Derived.Test.YtnhdnmlclnndoaaDlh
/- Layer 10: DiskKeeps' rows in memory: names, what was read, how many bytes were loose. -/
set_option linter.unusedSimpArgs false
set_option linter.unusedVariables false
namespace Go.Proofs.Ytnhdnmlclnndoaa.Gm
open Go Go.RowKit Go.Maps

def looV (V : View) (n : Nm) : Value := .int .i64 (looseV V n false : Nat)
/-- The rows: of names, of what was read of the first kw of them, of how many bytes were loose of the first kl. -/
structure K2 (Z : Nat) (w0 : World) (V : View) (NS : List Nm) (vn vw vl : Value) (kw kl : Nat) (xs : List Value) (w : World) : Prop where
  ns : OwnS w Z vn NS
  ws : w.ownsRow Z 31 1 vw kw xs
  es : ∀ j, j < kw → ∃ u, xs[j]? = some u ∧ OwnB w Z u (fileOf V (NS.getD j [])).1
  ls : w.ownsRow Z 3 1 vl kl ((NS.take kl).map (looV V))
  bl : Below Z w0 w
section
variable {Z : Nat} {w0 : World} {V : View} {NS : List Nm} {vn vw vl : Value} {kw kl : Nat} {xs : List Value} {w w' : World}
theorem K2.size (h : K2 Z w0 V NS vn vw vl kw kl xs w) (hz : Z = w0.heap.size) : Z ≤ w.heap.size := by rw [hz]; exact h.bl.size
theorem K2.later (h : K2 Z w0 V NS vn vw vl kw kl xs w) (hz : Z = w0.heap.size) (hb : Below w.heap.size w w') : K2 Z w0 V NS vn vw vl kw kl xs w' :=
  ⟨row_later h.ns hb, row_later h.ws hb, fun j hj => by
    obtain ⟨u, h1, h2⟩ := h.es j hj
    exact ⟨u, h1, row_later h2 hb⟩, row_later h.ls hb, h.bl.trans (hb.mono (h.size hz))⟩
theorem K2.was (h : K2 Z w0 V NS vn vw vl kw kl xs w) (hz : Z = w0.heap.size) {v' u : Value} (ho : w'.ownsRow Z 31 1 v' (kw + 1) (xs ++ [u])) (hg : w.grownBy w' vw.ownBlock) (hu : OwnB w Z u (fileOf V (NS.getD kw [])).1) : K2 Z w0 V NS vn v' vl (kw + 1) kl (xs ++ [u]) w' := by
  have hxl : xs.length = kw := by have := h.ws.1; omega
  refine ⟨row_apart h.ns h.ws (by decide) hg, ho, fun j hj => ?_, row_apart h.ls h.ws (by decide) hg, h.bl.grown hg (h.size hz) (fun j hj => (World.ownsRow.lt h.ws j hj).1)⟩
  by_cases e : j = kw
  · subst e
    exact ⟨u, by rw [List.getElem?_append_right (by omega), hxl, Nat.sub_self]; rfl, row_apart hu h.ws (by decide) hg⟩
  · obtain ⟨u2, h1, h2⟩ := h.es j (by omega)
    exact ⟨u2, by rw [List.getElem?_append_left (by omega)]; exact h1, row_apart h2 h.ws (by decide) hg⟩
theorem K2.loo (h : K2 Z w0 V NS vn vw vl kw kl xs w) (hz : Z = w0.heap.size) (hk : kl < NS.length) {v' : Value} (ho : w'.ownsRow Z 3 1 v' (kl + 1) (((NS.take kl).map (looV V)) ++ [looV V (NS.getD kl [])])) (hg : w.grownBy w' vl.ownBlock) : K2 Z w0 V NS vn vw v' kw (kl + 1) xs w' := by
  refine ⟨row_apart h.ns h.ls (by decide) hg, row_apart h.ws h.ls (by decide) hg, fun j hj => ?_, ?_, h.bl.grown hg (h.size hz) (fun j hj => (World.ownsRow.lt h.ls j hj).1)⟩
  · obtain ⟨u2, h1, h2⟩ := h.es j hj
    exact ⟨u2, h1, row_apart h2 h.ls (by decide) hg⟩
  · rw [List.take_succ_eq_append_getElem hk, List.map_append]
    rw [List.getD_eq_getElem?_getD, List.getElem?_eq_getElem hk] at ho
    exact ho
end
end Go.Proofs.Ytnhdnmlclnndoaa.Gm
set_option linter.unusedSimpArgs false
set_option linter.unusedVariables false
namespace Go.Proofs.Ytnhdnmlclnndoaa.Gm
open Go Go.RowKit Go.Maps

/-- Behind the first crash: the disk, the rows; the first kw of what was read are read anew. -/
structure K3 (B g bm t nn : Nat) (D : DataW Value) (L : List Ent) (q : Int) (Z Z2 : Nat) (W0 : World) (V V' : View) (NS : List Nm) (vn vw vl : Value) (N kw : Nat) (xs : List Value) (w : World) : Prop where
  dk : Dsk B g bm t nn w D L q (-1) false
  ns : OwnS w Z vn NS
  ws : w.ownsRow Z 31 1 vw N xs
  es : ∀ j, j < N → ∃ u, xs[j]? = some u ∧ ((j < kw ∧ OwnB w Z2 u (fileOf V' (NS.getD j [])).1) ∨ (kw ≤ j ∧ OwnB w Z u (fileOf V (NS.getD j [])).1))
  ls : w.ownsRow Z 3 1 vl N (NS.map (looV V))
  hn : ∀ i, vn.ownBlock = some i → ¬ Inn g bm L i
  hw : ∀ i, vw.ownBlock = some i → ¬ Inn g bm L i
  bl : Below B W0 w
  z2 : Z2 ≤ w.heap.size
section
variable {B g bm t nn : Nat} {D : DataW Value} {L L' : List Ent} {q : Int} {Z Z2 : Nat} {W0 w0 : World} {V V' : View} {NS : List Nm} {vn vw vl : Value} {N kw : Nat} {xs : List Value} {w w' : World}
theorem K3.later (h : K3 B g bm t nn D L q Z Z2 W0 V V' NS vn vw vl N kw xs w) (hb : Below w.heap.size w w') : K3 B g bm t nn D L q Z Z2 W0 V V' NS vn vw vl N kw xs w' :=
  ⟨h.dk.later hb, row_later h.ns hb, row_later h.ws hb, fun j hj => by
    obtain ⟨u, h1, h2⟩ := h.es j hj
    refine ⟨u, h1, ?_⟩
    rcases h2 with ⟨h2, h3⟩ | ⟨h2, h3⟩
    · exact .inl ⟨h2, row_later h3 hb⟩
    · exact .inr ⟨h2, row_later h3 hb⟩, row_later h.ls hb, h.hn, h.hw, below_then h.bl (below_less hb h.dk.base.1), Nat.le_trans h.z2 hb.size⟩
theorem K3.of (hK : K2 Z w0 V NS vn vw vl N N xs w) (hNS : NS.length = N) (hlt : ∀ k, Inn g bm L k → k < Z) (hIB : ∀ k, Inn g bm L k → B ≤ k) (hBw : B ≤ w.heap.size) (hb : Below B W0 w) (hC : Chg (Inn g bm L) w w') (hI : ∀ k, Inn g bm L' k → Inn g bm L k ∨ w.heap.size ≤ k) (hD : Dsk B g bm t nn w' D L' q (-1) false) : K3 B g bm t nn D L' q Z w'.heap.size W0 V V' NS vn vw vl N 0 xs w' := by
  have hno : ∀ {T : TypeId} {s n : Nat} {v : Value} {ys : List Value}, w.ownsRow Z T s v n ys → ∀ k, v.ownBlock = some k → ¬ Inn g bm L k := fun h k hk hi => by
    have h1 := (World.ownsRow.lt h k hk).1
    have h2 := hlt k hi
    omega
  have hno2 : ∀ {T : TypeId} {s n : Nat} {v : Value} {ys : List Value}, w.ownsRow Z T s v n ys → ∀ k, v.ownBlock = some k → ¬ Inn g bm L' k := fun h k hk hi => by
    have h1 := World.ownsRow.lt h k hk
    rcases hI k hi with h2 | h2
    · have := hlt k h2; omega
    · omega
  refine ⟨hD, chg_row hK.ns hC (hno hK.ns), chg_row hK.ws hC (hno hK.ws), fun j hj => ?_, ?_, hno2 hK.ns, hno2 hK.ws, below_then hb (hC.toBelow hIB hBw), Nat.le_refl _⟩
  · obtain ⟨u, h1, h2⟩ := hK.es j hj
    exact ⟨u, h1, .inr ⟨Nat.zero_le _, chg_row h2 hC (hno h2)⟩⟩
  · have h := hK.ls
    rw [show NS.take N = NS from List.take_of_length_le (by omega)] at h
    exact chg_row h hC (hno h)
theorem K3.store {gw cw : Nat} (h : K3 B g bm t nn D L q Z Z2 W0 V V' NS vn (.slice (some ⟨gw, 0, none⟩) N cw) vl N kw xs w) (hk : kw < N) (u : Value) (hB : B ≤ Z) (hu : OwnB w Z2 u (fileOf V' (NS.getD kw [])).1) : K3 B g bm t nn D L q Z Z2 W0 V V' NS vn (.slice (some ⟨gw, 0, none⟩) N cw) vl N (kw + 1) (xs.set kw u) (w.setCell ⟨gw, kw, none⟩ u) := by
  have hs := World.ownsRow.stored h.ws kw u
  have hg : w.grownBy (w.setCell ⟨gw, kw, none⟩ u) (Value.slice (some ⟨gw, 0, none⟩) N cw).ownBlock := hs.2
  have hxl : xs.length = N := by have := h.ws.1; omega
  have hgz := (World.ownsRow.lt h.ws gw rfl).1
  refine ⟨h.dk.free (Chg.grown (I := fun k => k = gw) hg (fun k e => .inl (by simpa [Value.ownBlock] using e.symm))) (fun k hk e => h.hw gw rfl (by rw [← e]; exact hk)), row_apart h.ns h.ws (by decide) hg, hs.1, fun j hj => ?_, row_apart h.ls h.ws (by decide) hg, h.hn, h.hw, h.bl.grown hg (h.dk.base.1) (fun j ej => by have h9 : gw = j := (by simpa [Value.ownBlock] using ej); omega), by simpa using h.z2⟩
  by_cases e : j = kw
  · subst e
    exact ⟨u, by rw [List.getElem?_set_self (by omega)], .inl ⟨by omega, row_apart hu h.ws (by decide) hg⟩⟩
  · obtain ⟨u2, h1, h2⟩ := h.es j hj
    refine ⟨u2, by rw [List.getElem?_set_ne (by omega)]; exact h1, ?_⟩
    rcases h2 with ⟨h2, h3⟩ | ⟨h2, h3⟩
    · exact .inl ⟨by omega, row_apart h3 h.ws (by decide) hg⟩
    · exact .inr ⟨by omega, row_apart h3 h.ws (by decide) hg⟩
theorem K3.crash (h : K3 B g bm t nn D L q Z Z2 W0 V V' NS vn vw vl N N xs w) (hC : Chg (Inn g bm L) w w') (hlt : ∀ k, Inn g bm L k → k < Z2) : OwnS w' Z vn NS ∧ w'.ownsRow Z 31 1 vw N xs ∧ ∀ j, j < N → ∃ u, xs[j]? = some u ∧ OwnB w' Z2 u (fileOf V' (NS.getD j [])).1 := by
  refine ⟨chg_row h.ns hC h.hn, chg_row h.ws hC h.hw, fun j hj => ?_⟩
  obtain ⟨u, h1, h2⟩ := h.es j hj
  refine ⟨u, h1, ?_⟩
  rcases h2 with ⟨_, h3⟩ | ⟨h3, _⟩
  · exact chg_row h3 hC (fun k hk hi => by have := (World.ownsRow.lt h3 k hk).1; have := hlt k hi; omega)
  · omega
end
theorem idx_r10 (p : Option Addr) (b o n cap k : Nat) (hp : p = some ⟨b, o, none⟩) (hk : k < n) (W : World) : (Instr.indexAt 49 (.slice p n cap) (.int .i64 (k : Int))).run Try.prog W = .ok (.pointer (some ⟨b, o + k, none⟩)) W := by subst hp; go_simp
theorem idx_i10 (p : Option Addr) (b o n cap k : Nat) (hp : p = some ⟨b, o, none⟩) (hk : k < n) (W : World) : (Instr.indexAt 50 (.slice p n cap) (.int .i64 (k : Int))).run Try.prog W = .ok (.pointer (some ⟨b, o + k, none⟩)) W := by subst hp; go_simp
theorem slice_pre10 (p : Option Addr) (m cap k : Nat) (hk : k ≤ m) (hc : m ≤ cap) (hp : p = none → cap = 0) (W : World) : (Instr.slice 31 (.slice p m cap) none (some (.int .i64 (k : Int))) none).run Try.prog W = .ok (.slice p k cap) W := by
  cases p with
  | none =>
    have := hp rfl
    subst this
    have h1 : m = 0 := by omega
    subst h1
    have h2 : k = 0 := by omega
    subst h2
    go_simp
  | some a =>
    have h4 : (k : Int) ≤ (cap : Int) := by omega
    have h5 : k ≤ cap := by omega
    have h6 : ¬ ((cap : Int) < (k : Int)) := by omega
    have h7 : ¬ (cap < k) := by omega
    go_simp
/-- Bytes up to a place, as a slice. -/
theorem slice_upto10 {w : World} {p : Option Addr} {n c : Nat} {L : List UInt8} (hB : Bs w (.slice p n c) L) (hn : L.length = n) {k : Nat} (hk : k ≤ n) : (∀ W, (Instr.slice 31 (.slice p n c) none (some (.int .i64 (k : Int))) none).run Try.prog W = .ok (.slice p k c) W) ∧ Bs w (.slice p k c) (L.take k) := by
  subst hn
  rcases hB with ⟨h, rfl⟩ | ⟨a, cap, h, h2, h3⟩
  · simp only [Value.slice.injEq] at h
    obtain ⟨rfl, -, rfl⟩ := h
    obtain rfl : k = 0 := by simpa using hk
    exact ⟨slice_pre10 none 0 0 0 (Nat.le_refl _) (Nat.le_refl _) (fun _ => rfl), Bs.nil w⟩
  · simp only [Value.slice.injEq, true_and] at h
    obtain ⟨rfl, rfl⟩ := h
    exact ⟨slice_pre10 (some a) L.length c k hk h2 (by intro h; cases h), Bs.take (.inr ⟨a, c, rfl, h2, h3⟩) hk⟩
theorem p16_own {w : World} {base : Nat} {v : Value} {T : List UInt8} (h : w.ownsRow base 61 1 v T.length (T.map u16V)) : P16 w v (T.map (·.toNat)) := by
  rcases h.2 with ⟨rfl, h0⟩ | ⟨g, cap, cur, rfl, hb, hh, _⟩
  · have : T = [] := List.eq_nil_of_length_eq_zero h0
    subst this
    exact ⟨none, 0, rfl, fun k hk => absurd hk (Nat.not_lt_zero k)⟩
  · refine ⟨some ⟨g, 0, none⟩, cap, by rw [List.length_map], fun k hk => ⟨g, 0, rfl, ?_⟩⟩
    rw [List.length_map] at hk
    rw [Nat.zero_add, World.ownsRow.cellAt h k (by omega), List.getElem?_map, List.getElem?_eq_getElem hk, List.getD_eq_getElem?_getD, List.getElem?_map, List.getElem?_eq_getElem hk]
    rfl
theorem map_lt16 (T : List UInt8) (k : Nat) : (T.map (·.toNat)).getD k 0 < 65536 := by
  rw [List.getD_eq_getElem?_getD, List.getElem?_map]
  cases h : T[k]? with
  | none => simp
  | some c => have := c.toNat_lt; simp; omega
theorem quits_gives {v : Value} {w : World} {f : FuncId} {args : Array Value} (h : Calls Try.prog f args w (Quits v w)) : Calls Try.prog f args w (Gives v w) := h.mono fun e w' ⟨h1, h2⟩ => ⟨h1, by rw [h2]; exact Below.refl _ _⟩
end Go.Proofs.Ytnhdnmlclnndoaa.Gm
