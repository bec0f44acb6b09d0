/- Words for predicates that a text lays: names, values, which may be; what covering comes to. -/
import Derived.Test.YtggcboejdihdiaaCb
set_option linter.unusedSimpArgs false
set_option linter.unusedVariables false
namespace Go.Proofs.Ytggcboejdihdiaa.Gm
open Go Go.RowKit

abbrev cA : ByteArray := ⟨#[97]⟩
abbrev cB : ByteArray := ⟨#[98]⟩
abbrev cS : ByteArray := ⟨#[115]⟩
abbrev lA : List UInt8 := [97]
abbrev lB : List UInt8 := [98]
abbrev lS : List UInt8 := [115]
abbrev sAb : ByteArray := ⟨#[97, 98]⟩
abbrev sAc : ByteArray := ⟨#[97, 99]⟩
abbrev sX : ByteArray := ⟨#[120]⟩
abbrev sX0 : ByteArray := ⟨#[120, 0]⟩
/-- A constraint of a value. -/
abbrev cv (nm : ByteArray) (op : Int) (v : Vl) : Cn := ⟨nm, op, v, none, 0, []⟩
theorem names_one (c : Cn) : namesP [c] = [c.nm.data.toList] := by
  simp [namesP, Lib.compact, Lib.compactUpTo, Lib.keeps, List.range, List.range.loop]
theorem names_two (c d : Cn) (h : d.nm = c.nm) : namesP [c, d] = [c.nm.data.toList] := by
  have e : (([c, d].map fun c => c.nm.data.toList).mergeSort fun x y => decide (x ≤ y)) = [c.nm.data.toList, c.nm.data.toList] := by
    simp only [List.map_cons, List.map_nil, h]
    simp [List.mergeSort, List.MergeSort.Internal.splitInTwo]
  unfold namesP
  rw [e]
  simp [Lib.compact, Lib.compactUpTo, Lib.keeps, List.range, List.range.loop]
theorem names_none : namesP [] = [] := by simp [namesP, Lib.compact, Lib.compactUpTo, List.range, List.range.loop]
theorem may_num (n : Int) : mayVl (numV n) = true := by simp [mayVl, numV, mayB, empty_toList]
theorem may_str (s : ByteArray) (h : s.size ≤ 32) : mayVl (strV s) = true := by simp [mayVl, strV, mayB, h]
theorem may_boo (b : Bool) : mayVl (booV b) = true := by simp [mayVl, booV, mayB, empty_toList]
theorem may_cv {nm : ByteArray} {op : Int} {v : Vl} (h1 : 1 ≤ nm.size) (h2 : nm.size ≤ 16) (h3 : 2 ≤ op ∧ op ≤ 7) (hv : mayVl v = true) : mayCn (cv nm op v) = true := by
  have e1 : ¬ op = 1 := by omega
  have e9 : ¬ op = 9 := by omega
  simp [mayCn, mayOp, h1, h2, e1, e9, h3, hv]
theorem may_c8 {nm : ByteArray} {v : Vl} (h1 : 1 ≤ nm.size) (h2 : nm.size ≤ 16) (hv : mayVl v = true) (hk : v.k = 2) : mayCn (cv nm 8 v) = true := by
  simp [mayCn, mayOp, h1, h2, hv, hk]
theorem may_c1 {nm : ByteArray} (h1 : 1 ≤ nm.size) (h2 : nm.size ≤ 16) : mayCn (cv nm 1 default) = true := by
  simp [mayCn, mayOp, h1, h2, bareB, eqlVal, show (default : Vl) = ⟨0, 0, ⟨#[]⟩, false⟩ from rfl]
theorem may_c9 {nm : ByteArray} {p : Option Addr} {c : Nat} {l : List Vl} (h1 : 1 ≤ nm.size) (h2 : nm.size ≤ 16) (hl : maySt l = true) : mayCn ⟨nm, 9, default, p, c, l⟩ = true := by
  simp [mayCn, mayOp, h1, h2, hl, bareB, eqlVal, show (default : Vl) = ⟨0, 0, ⟨#[]⟩, false⟩ from rfl]
theorem may_p1 {c : Cn} (h : mayCn c = true) : mayPr [c] = true := by simp [mayPr, h]
theorem may_p2 {c d : Cn} (h : mayCn c = true) (k : mayCn d = true) : mayPr [c, d] = true := by simp [mayPr, h, k]
/-- Covering, once the names are known. -/
def covE (p q : List Cn) (np nq : List (List UInt8)) : Bool := (nq.any fun n => emptyR (askedR q n)) || !(np.any fun n => !nq.contains n || !withinR (askedR q n) (askedR p n))
theorem cov_eval {p q : List Cn} {np nq : List (List UInt8)} {b : Bool} (h1 : mayPr p = true) (h2 : mayPr q = true) (hp : namesP p = np) (hq : namesP q = nq) (h : covE p q np nq = b) : coversB p q = b := by
  rw [← h]
  unfold coversB nothingB withinE beyondB covE
  rw [h1, h2, hp, hq]
  rfl
end Go.Proofs.Ytggcboejdihdiaa.Gm
