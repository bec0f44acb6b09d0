/- The chapter's examples of package cover, by plain functions. -/
import Derived.Test.YtfjfdajachcnjaaCw
set_option linter.unusedSimpArgs false
set_option linter.unusedVariables false
namespace Go.Proofs.Ytfjfdajachcnjaa.Gm
open Go Go.RowKit

abbrev cA : ByteArray := ⟨#[97]⟩
abbrev cB : ByteArray := ⟨#[98]⟩
abbrev cS : ByteArray := ⟨#[115]⟩
abbrev lA : List UInt8 := [97]
abbrev lB : List UInt8 := [98]
abbrev lS : List UInt8 := [115]
abbrev sAb : ByteArray := ⟨#[97, 98]⟩
abbrev sAc : ByteArray := ⟨#[97, 99]⟩
abbrev sX : ByteArray := ⟨#[120]⟩
abbrev sX0 : ByteArray := ⟨#[120, 0]⟩
/-- A constraint of a value. -/
abbrev cv (nm : ByteArray) (op : Int) (v : Vl) : Cn := ⟨nm, op, v, none, 0, []⟩
theorem names_one (c : Cn) : namesP [c] = [c.nm.data.toList] := by
  simp [namesP, Lib.compact, Lib.compactUpTo, Lib.keeps, List.range, List.range.loop]
theorem names_two (c d : Cn) (h : d.nm = c.nm) : namesP [c, d] = [c.nm.data.toList] := by
  have e : (([c, d].map fun c => c.nm.data.toList).mergeSort fun x y => decide (x ≤ y)) = [c.nm.data.toList, c.nm.data.toList] := by
    simp only [List.map_cons, List.map_nil, h]
    simp [List.mergeSort, List.MergeSort.Internal.splitInTwo]
  unfold namesP
  rw [e]
  simp [Lib.compact, Lib.compactUpTo, Lib.keeps, List.range, List.range.loop]
theorem names_none : namesP [] = [] := by simp [namesP, Lib.compact, Lib.compactUpTo, List.range, List.range.loop]
theorem may_num (n : Int) : mayVl (numV n) = true := by simp [mayVl, numV, mayB, empty_toList]
theorem may_str (s : ByteArray) (h : s.size ≤ 32) : mayVl (strV s) = true := by simp [mayVl, strV, mayB, h]
theorem may_boo (b : Bool) : mayVl (booV b) = true := by simp [mayVl, booV, mayB, empty_toList]
theorem may_cv {nm : ByteArray} {op : Int} {v : Vl} (h1 : 1 ≤ nm.size) (h2 : nm.size ≤ 16) (h3 : 2 ≤ op ∧ op ≤ 7) (hv : mayVl v = true) : mayCn (cv nm op v) = true := by
  have e1 : ¬ op = 1 := by omega
  have e9 : ¬ op = 9 := by omega
  simp [mayCn, mayOp, h1, h2, e1, e9, h3, hv]
theorem may_c8 {nm : ByteArray} {v : Vl} (h1 : 1 ≤ nm.size) (h2 : nm.size ≤ 16) (hv : mayVl v = true) (hk : v.k = 2) : mayCn (cv nm 8 v) = true := by
  simp [mayCn, mayOp, h1, h2, hv, hk]
theorem may_c1 {nm : ByteArray} (h1 : 1 ≤ nm.size) (h2 : nm.size ≤ 16) : mayCn (cv nm 1 default) = true := by
  simp [mayCn, mayOp, h1, h2, bareB, eqlVal, show (default : Vl) = ⟨0, 0, ⟨#[]⟩, false⟩ from rfl]
theorem may_c9 {nm : ByteArray} {p : Option Addr} {c : Nat} {l : List Vl} (h1 : 1 ≤ nm.size) (h2 : nm.size ≤ 16) (hl : maySt l = true) : mayCn ⟨nm, 9, default, p, c, l⟩ = true := by
  simp [mayCn, mayOp, h1, h2, hl, bareB, eqlVal, show (default : Vl) = ⟨0, 0, ⟨#[]⟩, false⟩ from rfl]
theorem may_p1 {c : Cn} (h : mayCn c = true) : mayPr [c] = true := by simp [mayPr, h]
theorem may_p2 {c d : Cn} (h : mayCn c = true) (k : mayCn d = true) : mayPr [c, d] = true := by simp [mayPr, h, k]
/-- Covering, once the names are known. -/
def covE (p q : List Cn) (np nq : List (List UInt8)) : Bool := (nq.any fun n => emptyR (askedR q n)) || !(np.any fun n => !nq.contains n || !withinR (askedR q n) (askedR p n))
theorem cov_eval {p q : List Cn} {np nq : List (List UInt8)} {b : Bool} (h1 : mayPr p = true) (h2 : mayPr q = true) (hp : namesP p = np) (hq : namesP q = nq) (h : covE p q np nq = b) : coversB p q = b := by
  rw [← h]
  unfold coversB nothingB withinE beyondB covE
  rw [h1, h2, hp, hq]
  rfl
def five : List Cn := [cv cA 6 (numV 5)]
def seven : List Cn := [cv cA 6 (numV 7)]
def setP (g : Nat) : List Cn := [⟨cA, 9, default, some ⟨g, 0, none⟩, 2, [numV 6, numV 8]⟩]
def preP : List Cn := [cv cS 8 (strV sAb)]
def wideP : List Cn := [cv cS 7 (strV sAb), cv cS 4 (strV sAc)]
def neverP : List Cn := [cv cA 2 (numV 1), cv cA 2 (numV 2)]
def hasB' : List Cn := [cv cB 1 default]
def hasA' : List Cn := [cv cA 1 default]
def eqA1 : List Cn := [cv cA 2 (numV 1)]
def eqB1 : List Cn := [cv cB 2 (numV 1)]
theorem m_five : mayPr five = true := may_p1 (may_cv (by decide) (by decide) (by decide) (may_num 5))
theorem m_seven : mayPr seven = true := may_p1 (may_cv (by decide) (by decide) (by decide) (may_num 7))
theorem m_set (g : Nat) : mayPr (setP g) = true := may_p1 (may_c9 (by decide) (by decide) (by simp [maySt, may_num]))
theorem m_pre : mayPr preP = true := may_p1 (may_c8 (by decide) (by decide) (may_str _ (by decide)) rfl)
theorem m_wide : mayPr wideP = true := may_p2 (may_cv (by decide) (by decide) (by decide) (may_str _ (by decide))) (may_cv (by decide) (by decide) (by decide) (may_str _ (by decide)))
theorem m_never : mayPr neverP = true := may_p2 (may_cv (by decide) (by decide) (by decide) (may_num 1)) (may_cv (by decide) (by decide) (by decide) (may_num 2))
theorem m_hasB : mayPr hasB' = true := may_p1 (may_c1 (by decide) (by decide))
theorem m_hasA : mayPr hasA' = true := may_p1 (may_c1 (by decide) (by decide))
theorem m_eqA1 : mayPr eqA1 = true := may_p1 (may_cv (by decide) (by decide) (by decide) (may_num 1))
theorem m_eqB1 : mayPr eqB1 = true := may_p1 (may_cv (by decide) (by decide) (by decide) (may_num 1))
theorem m_none : mayPr [] = true := rfl
theorem n_five : namesP five = [lA] := names_one _
theorem n_seven : namesP seven = [lA] := names_one _
theorem n_set (g : Nat) : namesP (setP g) = [lA] := names_one _
theorem n_pre : namesP preP = [lS] := names_one _
theorem n_wide : namesP wideP = [lS] := names_two _ _ rfl
theorem n_never : namesP neverP = [lA] := names_two _ _ rfl
theorem n_hasB : namesP hasB' = [lB] := names_one _
theorem n_hasA : namesP hasA' = [lA] := names_one _
theorem n_eqA1 : namesP eqA1 = [lA] := names_one _
theorem n_eqB1 : namesP eqB1 = [lB] := names_one _
theorem x_1 : coversB five seven = true := cov_eval m_five m_seven n_five n_seven (by kernel_rfl)
theorem x_2 : coversB seven five = false := cov_eval m_seven m_five n_seven n_five (by kernel_rfl)
theorem x_3 (g : Nat) : coversB five (setP g) = true := cov_eval m_five (m_set g) n_five (n_set g) (by kernel_rfl)
theorem x_4 : coversB hasA' eqB1 = false := cov_eval m_hasA m_eqB1 n_hasA n_eqB1 (by kernel_rfl)
theorem x_5 : coversB preP wideP = true := cov_eval m_pre m_wide n_pre n_wide (by kernel_rfl)
theorem x_6 : coversB wideP preP = true := cov_eval m_wide m_pre n_wide n_pre (by kernel_rfl)
theorem x_7 : coversB seven neverP = true := cov_eval m_seven m_never n_seven n_never (by kernel_rfl)
theorem x_8 : coversB [] five = true := cov_eval m_none m_five names_none n_five (by kernel_rfl)
theorem x_9 : coversB hasB' eqA1 = false := cov_eval m_hasB m_eqA1 n_hasB n_eqA1 (by kernel_rfl)
theorem v_1 : (if emptyR (minusR (askedR five lA) (askedR seven lA)) then (someR (askedR five lA)).1 else (someR (minusR (askedR five lA) (askedR seven lA))).1) = numV 6 := by kernel_rfl
theorem v_2 : (if emptyR (minusR (askedR eqA1 lA) (askedR hasB' lA)) then (someR (askedR eqA1 lA)).1 else (someR (minusR (askedR eqA1 lA) (askedR hasB' lA))).1) = numV 1 := by kernel_rfl
theorem v_3 : mayCn (cv cA 6 (strV sX)) = true := may_cv (by decide) (by decide) (by decide) (may_str _ (by decide))
theorem v_4 : (someR (regC (cv cA 6 (strV sX)))).2 = true := by kernel_rfl
theorem v_5 : (someR (regC (cv cA 6 (strV sX)))).1.s.data.toList = [120, 0] := by kernel_rfl
end Go.Proofs.Ytfjfdajachcnjaa.Gm
