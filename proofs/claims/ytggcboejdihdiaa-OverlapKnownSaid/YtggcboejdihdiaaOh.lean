/- The chapter's examples of package overlap, by plain functions. -/
import Derived.Test.YtggcboejdihdiaaOg
set_option linter.unusedSimpArgs false
set_option linter.unusedVariables false
namespace Go.Proofs.Ytggcboejdihdiaa.Gm
open Go Go.RowKit

theorem names_ab {c d : Cn} (h : c.nm.data.toList = lA) (k : d.nm.data.toList = lB) : namesP [c, d] = [lA, lB] := by
  have e : (([c, d].map fun c => c.nm.data.toList).mergeSort fun x y => decide (x ≤ y)) = [lA, lB] := by
    simp only [List.map_cons, List.map_nil, h, k]
    simp [List.mergeSort, List.MergeSort.Internal.splitInTwo, List.merge]
    decide
  unfold namesP
  rw [e]
  simp [Lib.compact, Lib.compactUpTo, Lib.keeps, List.range, List.range.loop]
theorem names_abba {c d f g : Cn} (h : c.nm.data.toList = lA) (k : d.nm.data.toList = lB) (i : f.nm.data.toList = lB) (j : g.nm.data.toList = lA) : namesP [c, d, f, g] = [lA, lB] := by
  have ab : lA ≤ lB := by decide
  have ba : ¬ lB ≤ lA := by decide
  have e : (([c, d, f, g].map fun c => c.nm.data.toList).mergeSort fun x y => decide (x ≤ y)) = [lA, lA, lB, lB] := by
    simp only [List.map_cons, List.map_nil, h, k, i, j]
    simp [List.mergeSort, List.MergeSort.Internal.splitInTwo]
    simp [List.merge, ab, ba, List.le_refl]
  unfold namesP
  rw [e]
  simp [Lib.compact, Lib.compactUpTo, Lib.keeps, List.range, List.range.loop]
theorem over_eval {p q : List Cn} {np : List (List UInt8)} {b : Bool} (h1 : mayPr p = true) (h2 : mayPr q = true) (hp : namesP (p ++ q) = np) (h : (np.all fun n => (someR (bothR p q n)).2) = b) : overB p q = b := by
  rw [← h]
  unfold overB namesB
  rw [h1, h2, hp]
  rfl
def o5 : List Cn := [cv cA 6 (numV 5)]
def o7 : List Cn := [cv cA 4 (numV 7)]
def o6 : List Cn := [cv cA 4 (numV 6)]
def oe : List Cn := [cv cA 2 (numV 1)]
def oh : List Cn := [cv cA 1 default]
def ox : List Cn := [cv cB 2 (strV sX)]
def op : List Cn := [cv cS 8 (strV sAb)]
def ol : List Cn := [cv cS 4 (strV sAb)]
def oc : List Cn := [cv cS 8 (strV ⟨#[97, 98, 99]⟩)]
def ob : List Cn := [cv cB 8 (strV sX)]
def on : List Cn := [cv cA 2 (numV 1), cv cA 2 (numV 2)]
def oA : List Cn := [cv cA 6 (numV 5), cv cB 1 default]
def oB : List Cn := [cv cB 2 (numV 1), cv cA 4 (numV 3)]
theorem may_o5 : mayPr o5 = true := may_p1 (may_cv (by decide) (by decide) (by decide) (may_num _))
theorem may_o7 : mayPr o7 = true := may_p1 (may_cv (by decide) (by decide) (by decide) (may_num _))
theorem may_o6 : mayPr o6 = true := may_p1 (may_cv (by decide) (by decide) (by decide) (may_num _))
theorem may_oe : mayPr oe = true := may_p1 (may_cv (by decide) (by decide) (by decide) (may_num _))
theorem may_oh : mayPr oh = true := may_p1 (may_c1 (by decide) (by decide))
theorem may_ox : mayPr ox = true := may_p1 (may_cv (by decide) (by decide) (by decide) (may_str _ (by decide)))
theorem may_op : mayPr op = true := may_p1 (may_c8 (by decide) (by decide) (may_str _ (by decide)) rfl)
theorem may_ol : mayPr ol = true := may_p1 (may_cv (by decide) (by decide) (by decide) (may_str _ (by decide)))
theorem may_oc : mayPr oc = true := may_p1 (may_c8 (by decide) (by decide) (may_str _ (by decide)) rfl)
theorem may_ob : mayPr ob = true := may_p1 (may_c8 (by decide) (by decide) (may_str _ (by decide)) rfl)
theorem may_on : mayPr on = true := may_p2 (may_cv (by decide) (by decide) (by decide) (may_num _)) (may_cv (by decide) (by decide) (by decide) (may_num _))
theorem may_oA : mayPr oA = true := may_p2 (may_cv (by decide) (by decide) (by decide) (may_num _)) (may_c1 (by decide) (by decide))
theorem may_oB : mayPr oB = true := may_p2 (may_cv (by decide) (by decide) (by decide) (may_num _)) (may_cv (by decide) (by decide) (by decide) (may_num _))
theorem y_1 : overB o5 o7 = true := over_eval may_o5 may_o7 (names_two _ _ rfl) (by kernel_rfl)
theorem y_2 : overB o5 o6 = false := over_eval may_o5 may_o6 (names_two _ _ rfl) (by kernel_rfl)
theorem y_3 : overB oe ox = true := over_eval may_oe may_ox (names_ab rfl rfl) (by kernel_rfl)
theorem y_4 : overB oe oh = true := over_eval may_oe may_oh (names_two _ _ rfl) (by kernel_rfl)
theorem y_5 : overB op ol = false := over_eval may_op may_ol (names_two _ _ rfl) (by kernel_rfl)
theorem y_6 : overB op oc = true := over_eval may_op may_oc (names_two _ _ rfl) (by kernel_rfl)
theorem y_7 : overB o5 [] = true := over_eval may_o5 rfl (names_one _) (by kernel_rfl)
theorem y_8 : overB on [] = false := over_eval may_on rfl (names_two _ _ rfl) (by kernel_rfl)
theorem y_9 : overB o5 ob = true := over_eval may_o5 may_ob (names_ab rfl rfl) (by kernel_rfl)
theorem y_ex : exL o5 ob = [lA, lB] := by unfold exL; rw [y_9, if_pos rfl]; exact names_ab rfl rfl
theorem y_a : (someR (bothR o5 ob lA)).1 = numV 6 := by kernel_rfl
theorem y_b : (someR (bothR o5 ob lB)).1.s.data.toList = [120] := by kernel_rfl
theorem y_ap : apR oA oB = some lA := by
  unfold apR
  rw [if_pos (by rw [may_oA, may_oB]; rfl)]
  unfold apartB namesB
  rw [show oA ++ oB = [cv cA 6 (numV 5), cv cB 1 default, cv cB 2 (numV 1), cv cA 4 (numV 3)] from rfl, names_abba rfl rfl rfl rfl]
  have h : emptyR (bothR oA oB lA) = true := by kernel_rfl
  rw [List.find?_cons, h]
end Go.Proofs.Ytggcboejdihdiaa.Gm
