/- Layer 10: rows of calls in memory; of what kinds a call's answers are. -/
import Derived.Test.YtnhdnmlclnndoaaDlc
import Derived.Test.YtnhdnmlclnndoaaGr
set_option linter.unusedSimpArgs false
set_option linter.unusedVariables false
namespace Go.Proofs.Ytnhdnmlclnndoaa.Gm
open Go Go.RowKit Go.Maps

/-- A call of a row, as it lies there. -/
structure Act10 where
  a : ActP
  vb : Value
  vp : Value
instance : Inhabited Act10 := ⟨⟨⟨0, [], [], [], 0, []⟩, .slice none 0 0, .slice none 0 0⟩⟩
def encA10 (x : Act10) : List Value := [.int .i64 x.a.what, encStr x.a.nm, encStr x.a.ot, x.vb, .int .i64 x.a.n, x.vp]
def Acts (W : World) (v : Value) (l : List Act10) : Prop := RowIn encA10 6 W v l ∧ l.length ≤ 1599289640401 ∧ ∀ x ∈ l, ActIn W x.vb x.vp x.a
theorem cell_act10 {W : World} {v : Value} {l : List Act10} (h : Acts W v l) {i : Nat} (hi : i < l.length) : ∃ p cap b o, v = .slice p l.length cap ∧ p = some ⟨b, o, none⟩ ∧ b < W.heap.size ∧ W.cell? ⟨b, o + i * 6, none⟩ = some (.int .i64 (l.getD i default).a.what) ∧ W.cell? ⟨b, o + i * 6 + 1, none⟩ = some (encStr (l.getD i default).a.nm) ∧ W.cell? ⟨b, o + i * 6 + 2, none⟩ = some (encStr (l.getD i default).a.ot) ∧ W.cell? ⟨b, o + i * 6 + 3, none⟩ = some (l.getD i default).vb ∧ W.cell? ⟨b, o + i * 6 + 4, none⟩ = some (.int .i64 (l.getD i default).a.n) ∧ W.cell? ⟨b, o + i * 6 + 5, none⟩ = some (l.getD i default).vp ∧ ActIn W (l.getD i default).vb (l.getD i default).vp (l.getD i default).a := by
  obtain ⟨p, cap, b, o, h1, _, h3, _, h5⟩ := h.1
  have hl : l ≠ [] := by rintro rfl; simp at hi
  have hm : l.getD i default ∈ l := by rw [List.getD_eq_getElem?_getD, List.getElem?_eq_getElem hi]; exact List.getElem_mem hi
  exact ⟨p, cap, b, o, h1, (h3 hl).1, (h3 hl).2, h5 i hi 0 _ rfl, h5 i hi 1 _ rfl, h5 i hi 2 _ rfl, h5 i hi 3 _ rfl, h5 i hi 4 _ rfl, h5 i hi 5 _ rfl, h.2.2 _ hm⟩
theorem Acts.form {W : World} {v : Value} {l : List Act10} (h : Acts W v l) : ∃ p cap, v = .slice p l.length cap := by
  obtain ⟨p, cap, _, _, h1, _⟩ := h.1
  exact ⟨p, cap, h1⟩
theorem idx_a10 (p : Option Addr) (b o n cap k : Nat) (hp : p = some ⟨b, o, none⟩) (hk : k < n) (W : World) : (Instr.indexAt 22 (.slice p n cap) (.int .i64 (k : Int))).run Try.prog W = .ok (.pointer (some ⟨b, o + k * 6, none⟩)) W := by subst hp; go_simp
/-- Of what kinds a change's answers are. -/
theorem run_kinds (V : View) (q fu : Int) (c0 : Int) (V' : View) (hc : c0 = 0 ∨ c0 = 1 ∨ c0 = 6 ∨ c0 = 7 ∨ c0 = 9) :
    (∃ c, c ≠ 0 ∧ c ≠ 8 ∧ ofOut q (offV V fu false (runV V fu c0 V')) = ⟨c, V, q, fu, false⟩) ∨ (fu = 0 ∧ ofOut q (offV V fu false (runV V fu c0 V')) = ⟨8, V, q, -1, true⟩) ∨ (fu ≠ 0 ∧ ∃ V2, ofOut q (offV V fu false (runV V fu c0 V')) = ⟨0, V2, q, fuseN fu, false⟩) := by
  unfold offV runV
  simp only [Bool.false_eq_true, if_false]
  by_cases h0 : c0 = 0
  · rw [if_pos h0]
    by_cases hf : fu = 0
    · rw [if_pos hf]; exact .inr (.inl ⟨hf, rfl⟩)
    · rw [if_neg hf]; exact .inr (.inr ⟨hf, V', rfl⟩)
  · rw [if_neg h0]
    exact .inl ⟨c0, h0, by omega, rfl⟩
theorem act_kinds (V : View) (q fu : Int) (a : ActP) (h : 0 ≤ a.what ∧ a.what ≤ 5) :
    (∃ c, c ≠ 0 ∧ c ≠ 8 ∧ actO V q fu false a = ⟨c, V, q, fu, false⟩) ∨ (fu = 0 ∧ actO V q fu false a = ⟨8, V, q, -1, true⟩) ∨ (fu ≠ 0 ∧ ∃ V2, actO V q fu false a = ⟨0, V2, q, fuseN fu, false⟩) := by
  obtain ⟨what, nm, ot, b, n, P⟩ := a
  have hw : what = 0 ∨ what = 1 ∨ what = 2 ∨ what = 3 ∨ what = 4 ∨ what = 5 := by simp only at h; omega
  rcases hw with rfl | rfl | rfl | rfl | rfl | rfl
  · rw [actO_0]; refine run_kinds _ _ _ _ _ ?_; unfold createC; (repeat' split) <;> simp
  · rw [actO_1]; refine run_kinds _ _ _ _ _ ?_; unfold appendC; (repeat' split) <;> simp
  · rw [actO_2]; refine run_kinds _ _ _ _ _ ?_; unfold lackC; (repeat' split) <;> simp
  · rw [actO_3]; refine run_kinds _ _ _ _ _ ?_; unfold renameC; (repeat' split) <;> simp
  · rw [actO_4]; refine run_kinds _ _ _ _ _ ?_; unfold truncC; (repeat' split) <;> simp
  · rw [actO_5]; refine run_kinds _ _ _ _ _ ?_; unfold lackC; (repeat' split) <;> simp
end Go.Proofs.Ytnhdnmlclnndoaa.Gm
