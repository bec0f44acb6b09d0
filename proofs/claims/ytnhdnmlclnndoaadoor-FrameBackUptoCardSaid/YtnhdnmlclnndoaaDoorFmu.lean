/- Layer 11: parts of rows of records; the walk of FrameMore. -/
import Derived.Test.YtnhdnmlclnndoaaDoorFmt
set_option linter.unusedSimpArgs false
set_option linter.unusedVariables false
namespace Go.Proofs.YtnhdnmlclnndoaaDoor.Crc
open Go Go.RowKit Gm
attribute [local go_sem ↓] Go.wp_at_zero Go.wp_at_succ

theorem cells_sl : Tryd.prog.cellsOf 22 = 1 := by kernel_rfl
/-- Rows of records of a call's own, cut. -/
theorem row_upto {w : World} {base n c k : Nat} {p : Option Addr} {xs : List Fx} (h : w.ownsRow base 22 1 (.slice p n c) n (xs.map Fx.v)) (hn : xs.length = n) (hr : ∀ x ∈ xs, Bs w x.v x.r) (hk : k ≤ n) : (∀ W, (Instr.slice 31 (.slice p n c) none (some (.int .i64 (k : Int))) none).run Tryd.prog W = .ok (.slice p k c) W) ∧ RowR w (.slice p k c) ((xs.take k).map Fx.r) := by
  have hlen : ((xs.take k).map Fx.r).length = k := by rw [List.length_map, List.length_take]; omega
  have hR : RowR w (.slice p n c) (xs.map Fx.r) := rowR_own (by rw [hn]; exact h) hr
  refine ⟨fun W => ?_, p, c, by rw [hlen], fun i hi => ?_⟩
  · rcases h.2 with ⟨e, h0⟩ | ⟨g, cap, cur, e, _, _, h2, _⟩
    · simp only [Value.slice.injEq] at e
      obtain ⟨rfl, rfl, rfl⟩ := e
      obtain rfl : k = 0 := by omega
      go_simp
    · simp only [Value.slice.injEq] at e
      obtain ⟨rfl, -, rfl⟩ := e
      have h1 : (k : Int) ≤ (c : Int) := by omega
      have h2 : k ≤ c := by omega
      go_simp
  · rw [hlen] at hi
    obtain ⟨p1, c1, e, h2⟩ := hR
    simp only [Value.slice.injEq] at e
    obtain ⟨rfl, _, _⟩ := e
    obtain ⟨b, o, vj, h3, h4, h5, h6⟩ := h2 i (by rw [List.length_map]; omega)
    refine ⟨b, o, vj, h3, h4, h5, ?_⟩
    rw [List.getD_eq_getElem?_getD, List.getElem?_map] at h6 ⊢
    rw [List.getElem?_take, if_pos hi]
    exact h6
theorem row_from {w : World} {base n c k : Nat} {p : Option Addr} {xs : List Fx} (h : w.ownsRow base 22 1 (.slice p n c) n (xs.map Fx.v)) (hn : xs.length = n) (hr : ∀ x ∈ xs, Bs w x.v x.r) (hk : k ≤ n) : ∃ q d, (∀ W, (Instr.slice 31 (.slice p n c) (some (.int .i64 (k : Int))) none none).run Tryd.prog W = .ok (.slice q (n - k) d) W) ∧ RowR w (.slice q (n - k) d) ((xs.drop k).map Fx.r) := by
  have hlen : ((xs.drop k).map Fx.r).length = n - k := by rw [List.length_map, List.length_drop]; omega
  have hR : RowR w (.slice p n c) (xs.map Fx.r) := rowR_own (by rw [hn]; exact h) hr
  rcases h.2 with ⟨e, h0⟩ | ⟨g, cap, cur, e, hbb, hh, h2, _⟩
  · simp only [Value.slice.injEq] at e
    obtain ⟨rfl, rfl, rfl⟩ := e
    obtain rfl : k = 0 := by omega
    exact ⟨none, 0, fun W => by go_simp, none, 0, by rw [hlen], fun i hi => by rw [hlen] at hi; omega⟩
  · simp only [Value.slice.injEq] at e
    obtain ⟨rfl, -, rfl⟩ := e
    have h1 : (k : Int) ≤ (c : Int) := by omega
    have h5 : k ≤ c := by omega
    have h6 : ¬ ((n : Int) < (k : Int)) := by omega
    have h7 : ¬ (c < n) := by omega
    have h8 : k * 1 = k := Nat.mul_one k
    have hcl := cells_sl
    refine ⟨if c = k then some ⟨g, 0, none⟩ else some ((⟨g, 0, none⟩ : Addr).add k), c - k, fun W => ?_, _, _, by rw [hlen], fun i hi => ?_⟩
    · by_cases hc : c = k
      · have h9 : (c : Int) = (k : Int) := by omega
        go_simp
      · have h9 : ¬ ((c : Int) = (k : Int)) := by omega
        go_simp
    · rw [hlen] at hi
      obtain ⟨p1, c1, e, h2'⟩ := hR
      simp only [Value.slice.injEq] at e
      obtain ⟨rfl, _, _⟩ := e
      obtain ⟨b, o, vj, h3, h4, h5', h6'⟩ := h2' (k + i) (by rw [List.length_map]; omega)
      simp only [Option.some.injEq, Addr.mk.injEq, and_true] at h3
      obtain ⟨rfl, rfl⟩ := h3
      refine ⟨g, k, vj, ?_, h4, by rw [Nat.zero_add] at h5'; exact h5', ?_⟩
      · rw [if_neg (by omega), add0_11]
      · rw [List.getD_eq_getElem?_getD, List.getElem?_map] at h6' ⊢
        rw [List.getElem?_drop]
        exact h6'
end Go.Proofs.YtnhdnmlclnndoaaDoor.Crc
