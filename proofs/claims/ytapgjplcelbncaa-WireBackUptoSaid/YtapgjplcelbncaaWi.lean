/- Rows of things that come in, opened. -/
import Derived.Test.YtapgjplcelbncaaWd
set_option linter.unusedSimpArgs false
set_option linter.unusedVariables false
namespace Go.Proofs.Ytapgjplcelbncaa
open Go Go.ChangeShapes Go.WideShapes Go.ChangeAt Go.RowKit Go.Deep Gm

section
variable {H : Type} {enc : TypeId × Value → H} {W : World} {base : Nat} {spare : Nat → Bool} {held : Bool}
theorem cellsT : Try.prog.cellsOf 59 = 3 := by kernel_rfl
def QT (W : World) (a : TV) (d : DataW H) : Prop := Bs W a.v a.x.b ∧ a.x.n < 18446744073709551616 ∧ a.x.b.length ≤ Rows.uptoBulk d
set_option maxRecDepth 100000 in
theorem thing_of {fuel : Nat} {cs : List Value} {x : DataW H × List MemPlace} (hl : cs.length = 3) (h : DataW.trod enc Try.prog W base spare held fuel 59 cs = some x) :
    ∃ a : TV, cs = encT a ∧ QT W a x.1 := by
  obtain ⟨xs, n, rfl, rfl, hlen, hxs, hf⟩ := DataW.trod_struct Try.underlying59 h
  match cs, hl with
  | [c0, c1, c2], _ =>
    match xs, hxs with
    | [y0, y1, y2], _ =>
      obtain ⟨a, e0, _, w0⟩ := DataW.trod_int Try.underlying3 (x := y0) (cs := [c0]) (hf 0 _ rfl)
      obtain ⟨m, e1, _, w1⟩ := DataW.trod_int Try.underlying23 (x := y1) (cs := [c1]) (hf 1 _ rfl)
      obtain ⟨L, hB, hLl⟩ := open_bsF (x := y2) (v := c2) (hf 2 _ rfl)
      simp only [List.cons.injEq, and_true] at e0 e1
      subst e0 e1
      simp only [Lit.wf, Bool.and_eq_true, decide_eq_true_eq] at w1
      have k1 : 0 ≤ m ∧ m ≤ 18446744073709551615 := ⟨w1.1, w1.2⟩
      have hb := bulk_elems y2.1
      have hn := bulk_len (elemsOf y2.1)
      refine ⟨⟨⟨a, m.toNat, L⟩, c2⟩, by simp only [encT]; rw [Int.toNat_of_nonneg k1.1], hB, by simp only; omega, ?_⟩
      simp only [Rows.uptoBulk, Rows.uptoBulkAll, List.map_cons, List.map_nil]
      omega
theorem open_things {b0 : Nat} {v : Value} {d : DataW H} {p : List MemPlace} (hv : Value.okWide Try.prog W .any b0 56 v) (h : DataW.Trod enc Try.prog W base spare held 56 v d p) (hd : Rows.uptoBulk d ≤ 1048576) : ∃ l : List TV, Th W v l ∧ sizeT ((l.take 60).map (·.x)) ≤ 100000000 := by
  obtain ⟨a0, len, cap, rfl⟩ := okWide_slice Try.underlying56 hv
  obtain ⟨fuel, hf⟩ := h
  obtain ⟨n, f, D, hR, hD, hQ⟩ := open_rowG (α := TV) (x := (d, p)) Try.underlying56 3 cellsT (by decide) encT (QT W) (fun fuel cs y hl hy => thing_of hl hy) hf
  refine ⟨(List.range n).map f, ⟨hR, fun i hi => ?_⟩, ?_⟩
  · have hin : i < n := by simpa using hi
    have hg : ((List.range n).map f).getD i default = f i := by simp [hin]
    rw [hg]
    exact ⟨(hQ i hin).1, (hQ i hin).2.1⟩
  · have h1 := bulk_sum (f := f) (D := D) (fun a => a.x.b.length) n (fun i hi => (hQ i hi).2.2)
    have h2 := bulk_elems d
    rw [hD] at h2
    have h3 : ∀ l : List TV, sizeT (l.map (·.x)) = 10 * l.length + (l.map fun a => a.x.b.length).sum := fun l => by
      induction l with
      | nil => simp [sizeT]
      | cons a r ih =>
        simp only [sizeT, List.map_cons, List.sum_cons, List.length_cons] at ih ⊢
        omega
    have h4 : ∀ (l : List TV) (k : Nat), ((l.take k).map fun a => a.x.b.length).sum ≤ (l.map fun a => a.x.b.length).sum := fun l k => by
      have := List.take_append_drop k (l.map fun a => a.x.b.length)
      rw [← List.map_take] at this
      rw [← this, List.sum_append_nat]
      omega
    rw [h3]
    have h5 := h4 ((List.range n).map f) 60
    have h6 : (((List.range n).map f).take 60).length ≤ 60 := by rw [List.length_take]; omega
    omega
theorem open_u16 {b0 : Nat} {v : Value} {d : DataW H} {p : List MemPlace} (hv : Value.okWide Try.prog W .any b0 57 v) (h : DataW.Trod enc Try.prog W base spare held 57 v d p) : ∃ n : Nat, v = .int .u16 n ∧ n < 65536 := by
  obtain ⟨n, rfl, _, _, hwf⟩ := open_int Try.underlying57 hv h
  have hb : 0 ≤ n ∧ n ≤ 65535 := by
    simp only [Lit.wf, Bool.and_eq_true, decide_eq_true_eq] at hwf
    exact ⟨hwf.1, hwf.2⟩
  exact ⟨n.toNat, by congr 1; omega, by omega⟩
end
end Go.Proofs.Ytapgjplcelbncaa
