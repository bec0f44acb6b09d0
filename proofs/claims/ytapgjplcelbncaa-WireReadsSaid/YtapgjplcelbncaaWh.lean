/- Rows of calls that come in, opened. -/
import Derived.Test.YtapgjplcelbncaaWe
import Derived.Test.YtapgjplcelbncaaGr
set_option linter.unusedSimpArgs false
set_option linter.unusedVariables false
namespace Go.Proofs.Ytapgjplcelbncaa
open Go Go.ChangeShapes Go.WideShapes Go.ChangeAt Go.RowKit Go.Deep Gm

section
variable {H : Type} {enc : TypeId × Value → H} {W : World} {base : Nat} {spare : Nat → Bool} {held : Bool}
def encC (c : CallV) : List Value := [.int .i64 c.what, .int .i64 c.atv, .int .u64 (c.most : Nat)]
theorem cellsC : Try.prog.cellsOf 39 = 3 := by kernel_rfl
set_option maxRecDepth 100000 in
theorem call_of {fuel : Nat} {cs : List Value} {x : DataW H × List MemPlace} (hl : cs.length = 3) (h : DataW.trod enc Try.prog W base spare held fuel 39 cs = some x) :
    ∃ c : CallV, cs = encC c ∧ (-9223372036854775808 ≤ c.what ∧ c.what ≤ 9223372036854775807) ∧ (-9223372036854775808 ≤ c.atv ∧ c.atv ≤ 9223372036854775807) ∧ c.most < 18446744073709551616 := by
  obtain ⟨xs, n, rfl, rfl, hlen, hxs, hf⟩ := DataW.trod_struct Try.underlying39 h
  match cs, hl with
  | [c0, c1, c2], _ =>
    match xs, hxs with
    | [y0, y1, y2], _ =>
      obtain ⟨a, e0, _, w0⟩ := DataW.trod_int Try.underlying3 (x := y0) (cs := [c0]) (hf 0 _ rfl)
      obtain ⟨b, e1, _, w1⟩ := DataW.trod_int Try.underlying3 (x := y1) (cs := [c1]) (hf 1 _ rfl)
      obtain ⟨m, e2, _, w2⟩ := DataW.trod_int Try.underlying23 (x := y2) (cs := [c2]) (hf 2 _ rfl)
      simp only [List.cons.injEq, and_true] at e0 e1 e2
      subst e0 e1 e2
      simp only [Lit.wf, Bool.and_eq_true, decide_eq_true_eq] at w0 w1 w2
      have k0 : -9223372036854775808 ≤ a ∧ a ≤ 9223372036854775807 := ⟨w0.1, w0.2⟩
      have k1 : -9223372036854775808 ≤ b ∧ b ≤ 9223372036854775807 := ⟨w1.1, w1.2⟩
      have k2 : 0 ≤ m ∧ m ≤ 18446744073709551615 := ⟨w2.1, w2.2⟩
      exact ⟨⟨a, b, m.toNat⟩, by simp only [encC]; rw [Int.toNat_of_nonneg k2.1], k0, k1, by simp only; omega⟩
theorem open_calls {b0 : Nat} {v : Value} {d : DataW H} {p : List MemPlace} (hv : Value.okWide Try.prog W .any b0 32 v) (h : DataW.Trod enc Try.prog W base spare held 32 v d p) : ∃ l : List CallV, Cl W v l := by
  obtain ⟨a0, len, cap, rfl⟩ := okWide_slice Try.underlying32 hv
  obtain ⟨fuel, hf⟩ := h
  obtain ⟨n, f, D, ⟨p', cap', b, o, h1, h2, h3, _, h5⟩, hD, hQ⟩ := open_rowG (α := CallV) (x := (d, p)) Try.underlying32 3 cellsC (by decide) encC (fun c _ => (-9223372036854775808 ≤ c.what ∧ c.what ≤ 9223372036854775807) ∧ (-9223372036854775808 ≤ c.atv ∧ c.atv ≤ 9223372036854775807) ∧ c.most < 18446744073709551616) (fun fuel cs y hl hy => call_of hl hy) hf
  refine ⟨(List.range n).map f, p', cap', b, o, h1, h3, fun i hi => ?_⟩
  have hin : i < n := by simpa using hi
  have hg : ((List.range n).map f).getD i default = f i := by simp [hin]
  have c0 := h5 i hi 0 _ (by rw [hg]; rfl)
  have c1 := h5 i hi 1 _ (by rw [hg]; rfl)
  have c2 := h5 i hi 2 _ (by rw [hg]; rfl)
  have q := hQ i hin
  rw [hg]
  exact ⟨c0, c1, c2, q.2.1.1, q.2.1.2, q.2.2⟩
end
end Go.Proofs.Ytapgjplcelbncaa
