/- Bytes and small numbers that come in as arguments, opened. -/
import Derived.Test.YtnolpglgabemfaaKop
import Derived.Test.YtnolpglgabemfaaGb
set_option linter.unusedSimpArgs false
set_option linter.unusedVariables false
namespace Go.Proofs.Ytnolpglgabemfaa.Gm
open Go Go.ChangeShapes Go.WideShapes Go.ChangeAt Go.RowKit Go.Deep

section
variable {H : Type} {enc : TypeId × Value → H} {W : World} {base : Nat} {spare : Nat → Bool} {held : Bool}
/-- A byte's cell. -/
theorem byte_of {fuel : Nat} {cs : List Value} {y : DataW H × List MemPlace} (h : DataW.trod enc Try.prog W base spare held fuel 5 cs = some y) : ∃ c : UInt8, cs = [byteV c] := by
  obtain ⟨k, e1, _, w1⟩ := DataW.trod_int Try.underlying5 h
  have hb : 0 ≤ k ∧ k ≤ 255 := by
    simp only [Lit.wf, Bool.and_eq_true, decide_eq_true_eq] at w1
    exact ⟨w1.1, w1.2⟩
  refine ⟨UInt8.ofNat k.toNat, ?_⟩
  rw [e1]
  simp [UInt8.toNat_ofNat']
  omega
/-- Bytes that come in. -/
theorem open_bsF {fuel : Nat} {v : Value} {x : DataW H × List MemPlace} (h : DataW.trod enc Try.prog W base spare held fuel 25 [v] = some x) : ∃ L : List UInt8, Bs W v L ∧ L.length = (elemsOf x.1).length := by
  obtain ⟨len, f, D, ⟨p, cap, b, o, h1, h2, h3, h4, h5⟩, hD, _⟩ := open_rowG (α := UInt8) Try.underlying25 1 (by kernel_rfl) (by decide) (fun c => [byteV c]) (fun _ _ => True) (fun fuel cs y _ hy => by obtain ⟨c, hc⟩ := byte_of hy; exact ⟨c, hc, trivial⟩) h
  refine ⟨(List.range len).map f, ?_, by rw [hD]; simp⟩
  subst h1
  cases p with
  | none =>
    have hl : (List.range len).map f = [] := by
      by_cases hl : (List.range len).map f = []
      · exact hl
      · have := (h3 hl).1; cases this
    rw [hl]
    rw [hl] at h4
    have := h4 rfl rfl
    subst this
    exact Bs.nil _
  | some a =>
    refine .inr ⟨a, cap, rfl, h2, fun hl => ?_⟩
    obtain ⟨ha, hb⟩ := h3 hl
    simp only [Option.some.injEq] at ha
    refine ⟨b, o, ha, hb, fun i hi => ?_⟩
    have := h5 i hi 0 _ rfl
    rw [Nat.mul_one, Nat.add_zero] at this
    exact this
set_option maxRecDepth 100000 in
theorem open_bs {b0 : Nat} {v : Value} {d : DataW H} {p : List MemPlace} (hv : Value.okWide Try.prog W .any b0 25 v) (h : DataW.Trod enc Try.prog W base spare held 25 v d p) : ∃ L : List UInt8, Bs W v L ∧ L.length = (elemsOf d).length := by
  obtain ⟨a0, len, cap, rfl⟩ := okWide_slice Try.underlying25 hv
  obtain ⟨fuel, hf⟩ := h
  exact open_bsF (x := (d, p)) hf
/-- How many elements a slice of bytes can have. -/
theorem reach_bs {d : DataW H} (hw : ∀ n ∈ d.weights Try.prog 25, n ≤ reachBytes) : (elemsOf d).length ≤ 140737488351232 := by
  have hR : reachBytes = 140737488351232 := by decide
  cases d with
  | slice es sp =>
    have := hw ((es.length + sp.length) * Try.prog.bytesOf 5) (by simp [DataW.weights, Try.underlying25])
    have hb : Try.prog.bytesOf 5 = 1 := by kernel_rfl
    rw [hb] at this
    simp only [elemsOf]
    omega
  | _ => simp [elemsOf]
set_option maxRecDepth 100000 in
theorem open_u8 {b0 : Nat} {v : Value} {d : DataW H} {p : List MemPlace} (hv : Value.okWide Try.prog W .any b0 5 v) (h : DataW.Trod enc Try.prog W base spare held 5 v d p) : ∃ n : Nat, v = .int .u8 n ∧ n < 256 := by
  obtain ⟨n, rfl, _, _, hwf⟩ := open_int Try.underlying5 hv h
  have hb : 0 ≤ n ∧ n ≤ 255 := by
    simp only [Lit.wf, Bool.and_eq_true, decide_eq_true_eq] at hwf
    exact ⟨hwf.1, hwf.2⟩
  exact ⟨n.toNat, by congr 1; omega, by omega⟩
set_option maxRecDepth 100000 in
theorem open_u16 {b0 : Nat} {v : Value} {d : DataW H} {p : List MemPlace} (hv : Value.okWide Try.prog W .any b0 73 v) (h : DataW.Trod enc Try.prog W base spare held 73 v d p) : ∃ n : Nat, v = .int .u16 n ∧ n < 65536 := by
  obtain ⟨n, rfl, _, _, hwf⟩ := open_int Try.underlying73 hv h
  have hb : 0 ≤ n ∧ n ≤ 65535 := by
    simp only [Lit.wf, Bool.and_eq_true, decide_eq_true_eq] at hwf
    exact ⟨hwf.1, hwf.2⟩
  exact ⟨n.toNat, by congr 1; omega, by omega⟩
end
end Go.Proofs.Ytnolpglgabemfaa.Gm
