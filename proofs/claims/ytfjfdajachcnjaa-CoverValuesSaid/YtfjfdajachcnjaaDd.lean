/- CoverValues, whole. -/
import Derived.Test.YtfjfdajachcnjaaDc
namespace Go.Proofs.Ytfjfdajachcnjaa.Gm
open Go Go.RowKit
theorem law_cvalues (v0 v1 : Value) (l0 l1 : List Cn) (nm : ByteArray) (x : Vl) (w : World) (hC0 : Cs w v0 l0) (hC1 : Cs w v1 l1) (r0 : ∀ c ∈ l0, RvC c) (r1 : ∀ c ∈ l1, RvC c) (hx : Rv x) : Calls Try.prog 3 #[v0, v1, .string nm, vv x] w (Gives (.bool true) w) := by
  by_cases h : (mayPr l0 && mayPr l1) = true
  · obtain ⟨m0, m1⟩ := (Bool.and_eq_true _ _).mp h
    exact cvalues_yes v0 v1 l0 l1 nm x w hC0 hC1 r0 r1 hx m0 m1
  · exact cvalues_no v0 v1 l0 l1 nm x w hC0 hC1 r0 r1 (by simpa using h)
end Go.Proofs.Ytfjfdajachcnjaa.Gm
