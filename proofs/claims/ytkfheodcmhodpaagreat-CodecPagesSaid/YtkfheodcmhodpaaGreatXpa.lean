/- The statement's function CodecPages returns true for any page and any bytes, and each argument reads afterwards as before; no condition. -/
import Derived.Test.YtkfheodcmhodpaaGreatKop
import Derived.Test.YtkfheodcmhodpaaGreatGb
import Derived.Test.YtkfheodcmhodpaaGreatNo
import Derived.Test.YtkfheodcmhodpaaGreatNh
import Derived.SizedLaws
import Derived.OpenShut
import Derived.WalkKit
import Derived.ProofKit
/- Bytes and small numbers that come in as arguments, opened. -/
set_option linter.unusedSimpArgs false
set_option linter.unusedVariables false
namespace Go.Proofs.YtkfheodcmhodpaaGreat.Gm
open Go Go.ChangeShapes Go.WideShapes Go.ChangeAt Go.RowKit Go.Deep

section
variable {H : Type} {enc : TypeId × Value → H} {W : World} {base : Nat} {spare : Nat → Bool} {held : Bool}
/-- A byte's cell. -/
theorem byte_of {fuel : Nat} {cs : List Value} {y : DataW H × List MemPlace} (h : DataW.trod enc Tryz.prog W base spare held fuel 5 cs = some y) : ∃ c : UInt8, cs = [byteV c] := by
  obtain ⟨k, e1, _, w1⟩ := DataW.trod_int Tryz.underlying5 h
  have hb : 0 ≤ k ∧ k ≤ 255 := by
    simp only [Lit.wf, Bool.and_eq_true, decide_eq_true_eq] at w1
    exact ⟨w1.1, w1.2⟩
  refine ⟨UInt8.ofNat k.toNat, ?_⟩
  rw [e1]
  simp [UInt8.toNat_ofNat']
  omega
/-- Bytes that come in. -/
theorem open_bsF {fuel : Nat} {v : Value} {x : DataW H × List MemPlace} (h : DataW.trod enc Tryz.prog W base spare held fuel 27 [v] = some x) : ∃ L : List UInt8, Bs W v L ∧ L.length = (elemsOf x.1).length := by
  obtain ⟨len, f, D, ⟨p, cap, b, o, h1, h2, h3, h4, h5⟩, hD, _⟩ := open_rowG (α := UInt8) Tryz.underlying27 1 (by kernel_rfl) (by decide) (fun c => [byteV c]) (fun _ _ => True) (fun fuel cs y _ hy => by obtain ⟨c, hc⟩ := byte_of hy; exact ⟨c, hc, trivial⟩) h
  refine ⟨(List.range len).map f, ?_, by rw [hD]; simp⟩
  subst h1
  cases p with
  | none =>
    have hl : (List.range len).map f = [] := by
      by_cases hl : (List.range len).map f = []
      · exact hl
      · have := (h3 hl).1; cases this
    rw [hl]
    rw [hl] at h4
    have := h4 rfl rfl
    subst this
    exact Bs.nil _
  | some a =>
    refine .inr ⟨a, cap, rfl, h2, fun hl => ?_⟩
    obtain ⟨ha, hb⟩ := h3 hl
    simp only [Option.some.injEq] at ha
    refine ⟨b, o, ha, hb, fun i hi => ?_⟩
    have := h5 i hi 0 _ rfl
    rw [Nat.mul_one, Nat.add_zero] at this
    exact this
set_option maxRecDepth 100000 in
theorem open_bs {b0 : Nat} {v : Value} {d : DataW H} {p : List MemPlace} (hv : Value.okWide Tryz.prog W .any b0 27 v) (h : DataW.Trod enc Tryz.prog W base spare held 27 v d p) : ∃ L : List UInt8, Bs W v L ∧ L.length = (elemsOf d).length := by
  obtain ⟨a0, len, cap, rfl⟩ := okWide_slice Tryz.underlying27 hv
  obtain ⟨fuel, hf⟩ := h
  exact open_bsF (x := (d, p)) hf
/-- How many elements a slice of bytes can have. -/
theorem reach_bs {d : DataW H} (hw : ∀ n ∈ d.weights Tryz.prog 27, n ≤ reachBytes) : (elemsOf d).length ≤ 140737488351232 := by
  have hR : reachBytes = 140737488351232 := by decide
  cases d with
  | slice es sp =>
    have := hw ((es.length + sp.length) * Tryz.prog.bytesOf 5) (by simp [DataW.weights, Tryz.underlying27])
    have hb : Tryz.prog.bytesOf 5 = 1 := by kernel_rfl
    rw [hb] at this
    simp only [elemsOf]
    omega
  | _ => simp [elemsOf]
set_option maxRecDepth 100000 in
theorem open_u8 {b0 : Nat} {v : Value} {d : DataW H} {p : List MemPlace} (hv : Value.okWide Tryz.prog W .any b0 5 v) (h : DataW.Trod enc Tryz.prog W base spare held 5 v d p) : ∃ n : Nat, v = .int .u8 n ∧ n < 256 := by
  obtain ⟨n, rfl, _, _, hwf⟩ := open_int Tryz.underlying5 hv h
  have hb : 0 ≤ n ∧ n ≤ 255 := by
    simp only [Lit.wf, Bool.and_eq_true, decide_eq_true_eq] at hwf
    exact ⟨hwf.1, hwf.2⟩
  exact ⟨n.toNat, by congr 1; omega, by omega⟩
end
end Go.Proofs.YtkfheodcmhodpaaGreat.Gm
set_option linter.unusedSimpArgs false
set_option linter.unusedVariables false
namespace Go.Proofs.YtkfheodcmhodpaaGreat
open Go.ChangeShapes Go.WideShapes Go.ChangeAt Go.RowKit Gm

set_option maxRecDepth 100000 in
theorem lifted_codecPages (os : Os) (started : os.Started) (H : Type) (enc : TypeId × Value → H) :
    ReturnsInHanded {} Tryz.checked os 3 .any (Rows.codecPagesSpec.pre6 enc Tryz.prog Tryz.f3 Rows.codecPagesRow.domain false) (Rows.codecPagesSpec.post enc Tryz.prog Tryz.f3 false true false false) := by
  refine returnsInHanded_of_change_sized (C := Tryz.checked) (s := Rows.codecPagesSpec) own started (by kernel_rfl) Tryz.func3
    (ChangeSpec.witness6 (enc := enc) (C := Tryz.checked) (os := os) (s := Rows.codecPagesSpec) false ⟨#[], #[.agg #[.int .u64 0, .int .u64 0, .slice none 0 0, .slice none 0 0, .bool false], .slice none 0 0], []⟩ 8 (by kernel_rfl) (by kernel_rfl) (by kernel_rfl) (by kernel_rfl)) ?_
  intro W base args ds gs before hval0 hW _ hsz _
  have hval : ∀ (j : Nat) t v, Tryz.f3.params[j]? = some t → args[j]? = some v → Value.okWide Tryz.prog W .any base t v := hval0
  have hW' := hW
  obtain ⟨p, q, hA0, hV, rfl, hfz, hnd⟩ := hW
  have hA : DataW.TrodAll enc Tryz.prog W 0 (fun _ => true) true Tryz.f3.params.toList args.toList ds p := hA0
  rw [Tryz.params3] at hA hval
  obtain ⟨v0, vs0, d0, ds0, p0, q0, hargs, rfl, rfl, h0, r0⟩ := trodAll_cons hA
  obtain ⟨v1, vs1, d1, ds1, p1, q1, rfl, rfl, rfl, h1, r1⟩ := trodAll_cons r0
  obtain ⟨rfl, rfl, rfl⟩ := trodAll_nil r1
  obtain rfl : args = #[v0, v1] := by cases args; simp_all
  obtain ⟨rfl, rfl⟩ := trodVars_none hV
  have lt0 : ∀ x ∈ p0, x.block < W.heap.size := by obtain ⟨m, hm⟩ := h0; exact DataW.trod_lt m _ _ _ hm
  have lt1 : ∀ x ∈ p1, x.block < W.heap.size := by obtain ⟨m, hm⟩ := h1; exact DataW.trod_lt m _ _ _ hm
  obtain ⟨g0, rfl, hG0, hGl0, hGi0⟩ := open_page (hval 0 26 v0 rfl rfl) h0 (fun n hn => by simpa using List.all_eq_true.1 hsz _ (DataW.weights_mem_each (j := 0) (t := 26) (d := d0) (by rw [Tryz.params3]; rfl) rfl n hn))
  obtain ⟨L1, hB1, hl1⟩ := open_bs (hval 1 27 v1 rfl rfl) h1
  clear hA0 hval0
  refine (law_cpages g0 v1 L1 W hG0 hB1 (by rw [hl1]; exact reach_bs (fun n hn => by simpa using List.all_eq_true.1 hsz _ (DataW.weights_mem_each (j := 1) (t := 27) (d := d1) (by rw [Tryz.params3]; rfl) rfl n hn)))).mono fun e W' ⟨he, bel⟩ => ?_
  subst he
  exact ⟨_, rfl, _, _, _, [], _, [], hW', trodAll_mk1 (shut_bool Tryz.underlying4 _), (trodAll_cons_mk (Below.trod laidOut (by kernel_rfl) (of_decide_eq_true (by kernel_rfl)) h0 bel lt0) (trodAll_cons_mk (Below.trod laidOut (by kernel_rfl) (of_decide_eq_true (by kernel_rfl)) h1 bel lt1) trodAll_mk0)), rfl, bel.frame _, fun h => by cases h⟩

theorem codecPages_said : Rows.CodecPagesSaid :=
  OpenClaim.holds_of_wide 3 Tryz.f3 rfl rfl rfl rfl rfl rfl rfl ⟨rfl, rfl, rfl, rfl, rfl⟩ rfl rfl rfl rfl rfl (by kernel_rfl) Tryz.func3 (by kernel_rfl)
    (of_decide_eq_true (by kernel_rfl)) (by unfold Func.isWrapper; first | (rw [if_pos (by decide +kernel)]; kernel_rfl) | (rw [if_neg (by decide +kernel)]; exact ⟨rfl, rfl⟩))
    (fun os started H enc _ => lifted_codecPages os started H enc)
#print axioms codecPages_said
end Go.Proofs.YtkfheodcmhodpaaGreat
