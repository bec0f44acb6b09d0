/- The statement's function CodecKnown returns true, and writes nothing that was there; no condition. -/
import Derived.Test.YtkfheodcmhodpaaKw0
import Derived.Lib.SmallJoins
import Derived.Test.YtkfheodcmhodpaaNl
import Derived.SizedLaws
import Derived.OpenShut
import Derived.WalkKit
import Derived.ProofKit
/- Values and rows of constraints that come in as arguments, opened, with the range of their numbers. -/
set_option linter.unusedSimpArgs false
set_option linter.unusedVariables false
namespace Go.Proofs.Ytkfheodcmhodpaa.Gm
open Go Go.ChangeShapes Go.WideShapes Go.ChangeAt Go.RowKit Go.Deep

section
variable {H : Type} {enc : TypeId × Value → H} {W : World} {base : Nat} {spare : Nat → Bool} {held : Bool}
theorem cellsVn : Try.prog.cellsOf 79 = 4 := by kernel_rfl
theorem cellsCn : Try.prog.cellsOf 99 = 7 := by kernel_rfl
theorem bytesVn : Try.prog.bytesOf 79 = 40 := by kernel_rfl
theorem bytesCn : Try.prog.bytesOf 99 = 88 := by kernel_rfl
theorem reachIs : reachBytes = 140737488351232 := by decide
/-- The range of a number of the program's. -/
def In64 (n : Int) : Prop := -9223372036854775808 ≤ n ∧ n ≤ 9223372036854775807
theorem in64_wf {n : Int} (h : (Lit.int .i64 n).wf = true) : In64 n := by
  unfold In64
  simp only [Lit.wf, Bool.and_eq_true, decide_eq_true_eq] at h
  have e1 : IntKind.i64.min = -9223372036854775808 := by decide
  have e2 : IntKind.i64.max = 9223372036854775807 := by decide
  rw [e1, e2] at h
  exact h
def InC (c : Cn) : Prop := In64 c.v.n ∧ ∀ x ∈ c.set, In64 x.n
set_option maxRecDepth 100000 in
/-- A value that comes in. -/
theorem open_vl {b0 : Nat} {v : Value} {d : DataW H} {p : List MemPlace} (hv : Value.okWide Try.prog W .any b0 79 v) (h : DataW.Trod enc Try.prog W base spare held 79 v d p) : ∃ x : Vl, v = vv x ∧ In64 x.n := by
  obtain ⟨c0, c1, c2, c3, y0, y1, y2, y3, m, rfl, _, _, h0, h1, h2, h3⟩ := Joins.open_agg4 Try.underlying79 (by kernel_rfl) cellsVn hv h
  obtain ⟨k, e0, _, _⟩ := DataW.trod_int Try.underlying3 h0
  obtain ⟨n, e1, _, hr⟩ := DataW.trod_int Try.underlying2 h1
  obtain ⟨s, e2, _, _⟩ := DataW.trod_string Try.underlying9 h2
  obtain ⟨b, e3, _⟩ := DataW.trod_bool Try.underlying4 h3
  simp only [List.cons.injEq, and_true] at e0 e1 e2 e3
  subst e0 e1 e2 e3
  exact ⟨⟨k, n, s, b⟩, rfl, in64_wf hr⟩
set_option maxRecDepth 100000 in
/-- Four cells that read as a value. -/
theorem val_of {fuel : Nat} {cs : List Value} {x : DataW H × List MemPlace} (h : DataW.trod enc Try.prog W base spare held fuel 79 cs = some x) : ∃ v : Vl, cs = encV v ∧ In64 v.n := by
  obtain ⟨zs, m, rfl, rfl, hlen, hzs, hg⟩ := DataW.trod_struct Try.underlying79 h
  rw [cellsVn] at hlen
  match cs, hlen with
  | [c1, c2, c3, c4], _ =>
    match zs, hzs with
    | [z0, z1, z2, z3], _ =>
      obtain ⟨k, e1, _, _⟩ := DataW.trod_int Try.underlying3 (x := z0) (cs := [c1]) (hg 0 _ rfl)
      obtain ⟨n', e2, _, hr⟩ := DataW.trod_int Try.underlying2 (x := z1) (cs := [c2]) (hg 1 _ rfl)
      obtain ⟨s, e3, _, _⟩ := DataW.trod_string Try.underlying9 (x := z2) (cs := [c3]) (hg 2 _ rfl)
      obtain ⟨b, e4, _⟩ := DataW.trod_bool Try.underlying4 (x := z3) (cs := [c4]) (hg 3 _ rfl)
      simp only [List.cons.injEq, and_true] at e1 e2 e3 e4
      subst e1 e2 e3 e4
      exact ⟨⟨k, n', s, b⟩, rfl, in64_wf hr⟩
theorem weightsAll_mem {t : TypeId} : ∀ {ds : List (DataW H)} {d : DataW H}, d ∈ ds → ∀ n ∈ d.weights Try.prog t, n ∈ DataW.weightsAll Try.prog t ds
  | [], d, h, _, _ => by simp at h
  | x :: r, d, h, n, hn => by
    simp only [DataW.weightsAll, List.mem_append]
    rcases List.mem_cons.1 h with rfl | h
    · exact .inl hn
    · exact .inr (weightsAll_mem h n hn)
/-- How many elements a row can have, and what each of them weighs. -/
theorem row_weights {T e : TypeId} (ht : Try.prog.underlying T = some (.slice e)) {d : DataW H} (hw : ∀ n ∈ d.weights Try.prog T, n ≤ reachBytes) : (elemsOf d).length * Try.prog.bytesOf e ≤ reachBytes ∧ ∀ x ∈ elemsOf d, ∀ n ∈ x.weights Try.prog e, n ≤ reachBytes := by
  cases d with
  | slice es sp =>
    have h1 := hw ((es.length + sp.length) * Try.prog.bytesOf e) (by simp [DataW.weights, ht])
    refine ⟨Nat.le_trans (Nat.mul_le_mul_right _ (Nat.le_add_right _ _)) h1, fun x hx n hn => hw n ?_⟩
    simp only [DataW.weights, ht, List.mem_cons, List.mem_append]
    exact .inr (.inl (weightsAll_mem hx n hn))
  | _ => exact ⟨by simp [elemsOf], fun x hx => by simp [elemsOf] at hx⟩
set_option maxRecDepth 100000 in
/-- A row of values. -/
theorem open_vsF {T : TypeId} (ht : Try.prog.underlying T = some (.slice 79)) {fuel : Nat} {v : Value} {x : DataW H × List MemPlace} (h : DataW.trod enc Try.prog W base spare held fuel T [v] = some x) (hw : ∀ n ∈ x.1.weights Try.prog T, n ≤ reachBytes) : ∃ l : List Vl, Vs W v l ∧ ∀ x ∈ l, In64 x.n := by
  obtain ⟨len, f, D, hR, hD, hQ⟩ := open_rowG (α := Vl) ht 4 cellsVn (by decide) encV (fun x _ => In64 x.n) (fun fuel cs y _ hy => by obtain ⟨c, hc, hr⟩ := val_of hy; exact ⟨c, hc, hr⟩) h
  have h2 := (row_weights ht hw).1
  rw [hD, bytesVn, reachIs] at h2
  simp only [List.length_map, List.length_range] at h2
  have hlen : ((List.range len).map f).length = len := by rw [List.length_map, List.length_range]
  exact ⟨(List.range len).map f, ⟨hR, by rw [hlen]; omega⟩, fun x hx => by
    obtain ⟨i, hi, rfl⟩ := List.mem_map.1 hx
    exact hQ i (List.mem_range.1 hi)⟩
set_option maxRecDepth 100000 in
/-- Seven cells that read as a constraint: its Set lies in memory. -/
theorem con_of {fuel : Nat} {cs : List Value} {x : DataW H × List MemPlace} (h : DataW.trod enc Try.prog W base spare held fuel 99 cs = some x) : ∃ c : Cn, cs = encC c ∧ ((∀ n ∈ x.1.weights Try.prog 99, n ≤ reachBytes) → Vs W c.sv c.set ∧ InC c) := by
  obtain ⟨zs, m, rfl, rfl, hlen, hzs, hg⟩ := DataW.trod_struct Try.underlying99 h
  rw [cellsCn] at hlen
  match cs, hlen with
  | [c0, c1, c2, c3, c4, c5, c6], _ =>
    match zs, hzs with
    | [z0, z1, z2, z3], _ =>
      obtain ⟨nm, e0, _, _⟩ := DataW.trod_string Try.underlying9 (x := z0) (cs := [c0]) (hg 0 _ rfl)
      obtain ⟨op, e1, _, _⟩ := DataW.trod_int Try.underlying3 (x := z1) (cs := [c1]) (hg 1 _ rfl)
      have h2 : DataW.trod enc Try.prog W base spare held m 79 [c2, c3, c4, c5] = some z2 := hg 2 _ rfl
      obtain ⟨v, e2, hr2⟩ := val_of h2
      have h3 : DataW.trod enc Try.prog W base spare held m 97 [c6] = some z3 := hg 3 _ rfl
      have h3' : ∃ p n c, c6 = .slice p n c := by
        rcases open_slice Try.underlying97 h3 with ⟨hcs, _⟩ | ⟨a, len, cap, _, _, _, _, hcs, _⟩
        · simp only [List.cons.injEq, and_true] at hcs; exact ⟨_, _, _, hcs⟩
        · simp only [List.cons.injEq, and_true] at hcs; exact ⟨_, _, _, hcs⟩
      simp only [List.cons.injEq, and_true] at e0 e1
      simp only [encV, List.cons.injEq, and_true] at e2
      obtain ⟨rfl, rfl, rfl, rfl⟩ := e2
      subst e0 e1
      obtain ⟨p, n, cap, rfl⟩ := h3'
      by_cases hw : ∀ n ∈ z3.1.weights Try.prog 97, n ≤ reachBytes
      · obtain ⟨l, hl, hlr⟩ := open_vsF Try.underlying97 h3 hw
        obtain ⟨p', cap', hf⟩ := hl.1.form
        simp only [Value.slice.injEq] at hf
        obtain ⟨rfl, rfl, rfl⟩ := hf
        exact ⟨⟨nm, op, v, p, cap, l⟩, rfl, fun _ => ⟨hl, hr2, hlr⟩⟩
      · refine ⟨⟨nm, op, v, p, cap, List.replicate n default⟩, by simp [encC], fun hw' => absurd (fun n hn => hw' n ?_) hw⟩
        simp only [DataW.weights, Try.underlying99, DataW.weightsEach, List.mem_append, List.map_cons, List.map_nil]
        exact .inr (.inr (.inr (.inl hn)))
set_option maxRecDepth 100000 in
/-- A row of constraints. -/
theorem open_csF {T : TypeId} (ht : Try.prog.underlying T = some (.slice 99)) {fuel : Nat} {v : Value} {x : DataW H × List MemPlace} (h : DataW.trod enc Try.prog W base spare held fuel T [v] = some x) (hw : ∀ n ∈ x.1.weights Try.prog T, n ≤ reachBytes) : ∃ l : List Cn, Cs W v l ∧ (∀ c ∈ l, InC c) ∧ l.length = (elemsOf x.1).length := by
  obtain ⟨len, f, D, hR, hD, hQ⟩ := open_rowG (α := Cn) ht 7 cellsCn (by decide) encC (fun c d => (∀ n ∈ d.weights Try.prog 99, n ≤ reachBytes) → Vs W c.sv c.set ∧ InC c) (fun fuel cs y _ hy => con_of hy) h
  have h2 := row_weights ht hw
  rw [hD, bytesCn, reachIs] at h2
  simp only [List.length_map, List.length_range] at h2
  have hlen : ((List.range len).map f).length = len := by rw [List.length_map, List.length_range]
  have hq : ∀ c ∈ (List.range len).map f, Vs W c.sv c.set ∧ InC c := fun c hc => by
    obtain ⟨i, hi, rfl⟩ := List.mem_map.1 hc
    exact hQ i (List.mem_range.1 hi) (fun n hn => by rw [reachIs]; exact h2.2 (D i) (List.mem_map.2 ⟨i, List.mem_range.1 hi |> List.mem_range.2, rfl⟩) n hn)
  exact ⟨(List.range len).map f, ⟨hR, by rw [hlen]; omega, fun c hc => (hq c hc).1⟩, fun c hc => (hq c hc).2, by rw [hD, hlen, List.length_map, List.length_range]⟩
set_option maxRecDepth 100000 in
theorem open_cs {b0 : Nat} {T : TypeId} (ht : Try.prog.underlying T = some (.slice 99)) {v : Value} {d : DataW H} {p : List MemPlace} (hv : Value.okWide Try.prog W .any b0 T v) (h : DataW.Trod enc Try.prog W base spare held T v d p) (hw : ∀ n ∈ d.weights Try.prog T, n ≤ reachBytes) : ∃ l : List Cn, Cs W v l ∧ (∀ c ∈ l, InC c) ∧ l.length = (elemsOf d).length := by
  obtain ⟨a0, len, cap, rfl⟩ := okWide_slice ht hv
  obtain ⟨fuel, hf⟩ := h
  exact open_csF ht (x := (d, p)) hf hw
end
end Go.Proofs.Ytkfheodcmhodpaa.Gm
set_option linter.unusedSimpArgs false
set_option linter.unusedVariables false
namespace Go.Proofs.Ytkfheodcmhodpaa
open Go.ChangeShapes Go.WideShapes Go.ChangeAt Go.RowKit Gm

set_option maxRecDepth 100000 in
theorem lifted_codecKnown (os : Os) (started : os.Started) (H : Type) (enc : TypeId × Value → H) :
    ReturnsInHanded {} Try.checked os 10 .any (Rows.codecKnownSpec.pre6 enc Try.prog Try.f10 Rows.codecKnownRow.domain false) (Rows.codecKnownSpec.post enc Try.prog Try.f10 false true false false) := by
  refine returnsInHanded_of_change_sized (C := Try.checked) (s := Rows.codecKnownSpec) own started (by kernel_rfl) Try.func10
    (ChangeSpec.witness6 (enc := enc) (C := Try.checked) (os := os) (s := Rows.codecKnownSpec) false ⟨#[], #[], []⟩ 8 (by kernel_rfl) (by kernel_rfl) (by kernel_rfl) (by kernel_rfl)) ?_
  intro W base args ds gs before hval0 hW _ hsz _
  have hval : ∀ (j : Nat) t v, Try.f10.params[j]? = some t → args[j]? = some v → Value.okWide Try.prog W .any base t v := hval0
  have hW' := hW
  obtain ⟨p, q, hA0, hV, rfl, hfz, hnd⟩ := hW
  have hA : DataW.TrodAll enc Try.prog W 0 (fun _ => true) true Try.f10.params.toList args.toList ds p := hA0
  rw [Try.params10] at hA hval
  obtain ⟨hargs, rfl, rfl⟩ := trodAll_nil hA
  obtain rfl : args = #[] := by cases args; simp_all
  obtain ⟨rfl, rfl⟩ := trodVars_none hV
  clear hA0 hval0
  refine (law_cknown W).mono fun e W' ⟨he, bel⟩ => ?_
  subst he
  exact ⟨_, rfl, _, _, _, [], _, [], hW', trodAll_mk1 (shut_bool Try.underlying4 _), trodAll_mk0, rfl, bel.frame _, fun h => by cases h⟩

theorem codecKnown_said : Rows.CodecKnownSaid :=
  OpenClaim.holds_of_wide 10 Try.f10 rfl rfl rfl rfl rfl rfl rfl ⟨rfl, rfl, rfl, rfl, rfl⟩ rfl rfl rfl rfl rfl (by kernel_rfl) Try.func10 (by kernel_rfl)
    (of_decide_eq_true (by kernel_rfl)) (by unfold Func.isWrapper; first | (rw [if_pos (by decide +kernel)]; kernel_rfl) | (rw [if_neg (by decide +kernel)]; exact ⟨rfl, rfl⟩))
    (fun os started H enc _ => lifted_codecKnown os started H enc)
#print axioms codecKnown_said
end Go.Proofs.Ytkfheodcmhodpaa
