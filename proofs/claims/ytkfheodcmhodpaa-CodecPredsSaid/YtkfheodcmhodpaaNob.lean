/- Bytes and small numbers that come in as arguments, opened. -/
import Derived.Test.YtkfheodcmhodpaaTk
import Derived.Lib.SmallJoins
import Derived.Test.YtkfheodcmhodpaaGb
/- Values and rows of constraints that come in as arguments, opened, with the range of their numbers. -/
set_option linter.unusedSimpArgs false
set_option linter.unusedVariables false
namespace Go.Proofs.Ytkfheodcmhodpaa.Gm
open Go Go.ChangeShapes Go.WideShapes Go.ChangeAt Go.RowKit Go.Deep

section
variable {H : Type} {enc : TypeId × Value → H} {W : World} {base : Nat} {spare : Nat → Bool} {held : Bool}
theorem cellsVn : Try.prog.cellsOf 79 = 4 := by kernel_rfl
theorem cellsCn : Try.prog.cellsOf 99 = 7 := by kernel_rfl
theorem bytesVn : Try.prog.bytesOf 79 = 40 := by kernel_rfl
theorem bytesCn : Try.prog.bytesOf 99 = 88 := by kernel_rfl
theorem reachIs : reachBytes = 140737488351232 := by decide
/-- The range of a number of the program's. -/
def In64 (n : Int) : Prop := -9223372036854775808 ≤ n ∧ n ≤ 9223372036854775807
theorem in64_wf {n : Int} (h : (Lit.int .i64 n).wf = true) : In64 n := by
  unfold In64
  simp only [Lit.wf, Bool.and_eq_true, decide_eq_true_eq] at h
  have e1 : IntKind.i64.min = -9223372036854775808 := by decide
  have e2 : IntKind.i64.max = 9223372036854775807 := by decide
  rw [e1, e2] at h
  exact h
def InC (c : Cn) : Prop := In64 c.v.n ∧ ∀ x ∈ c.set, In64 x.n
set_option maxRecDepth 100000 in
/-- A value that comes in. -/
theorem open_vl {b0 : Nat} {v : Value} {d : DataW H} {p : List MemPlace} (hv : Value.okWide Try.prog W .any b0 79 v) (h : DataW.Trod enc Try.prog W base spare held 79 v d p) : ∃ x : Vl, v = vv x ∧ In64 x.n := by
  obtain ⟨c0, c1, c2, c3, y0, y1, y2, y3, m, rfl, _, _, h0, h1, h2, h3⟩ := Joins.open_agg4 Try.underlying79 (by kernel_rfl) cellsVn hv h
  obtain ⟨k, e0, _, _⟩ := DataW.trod_int Try.underlying3 h0
  obtain ⟨n, e1, _, hr⟩ := DataW.trod_int Try.underlying2 h1
  obtain ⟨s, e2, _, _⟩ := DataW.trod_string Try.underlying9 h2
  obtain ⟨b, e3, _⟩ := DataW.trod_bool Try.underlying4 h3
  simp only [List.cons.injEq, and_true] at e0 e1 e2 e3
  subst e0 e1 e2 e3
  exact ⟨⟨k, n, s, b⟩, rfl, in64_wf hr⟩
set_option maxRecDepth 100000 in
/-- Four cells that read as a value. -/
theorem val_of {fuel : Nat} {cs : List Value} {x : DataW H × List MemPlace} (h : DataW.trod enc Try.prog W base spare held fuel 79 cs = some x) : ∃ v : Vl, cs = encV v ∧ In64 v.n := by
  obtain ⟨zs, m, rfl, rfl, hlen, hzs, hg⟩ := DataW.trod_struct Try.underlying79 h
  rw [cellsVn] at hlen
  match cs, hlen with
  | [c1, c2, c3, c4], _ =>
    match zs, hzs with
    | [z0, z1, z2, z3], _ =>
      obtain ⟨k, e1, _, _⟩ := DataW.trod_int Try.underlying3 (x := z0) (cs := [c1]) (hg 0 _ rfl)
      obtain ⟨n', e2, _, hr⟩ := DataW.trod_int Try.underlying2 (x := z1) (cs := [c2]) (hg 1 _ rfl)
      obtain ⟨s, e3, _, _⟩ := DataW.trod_string Try.underlying9 (x := z2) (cs := [c3]) (hg 2 _ rfl)
      obtain ⟨b, e4, _⟩ := DataW.trod_bool Try.underlying4 (x := z3) (cs := [c4]) (hg 3 _ rfl)
      simp only [List.cons.injEq, and_true] at e1 e2 e3 e4
      subst e1 e2 e3 e4
      exact ⟨⟨k, n', s, b⟩, rfl, in64_wf hr⟩
theorem weightsAll_mem {t : TypeId} : ∀ {ds : List (DataW H)} {d : DataW H}, d ∈ ds → ∀ n ∈ d.weights Try.prog t, n ∈ DataW.weightsAll Try.prog t ds
  | [], d, h, _, _ => by simp at h
  | x :: r, d, h, n, hn => by
    simp only [DataW.weightsAll, List.mem_append]
    rcases List.mem_cons.1 h with rfl | h
    · exact .inl hn
    · exact .inr (weightsAll_mem h n hn)
/-- How many elements a row can have, and what each of them weighs. -/
theorem row_weights {T e : TypeId} (ht : Try.prog.underlying T = some (.slice e)) {d : DataW H} (hw : ∀ n ∈ d.weights Try.prog T, n ≤ reachBytes) : (elemsOf d).length * Try.prog.bytesOf e ≤ reachBytes ∧ ∀ x ∈ elemsOf d, ∀ n ∈ x.weights Try.prog e, n ≤ reachBytes := by
  cases d with
  | slice es sp =>
    have h1 := hw ((es.length + sp.length) * Try.prog.bytesOf e) (by simp [DataW.weights, ht])
    refine ⟨Nat.le_trans (Nat.mul_le_mul_right _ (Nat.le_add_right _ _)) h1, fun x hx n hn => hw n ?_⟩
    simp only [DataW.weights, ht, List.mem_cons, List.mem_append]
    exact .inr (.inl (weightsAll_mem hx n hn))
  | _ => exact ⟨by simp [elemsOf], fun x hx => by simp [elemsOf] at hx⟩
set_option maxRecDepth 100000 in
/-- A row of values. -/
theorem open_vsF {T : TypeId} (ht : Try.prog.underlying T = some (.slice 79)) {fuel : Nat} {v : Value} {x : DataW H × List MemPlace} (h : DataW.trod enc Try.prog W base spare held fuel T [v] = some x) (hw : ∀ n ∈ x.1.weights Try.prog T, n ≤ reachBytes) : ∃ l : List Vl, Vs W v l ∧ ∀ x ∈ l, In64 x.n := by
  obtain ⟨len, f, D, hR, hD, hQ⟩ := open_rowG (α := Vl) ht 4 cellsVn (by decide) encV (fun x _ => In64 x.n) (fun fuel cs y _ hy => by obtain ⟨c, hc, hr⟩ := val_of hy; exact ⟨c, hc, hr⟩) h
  have h2 := (row_weights ht hw).1
  rw [hD, bytesVn, reachIs] at h2
  simp only [List.length_map, List.length_range] at h2
  have hlen : ((List.range len).map f).length = len := by rw [List.length_map, List.length_range]
  exact ⟨(List.range len).map f, ⟨hR, by rw [hlen]; omega⟩, fun x hx => by
    obtain ⟨i, hi, rfl⟩ := List.mem_map.1 hx
    exact hQ i (List.mem_range.1 hi)⟩
set_option maxRecDepth 100000 in
/-- Seven cells that read as a constraint: its Set lies in memory. -/
theorem con_of {fuel : Nat} {cs : List Value} {x : DataW H × List MemPlace} (h : DataW.trod enc Try.prog W base spare held fuel 99 cs = some x) : ∃ c : Cn, cs = encC c ∧ ((∀ n ∈ x.1.weights Try.prog 99, n ≤ reachBytes) → Vs W c.sv c.set ∧ InC c) := by
  obtain ⟨zs, m, rfl, rfl, hlen, hzs, hg⟩ := DataW.trod_struct Try.underlying99 h
  rw [cellsCn] at hlen
  match cs, hlen with
  | [c0, c1, c2, c3, c4, c5, c6], _ =>
    match zs, hzs with
    | [z0, z1, z2, z3], _ =>
      obtain ⟨nm, e0, _, _⟩ := DataW.trod_string Try.underlying9 (x := z0) (cs := [c0]) (hg 0 _ rfl)
      obtain ⟨op, e1, _, _⟩ := DataW.trod_int Try.underlying3 (x := z1) (cs := [c1]) (hg 1 _ rfl)
      have h2 : DataW.trod enc Try.prog W base spare held m 79 [c2, c3, c4, c5] = some z2 := hg 2 _ rfl
      obtain ⟨v, e2, hr2⟩ := val_of h2
      have h3 : DataW.trod enc Try.prog W base spare held m 97 [c6] = some z3 := hg 3 _ rfl
      have h3' : ∃ p n c, c6 = .slice p n c := by
        rcases open_slice Try.underlying97 h3 with ⟨hcs, _⟩ | ⟨a, len, cap, _, _, _, _, hcs, _⟩
        · simp only [List.cons.injEq, and_true] at hcs; exact ⟨_, _, _, hcs⟩
        · simp only [List.cons.injEq, and_true] at hcs; exact ⟨_, _, _, hcs⟩
      simp only [List.cons.injEq, and_true] at e0 e1
      simp only [encV, List.cons.injEq, and_true] at e2
      obtain ⟨rfl, rfl, rfl, rfl⟩ := e2
      subst e0 e1
      obtain ⟨p, n, cap, rfl⟩ := h3'
      by_cases hw : ∀ n ∈ z3.1.weights Try.prog 97, n ≤ reachBytes
      · obtain ⟨l, hl, hlr⟩ := open_vsF Try.underlying97 h3 hw
        obtain ⟨p', cap', hf⟩ := hl.1.form
        simp only [Value.slice.injEq] at hf
        obtain ⟨rfl, rfl, rfl⟩ := hf
        exact ⟨⟨nm, op, v, p, cap, l⟩, rfl, fun _ => ⟨hl, hr2, hlr⟩⟩
      · refine ⟨⟨nm, op, v, p, cap, List.replicate n default⟩, by simp [encC], fun hw' => absurd (fun n hn => hw' n ?_) hw⟩
        simp only [DataW.weights, Try.underlying99, DataW.weightsEach, List.mem_append, List.map_cons, List.map_nil]
        exact .inr (.inr (.inr (.inl hn)))
set_option maxRecDepth 100000 in
/-- A row of constraints. -/
theorem open_csF {T : TypeId} (ht : Try.prog.underlying T = some (.slice 99)) {fuel : Nat} {v : Value} {x : DataW H × List MemPlace} (h : DataW.trod enc Try.prog W base spare held fuel T [v] = some x) (hw : ∀ n ∈ x.1.weights Try.prog T, n ≤ reachBytes) : ∃ l : List Cn, Cs W v l ∧ (∀ c ∈ l, InC c) ∧ l.length = (elemsOf x.1).length := by
  obtain ⟨len, f, D, hR, hD, hQ⟩ := open_rowG (α := Cn) ht 7 cellsCn (by decide) encC (fun c d => (∀ n ∈ d.weights Try.prog 99, n ≤ reachBytes) → Vs W c.sv c.set ∧ InC c) (fun fuel cs y _ hy => con_of hy) h
  have h2 := row_weights ht hw
  rw [hD, bytesCn, reachIs] at h2
  simp only [List.length_map, List.length_range] at h2
  have hlen : ((List.range len).map f).length = len := by rw [List.length_map, List.length_range]
  have hq : ∀ c ∈ (List.range len).map f, Vs W c.sv c.set ∧ InC c := fun c hc => by
    obtain ⟨i, hi, rfl⟩ := List.mem_map.1 hc
    exact hQ i (List.mem_range.1 hi) (fun n hn => by rw [reachIs]; exact h2.2 (D i) (List.mem_map.2 ⟨i, List.mem_range.1 hi |> List.mem_range.2, rfl⟩) n hn)
  exact ⟨(List.range len).map f, ⟨hR, by rw [hlen]; omega, fun c hc => (hq c hc).1⟩, fun c hc => (hq c hc).2, by rw [hD, hlen, List.length_map, List.length_range]⟩
set_option maxRecDepth 100000 in
theorem open_cs {b0 : Nat} {T : TypeId} (ht : Try.prog.underlying T = some (.slice 99)) {v : Value} {d : DataW H} {p : List MemPlace} (hv : Value.okWide Try.prog W .any b0 T v) (h : DataW.Trod enc Try.prog W base spare held T v d p) (hw : ∀ n ∈ d.weights Try.prog T, n ≤ reachBytes) : ∃ l : List Cn, Cs W v l ∧ (∀ c ∈ l, InC c) ∧ l.length = (elemsOf d).length := by
  obtain ⟨a0, len, cap, rfl⟩ := okWide_slice ht hv
  obtain ⟨fuel, hf⟩ := h
  exact open_csF ht (x := (d, p)) hf hw
end
end Go.Proofs.Ytkfheodcmhodpaa.Gm
set_option linter.unusedSimpArgs false
set_option linter.unusedVariables false
namespace Go.Proofs.Ytkfheodcmhodpaa.Gm
open Go Go.ChangeShapes Go.WideShapes Go.ChangeAt Go.RowKit Go.Deep

section
variable {H : Type} {enc : TypeId × Value → H} {W : World} {base : Nat} {spare : Nat → Bool} {held : Bool}
/-- A byte's cell. -/
theorem byte_of {fuel : Nat} {cs : List Value} {y : DataW H × List MemPlace} (h : DataW.trod enc Try.prog W base spare held fuel 5 cs = some y) : ∃ c : UInt8, cs = [byteV c] := by
  obtain ⟨k, e1, _, w1⟩ := DataW.trod_int Try.underlying5 h
  have hb : 0 ≤ k ∧ k ≤ 255 := by
    simp only [Lit.wf, Bool.and_eq_true, decide_eq_true_eq] at w1
    exact ⟨w1.1, w1.2⟩
  refine ⟨UInt8.ofNat k.toNat, ?_⟩
  rw [e1]
  simp [UInt8.toNat_ofNat']
  omega
/-- Bytes that come in. -/
theorem open_bsF {fuel : Nat} {v : Value} {x : DataW H × List MemPlace} (h : DataW.trod enc Try.prog W base spare held fuel 25 [v] = some x) : ∃ L : List UInt8, Bs W v L ∧ L.length = (elemsOf x.1).length := by
  obtain ⟨len, f, D, ⟨p, cap, b, o, h1, h2, h3, h4, h5⟩, hD, _⟩ := open_rowG (α := UInt8) Try.underlying25 1 (by kernel_rfl) (by decide) (fun c => [byteV c]) (fun _ _ => True) (fun fuel cs y _ hy => by obtain ⟨c, hc⟩ := byte_of hy; exact ⟨c, hc, trivial⟩) h
  refine ⟨(List.range len).map f, ?_, by rw [hD]; simp⟩
  subst h1
  cases p with
  | none =>
    have hl : (List.range len).map f = [] := by
      by_cases hl : (List.range len).map f = []
      · exact hl
      · have := (h3 hl).1; cases this
    rw [hl]
    rw [hl] at h4
    have := h4 rfl rfl
    subst this
    exact Bs.nil _
  | some a =>
    refine .inr ⟨a, cap, rfl, h2, fun hl => ?_⟩
    obtain ⟨ha, hb⟩ := h3 hl
    simp only [Option.some.injEq] at ha
    refine ⟨b, o, ha, hb, fun i hi => ?_⟩
    have := h5 i hi 0 _ rfl
    rw [Nat.mul_one, Nat.add_zero] at this
    exact this
set_option maxRecDepth 100000 in
theorem open_bs {b0 : Nat} {v : Value} {d : DataW H} {p : List MemPlace} (hv : Value.okWide Try.prog W .any b0 25 v) (h : DataW.Trod enc Try.prog W base spare held 25 v d p) : ∃ L : List UInt8, Bs W v L ∧ L.length = (elemsOf d).length := by
  obtain ⟨a0, len, cap, rfl⟩ := okWide_slice Try.underlying25 hv
  obtain ⟨fuel, hf⟩ := h
  exact open_bsF (x := (d, p)) hf
/-- How many elements a slice of bytes can have. -/
theorem reach_bs {d : DataW H} (hw : ∀ n ∈ d.weights Try.prog 25, n ≤ reachBytes) : (elemsOf d).length ≤ 140737488351232 := by
  have hR : reachBytes = 140737488351232 := by decide
  cases d with
  | slice es sp =>
    have := hw ((es.length + sp.length) * Try.prog.bytesOf 5) (by simp [DataW.weights, Try.underlying25])
    have hb : Try.prog.bytesOf 5 = 1 := by kernel_rfl
    rw [hb] at this
    simp only [elemsOf]
    omega
  | _ => simp [elemsOf]
set_option maxRecDepth 100000 in
theorem open_u8 {b0 : Nat} {v : Value} {d : DataW H} {p : List MemPlace} (hv : Value.okWide Try.prog W .any b0 5 v) (h : DataW.Trod enc Try.prog W base spare held 5 v d p) : ∃ n : Nat, v = .int .u8 n ∧ n < 256 := by
  obtain ⟨n, rfl, _, _, hwf⟩ := open_int Try.underlying5 hv h
  have hb : 0 ≤ n ∧ n ≤ 255 := by
    simp only [Lit.wf, Bool.and_eq_true, decide_eq_true_eq] at hwf
    exact ⟨hwf.1, hwf.2⟩
  exact ⟨n.toNat, by congr 1; omega, by omega⟩
set_option maxRecDepth 100000 in
theorem open_u16 {b0 : Nat} {v : Value} {d : DataW H} {p : List MemPlace} (hv : Value.okWide Try.prog W .any b0 73 v) (h : DataW.Trod enc Try.prog W base spare held 73 v d p) : ∃ n : Nat, v = .int .u16 n ∧ n < 65536 := by
  obtain ⟨n, rfl, _, _, hwf⟩ := open_int Try.underlying73 hv h
  have hb : 0 ≤ n ∧ n ≤ 65535 := by
    simp only [Lit.wf, Bool.and_eq_true, decide_eq_true_eq] at hwf
    exact ⟨hwf.1, hwf.2⟩
  exact ⟨n.toNat, by congr 1; omega, by omega⟩
end
end Go.Proofs.Ytkfheodcmhodpaa.Gm
