/- Rows that come in as arguments in layer 4, opened: values, constraints, attributes, events. -/
import Derived.Test.YtlnjmcodgdebmaaGreatKx
import Derived.Lib.SmallJoins
set_option linter.unusedSimpArgs false
set_option linter.unusedVariables false
namespace Go.Proofs.YtlnjmcodgdebmaaGreat.Gm
open Go Go.ChangeShapes Go.WideShapes Go.ChangeAt Go.RowKit Go.Deep

section
variable {H : Type} {enc : TypeId × Value → H} {W : World} {base : Nat} {spare : Nat → Bool} {held : Bool}
theorem cellsVn : Tryz.prog.cellsOf 42 = 4 := by kernel_rfl
theorem cellsCn : Tryz.prog.cellsOf 45 = 7 := by kernel_rfl
theorem cellsAn : Tryz.prog.cellsOf 66 = 5 := by kernel_rfl
theorem cellsEn : Tryz.prog.cellsOf 34 = 2 := by kernel_rfl
theorem bytesVn : Tryz.prog.bytesOf 42 = 40 := by kernel_rfl
theorem bytesCn : Tryz.prog.bytesOf 45 = 88 := by kernel_rfl
theorem bytesAn : Tryz.prog.bytesOf 66 = 56 := by kernel_rfl
theorem reachIs : reachBytes = 140737488351232 := by decide
set_option maxRecDepth 100000 in
/-- A value that comes in. -/
theorem open_vl {b0 : Nat} {v : Value} {d : DataW H} {p : List MemPlace} (hv : Value.okWide Tryz.prog W .any b0 42 v) (h : DataW.Trod enc Tryz.prog W base spare held 42 v d p) : ∃ x : Vl, v = vv x := by
  obtain ⟨c0, c1, c2, c3, y0, y1, y2, y3, m, rfl, _, _, h0, h1, h2, h3⟩ := Joins.open_agg4 Tryz.underlying42 (by kernel_rfl) cellsVn hv h
  obtain ⟨k, e0, _, _⟩ := DataW.trod_int Tryz.underlying3 h0
  obtain ⟨n, e1, _, _⟩ := DataW.trod_int Tryz.underlying2 h1
  obtain ⟨s, e2, _, _⟩ := DataW.trod_string Tryz.underlying9 h2
  obtain ⟨b, e3, _⟩ := DataW.trod_bool Tryz.underlying4 h3
  simp only [List.cons.injEq, and_true] at e0 e1 e2 e3
  subst e0 e1 e2 e3
  exact ⟨⟨k, n, s, b⟩, rfl⟩
set_option maxRecDepth 100000 in
/-- Four cells that read as a value. -/
theorem val_of {fuel : Nat} {cs : List Value} {x : DataW H × List MemPlace} (h : DataW.trod enc Tryz.prog W base spare held fuel 42 cs = some x) : ∃ v : Vl, cs = encV v := by
  obtain ⟨zs, m, rfl, rfl, hlen, hzs, hg⟩ := DataW.trod_struct Tryz.underlying42 h
  rw [cellsVn] at hlen
  match cs, hlen with
  | [c1, c2, c3, c4], _ =>
    match zs, hzs with
    | [z0, z1, z2, z3], _ =>
      obtain ⟨k, e1, _, _⟩ := DataW.trod_int Tryz.underlying3 (x := z0) (cs := [c1]) (hg 0 _ rfl)
      obtain ⟨n', e2, _, _⟩ := DataW.trod_int Tryz.underlying2 (x := z1) (cs := [c2]) (hg 1 _ rfl)
      obtain ⟨s, e3, _, _⟩ := DataW.trod_string Tryz.underlying9 (x := z2) (cs := [c3]) (hg 2 _ rfl)
      obtain ⟨b, e4, _⟩ := DataW.trod_bool Tryz.underlying4 (x := z3) (cs := [c4]) (hg 3 _ rfl)
      simp only [List.cons.injEq, and_true] at e1 e2 e3 e4
      subst e1 e2 e3 e4
      exact ⟨⟨k, n', s, b⟩, rfl⟩
theorem weightsAll_mem {t : TypeId} : ∀ {ds : List (DataW H)} {d : DataW H}, d ∈ ds → ∀ n ∈ d.weights Tryz.prog t, n ∈ DataW.weightsAll Tryz.prog t ds
  | [], d, h, _, _ => by simp at h
  | x :: r, d, h, n, hn => by
    simp only [DataW.weightsAll, List.mem_append]
    rcases List.mem_cons.1 h with rfl | h
    · exact .inl hn
    · exact .inr (weightsAll_mem h n hn)
/-- How many elements a row can have, and what each of them weighs. -/
theorem row_weights {T e : TypeId} (ht : Tryz.prog.underlying T = some (.slice e)) {d : DataW H} (hw : ∀ n ∈ d.weights Tryz.prog T, n ≤ reachBytes) : (elemsOf d).length * Tryz.prog.bytesOf e ≤ reachBytes ∧ ∀ x ∈ elemsOf d, ∀ n ∈ x.weights Tryz.prog e, n ≤ reachBytes := by
  cases d with
  | slice es sp =>
    have h1 := hw ((es.length + sp.length) * Tryz.prog.bytesOf e) (by simp [DataW.weights, ht])
    refine ⟨Nat.le_trans (Nat.mul_le_mul_right _ (Nat.le_add_right _ _)) h1, fun x hx n hn => hw n ?_⟩
    simp only [DataW.weights, ht, List.mem_cons, List.mem_append]
    exact .inr (.inl (weightsAll_mem hx n hn))
  | _ => exact ⟨by simp [elemsOf], fun x hx => by simp [elemsOf] at hx⟩
set_option maxRecDepth 100000 in
/-- A row of values. -/
theorem open_vsF {T : TypeId} (ht : Tryz.prog.underlying T = some (.slice 42)) {fuel : Nat} {v : Value} {x : DataW H × List MemPlace} (h : DataW.trod enc Tryz.prog W base spare held fuel T [v] = some x) (hw : ∀ n ∈ x.1.weights Tryz.prog T, n ≤ reachBytes) : ∃ l : List Vl, Vs W v l := by
  obtain ⟨len, f, D, hR, hD, _⟩ := open_rowG (α := Vl) ht 4 cellsVn (by decide) encV (fun _ _ => True) (fun fuel cs y _ hy => by obtain ⟨c, hc⟩ := val_of hy; exact ⟨c, hc, trivial⟩) h
  have h2 := (row_weights ht hw).1
  rw [hD, bytesVn, reachIs] at h2
  simp only [List.length_map, List.length_range] at h2
  have hlen : ((List.range len).map f).length = len := by rw [List.length_map, List.length_range]
  exact ⟨(List.range len).map f, hR, by rw [hlen]; omega⟩
set_option maxRecDepth 100000 in
/-- Seven cells that read as a constraint: its Set lies in memory. -/
theorem con_of {fuel : Nat} {cs : List Value} {x : DataW H × List MemPlace} (h : DataW.trod enc Tryz.prog W base spare held fuel 45 cs = some x) : ∃ c : Cn, cs = encC c ∧ ((∀ n ∈ x.1.weights Tryz.prog 45, n ≤ reachBytes) → Vs W c.sv c.set) := by
  obtain ⟨zs, m, rfl, rfl, hlen, hzs, hg⟩ := DataW.trod_struct Tryz.underlying45 h
  rw [cellsCn] at hlen
  match cs, hlen with
  | [c0, c1, c2, c3, c4, c5, c6], _ =>
    match zs, hzs with
    | [z0, z1, z2, z3], _ =>
      obtain ⟨nm, e0, _, _⟩ := DataW.trod_string Tryz.underlying9 (x := z0) (cs := [c0]) (hg 0 _ rfl)
      obtain ⟨op, e1, _, _⟩ := DataW.trod_int Tryz.underlying3 (x := z1) (cs := [c1]) (hg 1 _ rfl)
      have h2 : DataW.trod enc Tryz.prog W base spare held m 42 [c2, c3, c4, c5] = some z2 := hg 2 _ rfl
      obtain ⟨v, e2⟩ := val_of h2
      have h3 : DataW.trod enc Tryz.prog W base spare held m 43 [c6] = some z3 := hg 3 _ rfl
      have h3' : ∃ p n c, c6 = .slice p n c := by
        rcases open_slice Tryz.underlying43 h3 with ⟨hcs, _⟩ | ⟨a, len, cap, _, _, _, _, hcs, _⟩
        · simp only [List.cons.injEq, and_true] at hcs; exact ⟨_, _, _, hcs⟩
        · simp only [List.cons.injEq, and_true] at hcs; exact ⟨_, _, _, hcs⟩
      simp only [List.cons.injEq, and_true] at e0 e1
      simp only [encV, List.cons.injEq, and_true] at e2
      obtain ⟨rfl, rfl, rfl, rfl⟩ := e2
      subst e0 e1
      obtain ⟨p, n, cap, rfl⟩ := h3'
      by_cases hw : ∀ n ∈ z3.1.weights Tryz.prog 43, n ≤ reachBytes
      · obtain ⟨l, hl⟩ := open_vsF Tryz.underlying43 h3 hw
        obtain ⟨p', cap', hf⟩ := hl.1.form
        simp only [Value.slice.injEq] at hf
        obtain ⟨rfl, rfl, rfl⟩ := hf
        exact ⟨⟨nm, op, v, p, cap, l⟩, rfl, fun _ => hl⟩
      · refine ⟨⟨nm, op, v, p, cap, List.replicate n default⟩, by simp [encC], fun hw' => absurd (fun n hn => hw' n ?_) hw⟩
        simp only [DataW.weights, Tryz.underlying45, DataW.weightsEach, List.mem_append, List.map_cons, List.map_nil]
        exact .inr (.inr (.inr (.inl hn)))
set_option maxRecDepth 100000 in
/-- A row of constraints. -/
theorem open_csF {T : TypeId} (ht : Tryz.prog.underlying T = some (.slice 45)) {fuel : Nat} {v : Value} {x : DataW H × List MemPlace} (h : DataW.trod enc Tryz.prog W base spare held fuel T [v] = some x) (hw : ∀ n ∈ x.1.weights Tryz.prog T, n ≤ reachBytes) : ∃ l : List Cn, Cs W v l ∧ l.length = (elemsOf x.1).length := by
  obtain ⟨len, f, D, hR, hD, hQ⟩ := open_rowG (α := Cn) ht 7 cellsCn (by decide) encC (fun c d => (∀ n ∈ d.weights Tryz.prog 45, n ≤ reachBytes) → Vs W c.sv c.set) (fun fuel cs y _ hy => con_of hy) h
  have h2 := row_weights ht hw
  rw [hD, bytesCn, reachIs] at h2
  simp only [List.length_map, List.length_range] at h2
  have hlen : ((List.range len).map f).length = len := by rw [List.length_map, List.length_range]
  refine ⟨(List.range len).map f, ⟨hR, by rw [hlen]; omega, fun c hc => ?_⟩, by rw [hD, hlen, List.length_map, List.length_range]⟩
  obtain ⟨i, hi, rfl⟩ := List.mem_map.1 hc
  have hi' := List.mem_range.1 hi
  exact hQ i hi' (fun n hn => by rw [reachIs]; exact h2.2 (D i) (List.mem_map.2 ⟨i, hi, rfl⟩) n hn)
set_option maxRecDepth 100000 in
theorem open_cs {b0 : Nat} {T : TypeId} (ht : Tryz.prog.underlying T = some (.slice 45)) {v : Value} {d : DataW H} {p : List MemPlace} (hv : Value.okWide Tryz.prog W .any b0 T v) (h : DataW.Trod enc Tryz.prog W base spare held T v d p) (hw : ∀ n ∈ d.weights Tryz.prog T, n ≤ reachBytes) : ∃ l : List Cn, Cs W v l ∧ l.length = (elemsOf d).length := by
  obtain ⟨a0, len, cap, rfl⟩ := okWide_slice ht hv
  obtain ⟨fuel, hf⟩ := h
  exact open_csF ht (x := (d, p)) hf hw
set_option maxRecDepth 100000 in
theorem at_of {fuel : Nat} {cs : List Value} {x : DataW H × List MemPlace} (h : DataW.trod enc Tryz.prog W base spare held fuel 66 cs = some x) : ∃ a : At, cs = encA a := by
  obtain ⟨zs, m, rfl, rfl, hlen, hzs, hg⟩ := DataW.trod_struct Tryz.underlying66 h
  rw [cellsAn] at hlen
  match cs, hlen with
  | [c0, c1, c2, c3, c4], _ =>
    match zs, hzs with
    | [z0, z1], _ =>
      obtain ⟨nm, e0, _, _⟩ := DataW.trod_string Tryz.underlying9 (x := z0) (cs := [c0]) (hg 0 _ rfl)
      have h1 : DataW.trod enc Tryz.prog W base spare held m 42 [c1, c2, c3, c4] = some z1 := hg 1 _ rfl
      obtain ⟨v, e1⟩ := val_of h1
      simp only [List.cons.injEq, and_true] at e0
      simp only [encV, List.cons.injEq, and_true] at e1
      obtain ⟨rfl, rfl, rfl, rfl⟩ := e1
      subst e0
      exact ⟨⟨nm, v⟩, rfl⟩
set_option maxRecDepth 100000 in
/-- A row of attributes. -/
theorem open_esF {fuel : Nat} {v : Value} {x : DataW H × List MemPlace} (h : DataW.trod enc Tryz.prog W base spare held fuel 32 [v] = some x) (hw : ∀ n ∈ x.1.weights Tryz.prog 32, n ≤ reachBytes) : ∃ l : List At, Es W v l := by
  obtain ⟨len, f, D, hR, hD, _⟩ := open_rowG (α := At) Tryz.underlying32 5 cellsAn (by decide) encA (fun _ _ => True) (fun fuel cs y _ hy => by obtain ⟨c, hc⟩ := at_of hy; exact ⟨c, hc, trivial⟩) h
  have h2 := (row_weights Tryz.underlying32 hw).1
  rw [hD, bytesAn, reachIs] at h2
  simp only [List.length_map, List.length_range] at h2
  have hlen : ((List.range len).map f).length = len := by rw [List.length_map, List.length_range]
  exact ⟨(List.range len).map f, hR, by rw [hlen]; omega⟩
set_option maxRecDepth 100000 in
/-- An event that comes in. -/
theorem open_event {b0 : Nat} {v : Value} {d : DataW H} {p : List MemPlace} (hv : Value.okWide Tryz.prog W .any b0 34 v) (h : DataW.Trod enc Tryz.prog W base spare held 34 v d p)
    (hw : ∀ n ∈ d.weights Tryz.prog 34, n ≤ reachBytes) : ∃ (key : ByteArray) (sl : Value) (l : List At), v = .agg #[.string key, sl] ∧ Es W sl l := by
  obtain ⟨c0, c1, y0, y1, m, rfl, rfl, _, h0, h1⟩ := Joins.open_agg2 Tryz.underlying34 (by kernel_rfl) cellsEn hv h
  obtain ⟨key, e0, hy0, _⟩ := DataW.trod_string Tryz.underlying9 h0
  simp only [List.cons.injEq, and_true] at e0
  subst e0
  obtain ⟨l, hl⟩ := open_esF (v := c1) h1 (fun n hn => hw n (by
    simp only [DataW.weights, Tryz.underlying34, DataW.weightsEach, List.mem_append, List.map_cons, List.map_nil]
    exact .inr (.inl hn)))
  exact ⟨key, c1, l, rfl, hl⟩
end
end Go.Proofs.YtlnjmcodgdebmaaGreat.Gm
