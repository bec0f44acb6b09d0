/- Events and rows of attributes that come in as arguments, opened. -/
import Derived.Test.YtgjniopcaahgfaaGreatDoorMq
import Derived.Deep.Slices
import Derived.SizedLaws
set_option linter.unusedSimpArgs false
set_option linter.unusedVariables false
namespace Go.Proofs.YtgjniopcaahgfaaGreatDoor
open Go.ChangeShapes Go.WideShapes Go.ChangeAt Go.RowKit Go.Deep

section
variable {H : Type} {enc : TypeId × Value → H} {W : World} {base : Nat} {spare : Nat → Bool} {held : Bool}
theorem cells22 : Tryz.prog.cellsOf 43 = 5 := by kernel_rfl
theorem cells24 : Tryz.prog.cellsOf 24 = 2 := by kernel_rfl
theorem bytes22 : Tryz.prog.bytesOf 43 = 56 := by kernel_rfl
set_option maxRecDepth 100000 in
/-- Five cells that read as an attribute. -/
theorem attr_of {fuel : Nat} {cs : List Value} {x : DataW H × List MemPlace} (h : DataW.trod enc Tryz.prog W base spare held fuel 43 cs = some x) :
    ∃ a : Attr, cs = encA a ∧ Fits a.n ∧ a.nm.data.toList.length ∈ x.1.weights Tryz.prog 43 := by
  obtain ⟨xs, n, rfl, rfl, hlen, hxs, hf⟩ := DataW.trod_struct Tryz.underlying43 h
  rw [cells22] at hlen
  match cs, hlen with
  | [c0, c1, c2, c3, c4], _ =>
    match xs, hxs with
    | [y0, y1], _ =>
      have h0 := hf 0 _ rfl
      have h1 := hf 1 _ rfl
      obtain ⟨nm, e0, hy0, _⟩ := DataW.trod_string Tryz.underlying9 (x := y0) (cs := [c0]) h0
      have h1' : DataW.trod enc Tryz.prog W base spare held n 40 [c1, c2, c3, c4] = some y1 := h1
      obtain ⟨zs, m, rfl, rfl, _, hzs, hg⟩ := DataW.trod_struct Tryz.underlying40 h1'
      match zs, hzs with
      | [z0, z1, z2, z3], _ =>
        obtain ⟨k, e1, _, _⟩ := DataW.trod_int Tryz.underlying3 (x := z0) (cs := [c1]) (hg 0 _ rfl)
        obtain ⟨n', e2, _, w1⟩ := DataW.trod_int Tryz.underlying2 (x := z1) (cs := [c2]) (hg 1 _ rfl)
        obtain ⟨s, e3, _, _⟩ := DataW.trod_string Tryz.underlying9 (x := z2) (cs := [c3]) (hg 2 _ rfl)
        obtain ⟨b, e4, _⟩ := DataW.trod_bool Tryz.underlying4 (x := z3) (cs := [c4]) (hg 3 _ rfl)
        simp only [List.cons.injEq, and_true] at e0 e1 e2 e3 e4
        subst e0 e1 e2 e3 e4 hy0
        refine ⟨⟨nm, k, n', s, b⟩, rfl, bounds_i64 w1, ?_⟩
        simp [DataW.weights, DataW.weightsEach, Tryz.underlying43]

theorem mem_weightsAll {t : TypeId} : ∀ {ds : List (DataW H)} {d : DataW H}, d ∈ ds → ∀ n ∈ d.weights Tryz.prog t, n ∈ DataW.weightsAll Tryz.prog t ds
  | [], d, h, _, _ => by simp at h
  | x :: r, d, h, n, hn => by
    simp only [DataW.weightsAll, List.mem_append]
    rcases List.mem_cons.1 h with rfl | h
    · exact .inl hn
    · exact .inr (mem_weightsAll h n hn)

set_option maxRecDepth 100000 in
/-- A row of attributes that comes in. -/
theorem open_row {fuel : Nat} {v : Value} {x : DataW H × List MemPlace} (h : DataW.trod enc Tryz.prog W base spare held fuel 22 [v] = some x) (hw : ∀ n ∈ x.1.weights Tryz.prog 22, n ≤ reachBytes) :
    ∃ l : List Attr, Sl W v l ∧ Room l := by
  have hR : reachBytes = 140737488351232 := by decide
  rcases open_slice Tryz.underlying22 h with ⟨hcs, hx⟩ | ⟨a, len, cap, m, n, D, Pl, hcs, _, hl, hm, hmm, hx, hi⟩
  · simp only [List.cons.injEq, and_true] at hcs
    subst hcs
    exact ⟨[], ⟨none, 0, 0, 0, rfl, fun h => absurd rfl h, fun i hi => by simp at hi, by simp⟩, fun a ha => by simp at ha⟩
  · simp only [List.cons.injEq, and_true] at hcs
    subst hcs
    have hlm : len ≤ m := by rw [hmm]; split <;> omega
    subst hx
    simp only [DataW.weights, Tryz.underlying22, List.length_map, List.length_range, bytes22, List.mem_cons, List.mem_append] at hw
    have hlen := hw _ (.inl rfl)
    have hat : ∀ i, i < len → ∃ y : Attr, W.cells? base (a.add (i * 5)) 5 = some (encA y) ∧ Fits y.n ∧ y.nm.data.toList.length ≤ reachBytes := by
      intro i hil
      obtain ⟨cs', hc, ht⟩ := hi i (by omega)
      rw [cells22] at hc
      obtain ⟨y, rfl, hf, hwt⟩ := attr_of ht
      refine ⟨y, hc, hf, hw _ (.inr (.inl (mem_weightsAll (List.mem_map.2 ⟨i, List.mem_range.2 hil, rfl⟩) _ hwt)))⟩
    obtain ⟨f, hf⟩ := choose_lt hat
    refine ⟨(List.range len).map f, ?_, ?_⟩
    · have hcell : ∀ i, i < len → ∀ j u, (encA (f i))[j]? = some u → W.cell? ((a.add (i * 5)).add j) = some u := by
        intro i hil j u hu
        obtain ⟨_, _, hc⟩ := World.cells?_some (hf i hil).1
        have hj : j < 5 := (List.getElem?_eq_some_iff.1 hu).1
        rw [hc j hj, hu]
      by_cases h0 : len = 0
      · subst h0
        exact ⟨some a, cap, 0, 0, rfl, fun h => absurd rfl h, fun i hi => by simp at hi, by simp⟩
      · have hsp : a.spot = none := by
          have := hcell 0 (by omega) 0 _ rfl
          rw [Nat.zero_mul] at this
          exact World.cell?_spot (by simpa [Addr.add] using this)
        obtain ⟨b, o, spot⟩ := a
        simp only at hsp
        subst hsp
        have hadd : ∀ i j, ((⟨b, o, none⟩ : Addr).add i).add j = ⟨b, o + i + j, none⟩ := by
          intro i j
          unfold Addr.add
          by_cases hi : i = 0 <;> by_cases hj : j = 0 <;> simp [hi, hj]
        have hblk : b < W.heap.size := by
          have := hcell 0 (by omega) 0 _ rfl
          rw [hadd] at this
          exact World.block_lt_of_cell? W _ this
        refine ⟨some ⟨b, o, none⟩, cap, b, o, by simp, fun _ => ⟨rfl, hblk⟩, fun i hi j u hu => ?_, by simp; omega⟩
        have hil : i < len := by simpa using hi
        have := hcell i hil j u (by simpa [hil] using hu)
        rwa [hadd] at this
    · intro y hy
      obtain ⟨i, hi', rfl⟩ := List.mem_map.1 hy
      have := hf i (List.mem_range.1 hi')
      refine ⟨this.2.1, ?_⟩
      have h2 := Lib.size_eq (f i).nm
      omega
set_option maxRecDepth 100000 in
/-- An event that comes in. -/
theorem open_ev {b0 : Nat} {v : Value} {d : DataW H} {p : List MemPlace} (hv : Value.okWide Tryz.prog W .any b0 24 v) (h : DataW.Trod enc Tryz.prog W base spare held 24 v d p)
    (hw : ∀ n ∈ d.weights Tryz.prog 24, n ≤ reachBytes) : ∃ (key : ByteArray) (sl : Value) (l : List Attr), v = .agg #[.string key, sl] ∧ Sl W sl l ∧ Room l := by
  obtain ⟨c0, c1, y0, y1, m, rfl, rfl, _, h0, h1⟩ := Joins.open_agg2 Tryz.underlying24 (by kernel_rfl) cells24 hv h
  obtain ⟨key, e0, hy0, _⟩ := DataW.trod_string Tryz.underlying9 h0
  simp only [List.cons.injEq, and_true] at e0
  subst e0
  obtain ⟨l, hS, hR⟩ := open_row (v := c1) h1 (fun n hn => hw n (by
    simp only [DataW.weights, Tryz.underlying24, DataW.weightsEach, List.mem_append, List.map_cons, List.map_nil]
    exact .inr (.inl hn)))
  exact ⟨key, c1, l, rfl, hS, hR⟩
end
end Go.Proofs.YtgjniopcaahgfaaGreatDoor
