/- Events, items and pages that come in as arguments, opened. -/
import Derived.Test.YtkfheodcmhodpaaGreatKop
import Derived.Test.YtkfheodcmhodpaaGreatTp
set_option linter.unusedSimpArgs false
set_option linter.unusedVariables false
namespace Go.Proofs.YtkfheodcmhodpaaGreat.Gm
open Go Go.ChangeShapes Go.WideShapes Go.ChangeAt Go.RowKit Go.Deep

section
variable {H : Type} {enc : TypeId × Value → H} {W : World} {base : Nat} {spare : Nat → Bool} {held : Bool}
theorem cellsAo : Tryz.prog.cellsOf 104 = 5 := by kernel_rfl
theorem cellsEo : Tryz.prog.cellsOf 49 = 2 := by kernel_rfl
theorem cellsIo : Tryz.prog.cellsOf 51 = 4 := by kernel_rfl
theorem cellsGo : Tryz.prog.cellsOf 53 = 2 := by kernel_rfl
theorem cellsPo : Tryz.prog.cellsOf 26 = 5 := by kernel_rfl
theorem bytesAo : Tryz.prog.bytesOf 104 = 56 := by kernel_rfl
theorem bytesIo : Tryz.prog.bytesOf 51 = 56 := by kernel_rfl
theorem bytesGo : Tryz.prog.bytesOf 53 = 16 := by kernel_rfl
theorem u64_wf {n : Int} (h : (Lit.int .u64 n).wf = true) : ∃ k : Nat, n = (k : Int) ∧ k < 18446744073709551616 := by
  simp only [Lit.wf, Bool.and_eq_true, decide_eq_true_eq] at h
  have e1 : IntKind.u64.min = 0 := by decide
  have e2 : IntKind.u64.max = 18446744073709551615 := by decide
  rw [e1, e2] at h
  exact ⟨n.toNat, by omega, by omega⟩
set_option maxRecDepth 100000 in
/-- Five cells that read as an attribute. -/
theorem attr_of {fuel : Nat} {cs : List Value} {x : DataW H × List MemPlace} (h : DataW.trod enc Tryz.prog W base spare held fuel 104 cs = some x) :
    ∃ a : Attr, cs = encA a ∧ FitsI a.n ∧ ((∀ n ∈ x.1.weights Tryz.prog 104, n ≤ reachBytes) → a.nm.size ≤ 140737488351232) := by
  obtain ⟨xs, n, rfl, rfl, hlen, hxs, hf⟩ := DataW.trod_struct Tryz.underlying104 h
  rw [cellsAo] at hlen
  match cs, hlen with
  | [c0, c1, c2, c3, c4], _ =>
    match xs, hxs with
    | [y0, y1], _ =>
      have h0 := hf 0 _ rfl
      have h1 := hf 1 _ rfl
      obtain ⟨nm, e0, hy0, _⟩ := DataW.trod_string Tryz.underlying9 (x := y0) (cs := [c0]) h0
      have h1' : DataW.trod enc Tryz.prog W base spare held n 69 [c1, c2, c3, c4] = some y1 := h1
      obtain ⟨v, e1, hr⟩ := val_of h1'
      simp only [List.cons.injEq, and_true] at e0
      simp only [encV, List.cons.injEq, and_true] at e1
      obtain ⟨rfl, rfl, rfl, rfl⟩ := e1
      subst e0 hy0
      refine ⟨⟨nm, v.k, v.n, v.s, v.b⟩, rfl, hr, fun hw => ?_⟩
      have := hw nm.data.toList.length (by simp [DataW.weights, DataW.weightsEach, Tryz.underlying104])
      rw [reachIs] at this
      have h2 : nm.data.toList.length = nm.size := rfl
      simp only
      omega
set_option maxRecDepth 100000 in
/-- A row of attributes. -/
theorem open_asF {fuel : Nat} {v : Value} {x : DataW H × List MemPlace} (h : DataW.trod enc Tryz.prog W base spare held fuel 47 [v] = some x) (hw : ∀ n ∈ x.1.weights Tryz.prog 47, n ≤ reachBytes) : ∃ l : List Attr, Sl W v l ∧ Room l := by
  obtain ⟨len, f, D, hR, hD, hQ⟩ := open_rowG (α := Attr) Tryz.underlying47 5 cellsAo (by decide) encA (fun a d => FitsI a.n ∧ ((∀ n ∈ d.weights Tryz.prog 104, n ≤ reachBytes) → a.nm.size ≤ 140737488351232)) (fun fuel cs y _ hy => by obtain ⟨a, h1, h2⟩ := attr_of hy; exact ⟨a, h1, h2⟩) h
  have h2 := row_weights Tryz.underlying47 hw
  rw [hD, bytesAo, reachIs] at h2
  simp only [List.length_map, List.length_range] at h2
  have hlen : ((List.range len).map f).length = len := by rw [List.length_map, List.length_range]
  obtain ⟨p, cap, b, o, h1, _, h3, _, h5⟩ := hR
  refine ⟨(List.range len).map f, ⟨p, cap, b, o, h1, h3, h5, by rw [hlen]; omega⟩, fun a ha => ?_⟩
  obtain ⟨i, hi, rfl⟩ := List.mem_map.1 ha
  obtain ⟨q1, q2⟩ := hQ i (List.mem_range.1 hi)
  exact ⟨q1, q2 (fun n hn => by rw [reachIs]; exact h2.2 (D i) (List.mem_map.2 ⟨i, hi, rfl⟩) n hn)⟩
theorem slice_shape {fuel : Nat} {T e : TypeId} (ht : Tryz.prog.underlying T = some (.slice e)) {c : Value} {x : DataW H × List MemPlace} (h : DataW.trod enc Tryz.prog W base spare held fuel T [c] = some x) : ∃ p n cap, c = .slice p n cap := by
  rcases open_slice ht h with ⟨hcs, _⟩ | ⟨a, len, cap, _, _, _, _, hcs, _⟩
  · simp only [List.cons.injEq, and_true] at hcs; exact ⟨_, _, _, hcs⟩
  · simp only [List.cons.injEq, and_true] at hcs; exact ⟨_, _, _, hcs⟩
set_option maxRecDepth 100000 in
/-- An event that comes in. -/
theorem open_evt {b0 : Nat} {v : Value} {d : DataW H} {p : List MemPlace} (hv : Value.okWide Tryz.prog W .any b0 49 v) (h : DataW.Trod enc Tryz.prog W base spare held 49 v d p)
    (hw : ∀ n ∈ d.weights Tryz.prog 49, n ≤ reachBytes) : ∃ (key : ByteArray) (sl : Value) (l : List Attr), v = .agg #[.string key, sl] ∧ Sl W sl l ∧ Room l := by
  obtain ⟨c0, c1, y0, y1, m, rfl, rfl, _, h0, h1⟩ := Joins.open_agg2 Tryz.underlying49 (by kernel_rfl) cellsEo hv h
  obtain ⟨key, e0, hy0, _⟩ := DataW.trod_string Tryz.underlying9 h0
  simp only [List.cons.injEq, and_true] at e0
  subst e0
  obtain ⟨l, hS, hR⟩ := open_asF (v := c1) h1 (fun n hn => hw n (by
    simp only [DataW.weights, Tryz.underlying49, DataW.weightsEach, List.mem_append, List.map_cons, List.map_nil]
    exact .inr (.inl hn)))
  exact ⟨key, c1, l, rfl, hS, hR⟩
set_option maxRecDepth 100000 in
/-- Four cells that read as an item. -/
theorem item_of {fuel : Nat} {cs : List Value} {x : DataW H × List MemPlace} (h : DataW.trod enc Tryz.prog W base spare held fuel 51 cs = some x) :
    ∃ c : Im, cs = encI c ∧ c.n < 18446744073709551616 ∧ c.t < 18446744073709551616 ∧ ((∀ n ∈ x.1.weights Tryz.prog 51, n ≤ reachBytes) → Sl W c.av c.at_ ∧ Room c.at_) := by
  obtain ⟨zs, m, rfl, rfl, hlen, hzs, hg⟩ := DataW.trod_struct Tryz.underlying51 h
  rw [cellsIo] at hlen
  match cs, hlen with
  | [c0, c1, c2, c3], _ =>
    match zs, hzs with
    | [z0, z1, z2], _ =>
      obtain ⟨n, e0, _, r0⟩ := DataW.trod_int Tryz.underlying22 (x := z0) (cs := [c0]) (hg 0 _ rfl)
      obtain ⟨t, e1, _, r1⟩ := DataW.trod_int Tryz.underlying22 (x := z1) (cs := [c1]) (hg 1 _ rfl)
      have h2 : DataW.trod enc Tryz.prog W base spare held m 49 [c2, c3] = some z2 := hg 2 _ rfl
      obtain ⟨ys, m2, rfl, rfl, _, hys, hk⟩ := DataW.trod_struct Tryz.underlying49 h2
      match ys, hys with
      | [y0, y1], _ =>
        obtain ⟨key, e2, _, _⟩ := DataW.trod_string Tryz.underlying9 (x := y0) (cs := [c2]) (hk 0 _ rfl)
        have h3 : DataW.trod enc Tryz.prog W base spare held m2 47 [c3] = some y1 := hk 1 _ rfl
        obtain ⟨p, nn, cap, rfl⟩ := slice_shape Tryz.underlying47 h3
        simp only [List.cons.injEq, and_true] at e0 e1 e2
        subst e0 e1 e2
        obtain ⟨n, rfl, rn⟩ := u64_wf r0
        obtain ⟨t, rfl, rt⟩ := u64_wf r1
        by_cases hw : ∀ n ∈ y1.1.weights Tryz.prog 47, n ≤ reachBytes
        · obtain ⟨l, hl, hlr⟩ := open_asF h3 hw
          obtain ⟨p', cap', b, o, hf, _⟩ := id hl
          simp only [Value.slice.injEq] at hf
          obtain ⟨rfl, rfl, rfl⟩ := hf
          exact ⟨⟨n, t, key, p, cap, l⟩, rfl, rn, rt, fun _ => ⟨hl, hlr⟩⟩
        · refine ⟨⟨n, t, key, p, cap, List.replicate nn default⟩, by simp [encI], rn, rt, fun hw' => absurd (fun k hn => hw' k ?_) hw⟩
          simp only [DataW.weights, Tryz.underlying51, Tryz.underlying49, DataW.weightsEach, List.mem_append, List.map_cons, List.map_nil]
          exact .inr (.inr (.inl (.inr (.inl hn))))
set_option maxRecDepth 100000 in
theorem gap_of {fuel : Nat} {cs : List Value} {x : DataW H × List MemPlace} (h : DataW.trod enc Tryz.prog W base spare held fuel 53 cs = some x) : ∃ c : Gp, cs = encG c ∧ c.1 < 18446744073709551616 ∧ c.2 < 18446744073709551616 := by
  obtain ⟨zs, m, rfl, rfl, hlen, hzs, hg⟩ := DataW.trod_struct Tryz.underlying53 h
  rw [cellsGo] at hlen
  match cs, hlen with
  | [c0, c1], _ =>
    match zs, hzs with
    | [z0, z1], _ =>
      obtain ⟨n, e0, _, r0⟩ := DataW.trod_int Tryz.underlying22 (x := z0) (cs := [c0]) (hg 0 _ rfl)
      obtain ⟨t, e1, _, r1⟩ := DataW.trod_int Tryz.underlying22 (x := z1) (cs := [c1]) (hg 1 _ rfl)
      simp only [List.cons.injEq, and_true] at e0 e1
      subst e0 e1
      obtain ⟨n, rfl, rn⟩ := u64_wf r0
      obtain ⟨t, rfl, rt⟩ := u64_wf r1
      exact ⟨(n, t), rfl, rn, rt⟩
set_option maxRecDepth 100000 in
/-- A row of items; a row of gaps. -/
theorem open_isF {fuel : Nat} {v : Value} {x : DataW H × List MemPlace} (h : DataW.trod enc Tryz.prog W base spare held fuel 23 [v] = some x) (hw : ∀ n ∈ x.1.weights Tryz.prog 23, n ≤ reachBytes) : ∃ l : List Im, Its W v l ∧ l.length * 56 ≤ 140737488351232 ∧ ∃ p cap, v = .slice p l.length cap ∧ RowIn encI 4 W v l := by
  obtain ⟨len, f, D, hR, hD, hQ⟩ := open_rowG (α := Im) Tryz.underlying23 4 cellsIo (by decide) encI (fun c d => c.n < 18446744073709551616 ∧ c.t < 18446744073709551616 ∧ ((∀ n ∈ d.weights Tryz.prog 51, n ≤ reachBytes) → Sl W c.av c.at_ ∧ Room c.at_)) (fun fuel cs y _ hy => by obtain ⟨a, h1, h2⟩ := item_of hy; exact ⟨a, h1, h2⟩) h
  have h2 := row_weights Tryz.underlying23 hw
  rw [hD, bytesIo, reachIs] at h2
  simp only [List.length_map, List.length_range] at h2
  have hlen : ((List.range len).map f).length = len := by rw [List.length_map, List.length_range]
  refine ⟨(List.range len).map f, ⟨rowL_in hR, by rw [hlen]; omega, fun c hc => ?_⟩, by rw [hlen]; exact h2.1, ?_⟩
  · obtain ⟨i, hi, rfl⟩ := List.mem_map.1 hc
    obtain ⟨q1, q2, q3⟩ := hQ i (List.mem_range.1 hi)
    obtain ⟨q4, q5⟩ := q3 (fun n hn => by rw [reachIs]; exact h2.2 (D i) (List.mem_map.2 ⟨i, hi, rfl⟩) n hn)
    exact ⟨q4, q5, q1, q2⟩
  · obtain ⟨p, cap, e⟩ := hR.form
    exact ⟨p, cap, e, hR⟩
set_option maxRecDepth 100000 in
theorem open_gsF {fuel : Nat} {v : Value} {x : DataW H × List MemPlace} (h : DataW.trod enc Tryz.prog W base spare held fuel 24 [v] = some x) (hw : ∀ n ∈ x.1.weights Tryz.prog 24, n ≤ reachBytes) : ∃ l : List Gp, Gps W v l ∧ ∃ p cap, v = .slice p l.length cap := by
  obtain ⟨len, f, D, hR, hD, hQ⟩ := open_rowG (α := Gp) Tryz.underlying24 2 cellsGo (by decide) encG (fun c d => c.1 < 18446744073709551616 ∧ c.2 < 18446744073709551616) (fun fuel cs y _ hy => gap_of hy) h
  have h2 := row_weights Tryz.underlying24 hw
  rw [hD, bytesGo, reachIs] at h2
  simp only [List.length_map, List.length_range] at h2
  have hlen : ((List.range len).map f).length = len := by rw [List.length_map, List.length_range]
  refine ⟨(List.range len).map f, ⟨rowL_in hR, by rw [hlen]; omega, fun c hc => ?_⟩, ?_⟩
  · obtain ⟨i, hi, rfl⟩ := List.mem_map.1 hc
    exact hQ i (List.mem_range.1 hi)
  · obtain ⟨p, cap, e⟩ := hR.form
    exact ⟨p, cap, e⟩
set_option maxRecDepth 100000 in
/-- An item that comes in. -/
theorem open_item {b0 : Nat} {v : Value} {d : DataW H} {p : List MemPlace} (hv : Value.okWide Tryz.prog W .any b0 51 v) (h : DataW.Trod enc Tryz.prog W base spare held 51 v d p)
    (hw : ∀ n ∈ d.weights Tryz.prog 51, n ≤ reachBytes) : ∃ c : Im, v = ii c ∧ c.n < 18446744073709551616 ∧ c.t < 18446744073709551616 ∧ Sl W c.av c.at_ ∧ Room c.at_ := by
  obtain ⟨cs, rfl, hsz⟩ := okWide_struct Tryz.underlying51 hv
  obtain ⟨fuel, hf⟩ := h
  obtain ⟨c, hc, h1, h2, h3⟩ := item_of hf
  obtain ⟨h4, h5⟩ := h3 hw
  refine ⟨c, ?_, h1, h2, h4, h5⟩
  have e : cs.toList = encI c := hc
  show Value.agg cs = Value.agg (encI c).toArray
  rw [← e]
set_option maxRecDepth 100000 in
/-- A page that comes in. -/
theorem open_page {b0 : Nat} {v : Value} {d : DataW H} {p : List MemPlace} (hv : Value.okWide Tryz.prog W .any b0 26 v) (h : DataW.Trod enc Tryz.prog W base spare held 26 v d p)
    (hw : ∀ n ∈ d.weights Tryz.prog 26, n ≤ reachBytes) : ∃ c : Pm, v = pp c ∧ PgIn W c ∧ c.its.length * 56 ≤ 140737488351232 ∧ RowIn encI 4 W c.iv c.its := by
  obtain ⟨cs, rfl, hsz⟩ := okWide_struct Tryz.underlying26 hv
  rw [cellsPo] at hsz
  obtain ⟨fuel, hf⟩ := h
  obtain ⟨zs, m, hx, hp, hlen, hzs, hg⟩ := DataW.trod_struct Tryz.underlying26 hf
  match zs, hzs with
  | [z0, z1, z2, z3, z4], _ =>
    obtain ⟨l, hl⟩ : ∃ l, cs.toList = l := ⟨_, rfl⟩
    have hll : l.length = 5 := by rw [← hl]; simpa using hsz
    have hcs : cs = l.toArray := by rw [← hl]
    subst hcs
    match l, hll with
    | [c0, c1, c2, c3, c4], _ =>
      obtain ⟨n, e0, _, r0⟩ := DataW.trod_int Tryz.underlying22 (x := z0) (cs := [c0]) (hg 0 _ rfl)
      obtain ⟨t, e1, _, r1⟩ := DataW.trod_int Tryz.underlying22 (x := z1) (cs := [c1]) (hg 1 _ rfl)
      have h2 : DataW.trod enc Tryz.prog W base spare held m 23 [c2] = some z2 := hg 2 _ rfl
      have h3 : DataW.trod enc Tryz.prog W base spare held m 24 [c3] = some z3 := hg 3 _ rfl
      obtain ⟨last, e4, _⟩ := DataW.trod_bool Tryz.underlying4 (x := z4) (cs := [c4]) (hg 4 _ rfl)
      simp only [List.cons.injEq, and_true] at e0 e1 e4
      subst e0 e1 e4
      obtain ⟨n, rfl, rn⟩ := u64_wf r0
      obtain ⟨t, rfl, rt⟩ := u64_wf r1
      have hd : d = .agg [z0.1, z1.1, z2.1, z3.1, z4.1] := congrArg Prod.fst hp
      subst hd
      obtain ⟨il, hI, hil, ip, ic, rfl, hRi⟩ := open_isF h2 (fun k hk => hw k (by
        simp only [DataW.weights, Tryz.underlying26, DataW.weightsEach, List.mem_append, List.map_cons, List.map_nil]
        exact .inr (.inr (.inl hk))))
      obtain ⟨gl, hG, gp, gc, rfl⟩ := open_gsF h3 (fun k hk => hw k (by
        simp only [DataW.weights, Tryz.underlying26, DataW.weightsEach, List.mem_append, List.map_cons, List.map_nil]
        exact .inr (.inr (.inr (.inl hk)))))
      exact ⟨⟨n, t, ip, ic, il, gp, gc, gl, last⟩, rfl, ⟨hI, hG, rn, rt⟩, hil, hRi⟩
end
end Go.Proofs.YtkfheodcmhodpaaGreat.Gm
