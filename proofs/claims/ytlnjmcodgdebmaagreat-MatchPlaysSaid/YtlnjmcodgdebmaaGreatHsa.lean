/- Layer 8: events with the length of their names, rows of predicates and of calls that come in as arguments, opened. -/
import Derived.Test.YtlnjmcodgdebmaaGreatKR
import Derived.Test.YtlnjmcodgdebmaaGreatHrj
set_option linter.unusedSimpArgs false
set_option linter.unusedVariables false
namespace Go.Proofs.YtlnjmcodgdebmaaGreat.Gm
open Go Go.ChangeShapes Go.WideShapes Go.ChangeAt Go.RowKit Go.Deep

/-- A predicate of a row of predicates. -/
def encP (u : Value × List Cn) : List Value := [u.1]
/-- Predicates in memory. -/
def Ps (w : World) (v : Value) (l : List (Value × List Cn)) : Prop := RowIn encP 1 w v l ∧ l.length ≤ 5864062014806 ∧ ∀ u ∈ l, Cs w u.1 u.2
theorem Ps.later {w w' : World} {v : Value} {l : List (Value × List Cn)} (h : Ps w v l) (hb : Below w.heap.size w w') : Ps w' v l := ⟨h.1.later hb, h.2.1, fun c hc => (h.2.2 c hc).later hb⟩
section
variable {H : Type} {enc : TypeId × Value → H} {W : World} {base : Nat} {spare : Nat → Bool} {held : Bool}
theorem bytesPn : Tryz.prog.bytesOf 31 = 24 := by kernel_rfl
theorem cellsPn : Tryz.prog.cellsOf 31 = 1 := by kernel_rfl
set_option maxRecDepth 100000 in
theorem at_of8 {fuel : Nat} {cs : List Value} {x : DataW H × List MemPlace} (h : DataW.trod enc Tryz.prog W base spare held fuel 66 cs = some x) : ∃ a : At, cs = encA a ∧ a.nm.size ≤ maxLen := by
  obtain ⟨zs, m, rfl, rfl, hlen, hzs, hg⟩ := DataW.trod_struct Tryz.underlying66 h
  rw [cellsAn] at hlen
  match cs, hlen with
  | [c0, c1, c2, c3, c4], _ =>
    match zs, hzs with
    | [z0, z1], _ =>
      obtain ⟨nm, e0, _, hnm⟩ := DataW.trod_string Tryz.underlying9 (x := z0) (cs := [c0]) (hg 0 _ rfl)
      have h1 : DataW.trod enc Tryz.prog W base spare held m 42 [c1, c2, c3, c4] = some z1 := hg 1 _ rfl
      obtain ⟨v, e1⟩ := val_of h1
      simp only [List.cons.injEq, and_true] at e0
      simp only [encV, List.cons.injEq, and_true] at e1
      obtain ⟨rfl, rfl, rfl, rfl⟩ := e1
      subst e0
      exact ⟨⟨nm, v⟩, rfl, hnm⟩
set_option maxRecDepth 100000 in
theorem open_esF8 {fuel : Nat} {v : Value} {x : DataW H × List MemPlace} (h : DataW.trod enc Tryz.prog W base spare held fuel 32 [v] = some x) (hw : ∀ n ∈ x.1.weights Tryz.prog 32, n ≤ reachBytes) : ∃ l : List At, Es W v l ∧ ∀ a ∈ l, a.nm.size ≤ maxLen := by
  obtain ⟨len, f, D, hR, hD, hQ⟩ := open_rowG (α := At) Tryz.underlying32 5 cellsAn (by decide) encA (fun a _ => a.nm.size ≤ maxLen) (fun fuel cs y _ hy => by obtain ⟨c, hc, hs⟩ := at_of8 hy; exact ⟨c, hc, hs⟩) h
  have h2 := (row_weights Tryz.underlying32 hw).1
  rw [hD, bytesAn, reachIs] at h2
  simp only [List.length_map, List.length_range] at h2
  have hlen : ((List.range len).map f).length = len := by rw [List.length_map, List.length_range]
  exact ⟨(List.range len).map f, ⟨hR, by rw [hlen]; omega⟩, fun a ha => by
    obtain ⟨i, hi, rfl⟩ := List.mem_map.1 ha
    exact hQ i (List.mem_range.1 hi)⟩
set_option maxRecDepth 100000 in
/-- An event's two cells. -/
theorem event_of8 {fuel : Nat} {cs : List Value} {x : DataW H × List MemPlace} (h : DataW.trod enc Tryz.prog W base spare held fuel 34 cs = some x) :
    ∃ (key : ByteArray) (p : Option Addr) (n c : Nat), cs = [.string key, .slice p n c] ∧ ((∀ n ∈ x.1.weights Tryz.prog 34, n ≤ reachBytes) → ∃ l : List At, Es W (.slice p n c) l ∧ ∀ a ∈ l, a.nm.size ≤ maxLen) := by
  obtain ⟨zs, m, rfl, rfl, hlen, hzs, hg⟩ := DataW.trod_struct Tryz.underlying34 h
  rw [cellsEn] at hlen
  match cs, hlen with
  | [c0, c1], _ =>
    match zs, hzs with
    | [z0, z1], _ =>
      obtain ⟨key, e0, _, _⟩ := DataW.trod_string Tryz.underlying9 (x := z0) (cs := [c0]) (hg 0 _ rfl)
      have h1 : DataW.trod enc Tryz.prog W base spare held m 32 [c1] = some z1 := hg 1 _ rfl
      simp only [List.cons.injEq, and_true] at e0
      subst e0
      have h1' : ∃ p n c, c1 = .slice p n c := by
        rcases open_slice Tryz.underlying32 h1 with ⟨hcs, _⟩ | ⟨a, len, cap, _, _, _, _, hcs, _⟩
        · simp only [List.cons.injEq, and_true] at hcs; exact ⟨_, _, _, hcs⟩
        · simp only [List.cons.injEq, and_true] at hcs; exact ⟨_, _, _, hcs⟩
      obtain ⟨p, n, c, rfl⟩ := h1'
      exact ⟨key, p, n, c, rfl, fun hw => open_esF8 h1 (fun n hn => hw n (by
        simp only [DataW.weights, Tryz.underlying34, DataW.weightsEach, List.mem_append, List.map_cons, List.map_nil]
        exact .inr (.inl hn)))⟩
set_option maxRecDepth 100000 in
/-- An event that comes in. -/
theorem open_event8 {b0 : Nat} {v : Value} {d : DataW H} {p : List MemPlace} (hv : Value.okWide Tryz.prog W .any b0 34 v) (h : DataW.Trod enc Tryz.prog W base spare held 34 v d p)
    (hw : ∀ n ∈ d.weights Tryz.prog 34, n ≤ reachBytes) : ∃ (key : ByteArray) (sl : Value) (l : List At), v = .agg #[.string key, sl] ∧ Es W sl l ∧ ∀ a ∈ l, a.nm.size ≤ maxLen := by
  obtain ⟨c0, c1, y0, y1, m, rfl, rfl, _, h0, h1⟩ := Joins.open_agg2 Tryz.underlying34 (by kernel_rfl) cellsEn hv h
  obtain ⟨key, e0, hy0, _⟩ := DataW.trod_string Tryz.underlying9 h0
  simp only [List.cons.injEq, and_true] at e0
  subst e0
  obtain ⟨l, hl, hs⟩ := open_esF8 (v := c1) h1 (fun n hn => hw n (by
    simp only [DataW.weights, Tryz.underlying34, DataW.weightsEach, List.mem_append, List.map_cons, List.map_nil]
    exact .inr (.inl hn)))
  exact ⟨key, c1, l, rfl, hl, hs⟩
set_option maxRecDepth 100000 in
theorem slice_form8 {fuel : Nat} {T e : TypeId} (ht : Tryz.prog.underlying T = some (.slice e)) {c : Value} {x : DataW H × List MemPlace} (h : DataW.trod enc Tryz.prog W base spare held fuel T [c] = some x) : ∃ p n k, c = .slice p n k := by
  rcases open_slice ht h with ⟨hcs, _⟩ | ⟨a, len, cap, _, _, _, _, hcs, _⟩
  · simp only [List.cons.injEq, and_true] at hcs; exact ⟨_, _, _, hcs⟩
  · simp only [List.cons.injEq, and_true] at hcs; exact ⟨_, _, _, hcs⟩
set_option maxRecDepth 100000 in
theorem con_of8 {fuel : Nat} {cs : List Value} {x : DataW H × List MemPlace} (h : DataW.trod enc Tryz.prog W base spare held fuel 45 cs = some x) : ∃ c : Cn, cs = encC c ∧ ((∀ n ∈ x.1.weights Tryz.prog 45, n ≤ reachBytes) → Vs W c.sv c.set ∧ c.nm.size ≤ reachBytes) := by
  obtain ⟨c, hc, hq⟩ := con_of h
  refine ⟨c, hc, fun hw => ⟨hq hw, ?_⟩⟩
  obtain ⟨zs, m, rfl, rfl, hlen, hzs, hg⟩ := DataW.trod_struct Tryz.underlying45 h
  subst hc
  match zs, hzs with
  | [z0, z1, z2, z3], _ =>
    obtain ⟨nm, e0, ez, _⟩ := DataW.trod_string Tryz.underlying9 (x := z0) (cs := [.string c.nm]) (hg 0 _ rfl)
    simp only [List.cons.injEq, and_true, Value.string.injEq] at e0
    subst e0
    have hlen2 := hw c.nm.data.toList.length (by
      simp only [DataW.weights, Tryz.underlying45, DataW.weightsEach, List.mem_append, List.map_cons, List.map_nil, ez]
      exact .inl (List.mem_singleton.2 rfl))
    rw [Array.length_toList] at hlen2
    exact hlen2
set_option maxRecDepth 100000 in
theorem open_csF8 {T : TypeId} (ht : Tryz.prog.underlying T = some (.slice 45)) {fuel : Nat} {v : Value} {x : DataW H × List MemPlace} (h : DataW.trod enc Tryz.prog W base spare held fuel T [v] = some x) (hw : ∀ n ∈ x.1.weights Tryz.prog T, n ≤ reachBytes) : ∃ l : List Cn, Cs W v l ∧ ∀ c ∈ l, c.nm.size ≤ reachBytes := by
  obtain ⟨len, f, D, hR, hD, hQ⟩ := open_rowG (α := Cn) ht 7 cellsCn (by decide) encC (fun c d => (∀ n ∈ d.weights Tryz.prog 45, n ≤ reachBytes) → Vs W c.sv c.set ∧ c.nm.size ≤ reachBytes) (fun fuel cs y _ hy => con_of8 hy) h
  have h2 := row_weights ht hw
  rw [hD, bytesCn] at h2
  simp only [List.length_map, List.length_range] at h2
  have hlen : ((List.range len).map f).length = len := by rw [List.length_map, List.length_range]
  have hq : ∀ c ∈ (List.range len).map f, Vs W c.sv c.set ∧ c.nm.size ≤ reachBytes := fun c hc => by
    obtain ⟨i, hi, rfl⟩ := List.mem_map.1 hc
    exact hQ i (List.mem_range.1 hi) (fun n hn => h2.2 (D i) (List.mem_map.2 ⟨i, hi, rfl⟩) n hn)
  exact ⟨(List.range len).map f, ⟨hR, by rw [hlen]; have := h2.1; rw [reachIs] at this; omega, fun c hc => (hq c hc).1⟩, fun c hc => (hq c hc).2⟩
set_option maxRecDepth 100000 in
theorem pred_of8 {fuel : Nat} {c : Value} {x : DataW H × List MemPlace} (h : DataW.trod enc Tryz.prog W base spare held fuel 31 [c] = some x) : ∃ (p : Option Addr) (k : Nat) (l : List Cn), c = .slice p l.length k ∧ ((∀ n ∈ x.1.weights Tryz.prog 31, n ≤ reachBytes) → Cs W c l ∧ ∀ c ∈ l, c.nm.size ≤ reachBytes) := by
  obtain ⟨p, n, k, rfl⟩ := slice_form8 Tryz.underlying31 h
  by_cases hw : ∀ n ∈ x.1.weights Tryz.prog 31, n ≤ reachBytes
  · obtain ⟨l, hl, hns⟩ := open_csF8 Tryz.underlying31 h hw
    obtain ⟨p', cap', hf⟩ := hl.1.form
    simp only [Value.slice.injEq] at hf
    obtain ⟨rfl, rfl, rfl⟩ := hf
    exact ⟨p, k, l, rfl, fun _ => ⟨hl, hns⟩⟩
  · exact ⟨p, k, List.replicate n default, by simp, fun hw' => absurd hw' hw⟩
set_option maxRecDepth 100000 in
/-- A row of predicates that comes in. -/
theorem open_preds {b0 : Nat} {v : Value} {d : DataW H} {p : List MemPlace} (hv : Value.okWide Tryz.prog W .any b0 59 v) (h : DataW.Trod enc Tryz.prog W base spare held 59 v d p) (hw : ∀ n ∈ d.weights Tryz.prog 59, n ≤ reachBytes) : ∃ l : List (Value × List Cn), Ps W v l := by
  obtain ⟨a0, len0, cap, rfl⟩ := okWide_slice Tryz.underlying59 hv
  obtain ⟨fuel, hf⟩ := h
  obtain ⟨len, f, D, hR, hD, hQ⟩ := open_rowG (α := Value × List Cn) Tryz.underlying59 1 cellsPn (by decide) encP (fun u d => (∀ n ∈ d.weights Tryz.prog 31, n ≤ reachBytes) → Cs W u.1 u.2) (fun fuel cs y hl hy => by
    match cs, hl with
    | [c], _ =>
      obtain ⟨p, k, l, rfl, hq⟩ := pred_of8 hy
      exact ⟨(_, l), rfl, fun hw => (hq hw).1⟩) hf
  have h2 := row_weights Tryz.underlying59 hw
  rw [hD, bytesPn, reachIs] at h2
  simp only [List.length_map, List.length_range] at h2
  have hlen : ((List.range len).map f).length = len := by rw [List.length_map, List.length_range]
  refine ⟨(List.range len).map f, hR, by rw [hlen]; omega, fun c hc => ?_⟩
  obtain ⟨i, hi, rfl⟩ := List.mem_map.1 hc
  have hi' := List.mem_range.1 hi
  exact hQ i hi' (fun n hn => by rw [reachIs]; exact h2.2 (D i) (List.mem_map.2 ⟨i, hi, rfl⟩) n hn)

/-- A call of a row of calls: what, the number, a predicate, an event. -/
structure Act8 where
  what : Int
  id : Int
  pa : Option Addr
  pc : Nat
  p : List Cn
  key : ByteArray
  ea : Option Addr
  en : Nat
  ec : Nat
  e : List At
instance : Inhabited Act8 := ⟨⟨0, 0, none, 0, [], ⟨#[]⟩, none, 0, 0, []⟩⟩
def Act8.pv (a : Act8) : Value := .slice a.pa a.p.length a.pc
def Act8.ev (a : Act8) : Value := .slice a.ea a.en a.ec
def encT (a : Act8) : List Value := [.int .i64 a.what, .int .i64 a.id, .slice a.pa a.p.length a.pc, .string a.key, .slice a.ea a.en a.ec]
/-- Calls in memory. -/
def Ts (w : World) (v : Value) (l : List Act8) : Prop := RowIn encT 5 w v l ∧ l.length ≤ 5864062014806 ∧ ∀ a ∈ l, Cs w a.pv a.p ∧ Es w a.ev a.e ∧ (∀ x ∈ a.e, x.nm.size ≤ maxLen) ∧ (Lit.int .i64 a.id).wf = true ∧ ∀ c ∈ a.p, c.nm.size ≤ reachBytes
theorem Ts.later {w w' : World} {v : Value} {l : List Act8} (h : Ts w v l) (hb : Below w.heap.size w w') : Ts w' v l := ⟨h.1.later hb, h.2.1, fun c hc => ⟨(h.2.2 c hc).1.later hb, (h.2.2 c hc).2.1.later hb, (h.2.2 c hc).2.2⟩⟩
theorem cellsTn : Tryz.prog.cellsOf 36 = 5 := by kernel_rfl
theorem bytesTn : 24 ≤ Tryz.prog.bytesOf 36 := by
  have e : Tryz.prog.bytesOf 36 = 80 := by kernel_rfl
  rw [e]; decide
set_option maxRecDepth 100000 in
theorem act_of8 {fuel : Nat} {cs : List Value} {x : DataW H × List MemPlace} (h : DataW.trod enc Tryz.prog W base spare held fuel 36 cs = some x) :
    ∃ a : Act8, cs = encT a ∧ ((∀ n ∈ x.1.weights Tryz.prog 36, n ≤ reachBytes) → Cs W a.pv a.p ∧ Es W a.ev a.e ∧ (∀ x ∈ a.e, x.nm.size ≤ maxLen) ∧ (Lit.int .i64 a.id).wf = true ∧ ∀ c ∈ a.p, c.nm.size ≤ reachBytes) := by
  obtain ⟨zs, m, rfl, rfl, hlen, hzs, hg⟩ := DataW.trod_struct Tryz.underlying36 h
  rw [cellsTn] at hlen
  match cs, hlen with
  | [c0, c1, c2, c3, c4], _ =>
    match zs, hzs with
    | [z0, z1, z2, z3], _ =>
      obtain ⟨what, e0, _, _⟩ := DataW.trod_int Tryz.underlying3 (x := z0) (cs := [c0]) (hg 0 _ rfl)
      obtain ⟨id, e1, _, hid⟩ := DataW.trod_int Tryz.underlying3 (x := z1) (cs := [c1]) (hg 1 _ rfl)
      have h2 : DataW.trod enc Tryz.prog W base spare held m 31 [c2] = some z2 := hg 2 _ rfl
      have h3 : DataW.trod enc Tryz.prog W base spare held m 34 [c3, c4] = some z3 := hg 3 _ rfl
      simp only [List.cons.injEq, and_true] at e0 e1
      subst e0 e1
      obtain ⟨pa, pc, l, rfl, hp⟩ := pred_of8 h2
      obtain ⟨key, ea, en, ec, e3, he⟩ := event_of8 h3
      simp only [List.cons.injEq, and_true] at e3
      obtain ⟨rfl, rfl⟩ := e3
      by_cases hw : ∀ n ∈ z3.1.weights Tryz.prog 34, n ≤ reachBytes
      · obtain ⟨al, h4, h5⟩ := he hw
        exact ⟨⟨what, id, pa, pc, l, key, ea, en, ec, al⟩, rfl, fun hw' => by
          have hpp := hp (fun n hn => hw' n (by
          simp only [DataW.weights, Tryz.underlying36, DataW.weightsEach, List.mem_append, List.map_cons, List.map_nil]
          exact .inr (.inr (.inl hn))))
          exact ⟨hpp.1, h4, h5, hid, hpp.2⟩⟩
      · refine ⟨⟨what, id, pa, pc, l, key, ea, en, ec, []⟩, rfl, fun hw' => absurd (fun n hn => hw' n ?_) hw⟩
        simp only [DataW.weights, Tryz.underlying36, DataW.weightsEach, List.mem_append, List.map_cons, List.map_nil]
        exact .inr (.inr (.inr (.inl hn)))
set_option maxRecDepth 100000 in
/-- A row of calls that comes in. -/
theorem open_acts {b0 : Nat} {v : Value} {d : DataW H} {p : List MemPlace} (hv : Value.okWide Tryz.prog W .any b0 22 v) (h : DataW.Trod enc Tryz.prog W base spare held 22 v d p) (hw : ∀ n ∈ d.weights Tryz.prog 22, n ≤ reachBytes) : ∃ l : List Act8, Ts W v l := by
  obtain ⟨a0, len0, cap, rfl⟩ := okWide_slice Tryz.underlying22 hv
  obtain ⟨fuel, hf⟩ := h
  obtain ⟨len, f, D, hR, hD, hQ⟩ := open_rowG (α := Act8) Tryz.underlying22 5 cellsTn (by decide) encT (fun a d => (∀ n ∈ d.weights Tryz.prog 36, n ≤ reachBytes) → Cs W a.pv a.p ∧ Es W a.ev a.e ∧ (∀ x ∈ a.e, x.nm.size ≤ maxLen) ∧ (Lit.int .i64 a.id).wf = true ∧ ∀ c ∈ a.p, c.nm.size ≤ reachBytes) (fun fuel cs y hl hy => act_of8 hy) hf
  have h2 := row_weights Tryz.underlying22 hw
  rw [hD, reachIs] at h2
  simp only [List.length_map, List.length_range] at h2
  have hlen : ((List.range len).map f).length = len := by rw [List.length_map, List.length_range]
  refine ⟨(List.range len).map f, hR, ?_, fun c hc => ?_⟩
  · rw [hlen]
    have := Nat.le_trans (Nat.mul_le_mul_left len bytesTn) h2.1
    omega
  obtain ⟨i, hi, rfl⟩ := List.mem_map.1 hc
  have hi' := List.mem_range.1 hi
  exact hQ i hi' (fun n hn => by rw [reachIs]; exact h2.2 (D i) (List.mem_map.2 ⟨i, hi, rfl⟩) n hn)
end
end Go.Proofs.YtlnjmcodgdebmaaGreat.Gm
