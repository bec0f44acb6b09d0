/- Rows of values and of constraints in memory: those that come in, those that the call owns. -/
import Derived.Test.YtlnjmcodgdebmaaGreatKa
import Derived.Deep.Slices
import Derived.SizedLaws
import Derived.ProofKit
import Derived.OpenShut
/- Values and constraints as they lie in memory: their cells. -/
/- Rows that come in as arguments, opened, whatever their elements are; their bulk. -/
set_option linter.unusedSimpArgs false
set_option linter.unusedVariables false
namespace Go.Proofs.YtlnjmcodgdebmaaGreat.Gm
open Go Go.ChangeShapes Go.WideShapes Go.ChangeAt Go.RowKit Go.Deep

section
variable {H : Type} {enc : TypeId × Value → H} {W : World} {base : Nat} {spare : Nat → Bool} {held : Bool}
/-- The elements that a slice's reading holds. -/
def elemsOf : DataW H → List (DataW H)
  | .slice es _ => es
  | _ => []
theorem bulk_one (d : DataW H) : 1 ≤ Rows.uptoBulk d := by
  cases d with
  | lit l => cases l <;> simp [Rows.uptoBulk]
  | _ => simp [Rows.uptoBulk]
theorem bulk_app (l r : List (DataW H)) : Rows.uptoBulkAll (l ++ r) = Rows.uptoBulkAll l + Rows.uptoBulkAll r := by
  induction l with
  | nil => simp [Rows.uptoBulkAll]
  | cons x l ih => simp only [List.cons_append, Rows.uptoBulkAll, ih]; omega
theorem bulk_elems (d : DataW H) : Rows.uptoBulkAll (elemsOf d) + 1 ≤ Rows.uptoBulk d := by
  cases d with
  | slice es sp => simp only [elemsOf, Rows.uptoBulk]; omega
  | lit l => have := bulk_one (DataW.lit (H := H) l); simpa [elemsOf, Rows.uptoBulkAll] using this
  | _ => simp [elemsOf, Rows.uptoBulkAll, Rows.uptoBulk]
/-- What each element weighs at the least, all weigh at the least. -/
theorem bulk_sum {α : Type} {f : Nat → α} {D : Nat → DataW H} (g : α → Nat) : ∀ n, (∀ i, i < n → g (f i) ≤ Rows.uptoBulk (D i)) → (((List.range n).map f).map g).sum ≤ Rows.uptoBulkAll ((List.range n).map D)
  | 0, _ => by simp
  | n + 1, h => by
    have ih := bulk_sum g n (fun i hi => h i (by omega))
    rw [List.range_succ, List.map_append, List.map_append, List.map_append, List.sum_append_nat, bulk_app]
    have := h n (by omega)
    simp only [List.map_cons, List.map_nil, List.sum_cons, List.sum_nil, Rows.uptoBulkAll] at this ⊢
    omega
theorem bulk_len (l : List (DataW H)) : l.length ≤ Rows.uptoBulkAll l := by
  induction l with
  | nil => simp
  | cons x r ih => have := bulk_one x; simp only [Rows.uptoBulkAll, List.length_cons]; omega
/-- A row in memory: elements of n cells each, as encA lays them. -/
def RowIn {α : Type} [Inhabited α] (encA : α → List Value) (n : Nat) (w : World) (v : Value) (l : List α) : Prop :=
  ∃ (p : Option Addr) (cap b o : Nat), v = .slice p l.length cap ∧ l.length ≤ cap ∧ (l ≠ [] → p = some ⟨b, o, none⟩ ∧ b < w.heap.size) ∧ (l = [] → p = none → cap = 0) ∧
    ∀ i, i < l.length → ∀ j u, (encA (l.getD i default))[j]? = some u → w.cell? ⟨b, o + i * n + j, none⟩ = some u
theorem world_cells {base : Nat} {w : World} {a : Addr} {n : Nat} {cs : List Value} (h : w.cells? base a n = some cs) : cs.length = n ∧ ∀ j, j < n → w.cell? (a.add j) = cs[j]? := by
  obtain ⟨_, h2, h3⟩ := World.cells?_some h
  exact ⟨h2, h3⟩
set_option maxRecDepth 100000 in
/-- A row that comes in. -/
theorem open_rowG {α : Type} [Inhabited α] {T e : TypeId} (ht : Tryz.prog.underlying T = some (.slice e)) (n : Nat) (hn : Tryz.prog.cellsOf e = n) (hn0 : 0 < n) (encA : α → List Value) (Q : α → DataW H → Prop) {fuel : Nat} {v : Value} {x : DataW H × List MemPlace}
    (helem : ∀ fuel cs y, cs.length = n → DataW.trod enc Tryz.prog W base spare held fuel e cs = some y → ∃ a, cs = encA a ∧ Q a y.1)
    (h : DataW.trod enc Tryz.prog W base spare held fuel T [v] = some x) :
    ∃ (len : Nat) (f : Nat → α) (D : Nat → DataW H), RowIn encA n W v ((List.range len).map f) ∧ elemsOf x.1 = (List.range len).map D ∧ ∀ i, i < len → Q (f i) (D i) := by
  rcases open_slice ht h with ⟨hcs, hx⟩ | ⟨a, len, cap, m, k, D, Pl, hcs, _, hl, hm, hmm, hx, hi⟩
  · simp only [List.cons.injEq, and_true] at hcs
    subst hcs hx
    exact ⟨0, fun _ => default, fun _ => .nil, ⟨none, 0, 0, 0, rfl, Nat.le_refl _, fun h => absurd rfl h, fun _ _ => rfl, fun i hi => by simp at hi⟩, rfl, fun i hi => by omega⟩
  · simp only [List.cons.injEq, and_true] at hcs
    subst hcs hx
    have hlm : len ≤ m := by rw [hmm]; split <;> omega
    have hat : ∀ i, i < len → ∃ y : α, W.cells? base (a.add (i * n)) n = some (encA y) ∧ Q y (D i) := by
      intro i hil
      obtain ⟨cs', hc, ht'⟩ := hi i (by omega)
      rw [hn] at hc
      obtain ⟨y, rfl, hq⟩ := helem _ _ _ (world_cells hc).1 ht'
      exact ⟨y, hc, hq⟩
    obtain ⟨f, hf⟩ := choose_lt hat
    refine ⟨len, f, D, ?_, rfl, fun i hil => (hf i hil).2⟩
    have hcell : ∀ i, i < len → ∀ j u, (encA (f i))[j]? = some u → W.cell? ((a.add (i * n)).add j) = some u := by
      intro i hil j u hu
      obtain ⟨h1, h2⟩ := world_cells (hf i hil).1
      have hj : j < n := by have := (List.getElem?_eq_some_iff.1 hu).1; omega
      rw [h2 j hj, hu]
    by_cases h0 : len = 0
    · subst h0
      exact ⟨some a, cap, 0, 0, rfl, by simp, fun h => absurd rfl h, fun _ h => (by cases h), fun i hi => by simp at hi⟩
    · have hne : ∃ u, (encA (f 0))[0]? = some u := by
        have h1 := (world_cells (hf 0 (by omega)).1).1
        exact ⟨(encA (f 0))[0]'(by omega), List.getElem?_eq_getElem _⟩
      obtain ⟨u0, hu0⟩ := hne
      have hsp : a.spot = none := by
        have := hcell 0 (by omega) 0 _ hu0
        rw [Nat.zero_mul] at this
        exact World.cell?_spot (by simpa [Addr.add] using this)
      obtain ⟨b, o, spot⟩ := a
      simp only at hsp
      subst hsp
      have hadd : ∀ i j, ((⟨b, o, none⟩ : Addr).add i).add j = ⟨b, o + i + j, none⟩ := by
        intro i j
        unfold Addr.add
        by_cases hi : i = 0 <;> by_cases hj : j = 0 <;> simp [hi, hj]
      have hblk : b < W.heap.size := by
        have := hcell 0 (by omega) 0 _ hu0
        rw [hadd] at this
        exact World.block_lt_of_cell? W _ this
      refine ⟨some ⟨b, o, none⟩, cap, b, o, by simp, by simpa using hl, fun _ => ⟨rfl, hblk⟩, fun h => by simp [h0] at h, fun i hi j u hu => ?_⟩
      have hil : i < len := by simpa using hi
      have := hcell i hil j u (by simpa [hil] using hu)
      rwa [hadd] at this
end
theorem own : ownKnob Tryz.prog.godebug = none := by kernel_rfl
theorem laidOut : laidOutB Tryz.prog = true := by kernel_rfl
end Go.Proofs.YtlnjmcodgdebmaaGreat.Gm
set_option linter.unusedSimpArgs false
set_option linter.unusedVariables false
namespace Go.Proofs.YtlnjmcodgdebmaaGreat.Gm
open Go Go.RowKit

structure Vl where
  k : Int
  n : Int
  s : ByteArray
  b : Bool
instance : Inhabited Vl := ⟨⟨0, 0, ⟨#[]⟩, false⟩⟩
def encV (x : Vl) : List Value := [.int .i64 x.k, .int .i64 x.n, .string x.s, .bool x.b]
abbrev vv (x : Vl) : Value := .agg #[.int .i64 x.k, .int .i64 x.n, .string x.s, .bool x.b]
/-- A constraint; its Set as it lies in memory, and what it holds. -/
structure Cn where
  nm : ByteArray
  op : Int
  v : Vl
  sp : Option Addr
  sc : Nat
  set : List Vl
instance : Inhabited Cn := ⟨⟨⟨#[]⟩, 0, default, none, 0, []⟩⟩
abbrev Cn.sv (c : Cn) : Value := .slice c.sp c.set.length c.sc
def encC (c : Cn) : List Value := [.string c.nm, .int .i64 c.op, .int .i64 c.v.k, .int .i64 c.v.n, .string c.v.s, .bool c.v.b, .slice c.sp c.set.length c.sc]
abbrev cc (c : Cn) : Value := .agg #[.string c.nm, .int .i64 c.op, .int .i64 c.v.k, .int .i64 c.v.n, .string c.v.s, .bool c.v.b, .slice c.sp c.set.length c.sc]
def bare (c : Cn) : Cn := { c with sp := none, sc := 0 }
theorem encV_length (x : Vl) : (encV x).length = 4 := rfl
theorem encC_length (x : Cn) : (encC x).length = 7 := rfl
theorem encV_one (x : Vl) : ∀ u ∈ encV x, u.oneCell' = true := by
  intro u hu
  simp only [encV, List.mem_cons, List.not_mem_nil, or_false] at hu
  rcases hu with rfl | rfl | rfl | rfl <;> rfl
theorem encC_one (x : Cn) : ∀ u ∈ encC x, u.oneCell' = true := by
  intro u hu
  simp only [encC, List.mem_cons, List.not_mem_nil, or_false] at hu
  rcases hu with rfl | rfl | rfl | rfl | rfl | rfl | rfl <;> rfl

end Go.Proofs.YtlnjmcodgdebmaaGreat.Gm
set_option linter.unusedSimpArgs false
set_option linter.unusedVariables false
namespace Go.Proofs.YtlnjmcodgdebmaaGreat.Gm
open Go Go.RowKit

section
variable {α : Type} {enc : α → List Value} {n : Nat}
theorem flat_length (hn : ∀ x, (enc x).length = n) : ∀ l : List α, (l.flatMap enc).length = l.length * n
  | [] => by simp
  | a :: l => by simp only [List.flatMap_cons, List.length_append, List.length_cons]; rw [flat_length hn l, hn, Nat.add_mul]; omega
theorem flat_one (h1 : ∀ x, ∀ u ∈ enc x, u.oneCell' = true) (l : List α) : ∀ u ∈ l.flatMap enc, u.oneCell' = true := by
  intro u hu
  obtain ⟨a, _, h⟩ := List.mem_flatMap.1 hu
  exact h1 a u h
theorem flat_take (hn : ∀ x, (enc x).length = n) (l : List α) (k : Nat) (hk : k ≤ l.length) : (l.flatMap enc).take (k * n) = (l.take k).flatMap enc := by
  have e : l.flatMap enc = (l.take k).flatMap enc ++ (l.drop k).flatMap enc := by rw [← List.flatMap_append, List.take_append_drop]
  have h2 : ((l.take k).flatMap enc).length = k * n := by rw [flat_length hn, List.length_take, Nat.min_eq_left hk]
  rw [e, ← h2, List.take_left']
  rfl
theorem flat_drop (hn : ∀ x, (enc x).length = n) (l : List α) (k : Nat) (hk : k ≤ l.length) : (l.flatMap enc).drop (k * n) = (l.drop k).flatMap enc := by
  have e : l.flatMap enc = (l.take k).flatMap enc ++ (l.drop k).flatMap enc := by rw [← List.flatMap_append, List.take_append_drop]
  have h2 : ((l.take k).flatMap enc).length = k * n := by rw [flat_length hn, List.length_take, Nat.min_eq_left hk]
  rw [e, ← h2, List.drop_left']
  rfl
end

section
variable {α : Type} [Inhabited α] {enc : α → List Value} {n : Nat} {w w' : World} {v : Value} {l : List α}
theorem RowIn.later (h : RowIn enc n w v l) (hb : Below w.heap.size w w') : RowIn enc n w' v l := by
  obtain ⟨p, cap, b, o, h1, h2, h3, h4, h5⟩ := h
  refine ⟨p, cap, b, o, h1, h2, fun hl => ⟨(h3 hl).1, Nat.lt_of_lt_of_le (h3 hl).2 hb.size⟩, h4, fun i hi j u hu => ?_⟩
  have hl : l ≠ [] := by rintro rfl; simp at hi
  rw [hb.cell (p := ⟨b, o + i * n + j, none⟩) (h3 hl).2]
  exact h5 i hi j u hu
theorem RowIn.form (h : RowIn enc n w v l) : ∃ p cap, v = .slice p l.length cap := by
  obtain ⟨p, cap, b, o, h1, _⟩ := h
  exact ⟨p, cap, h1⟩
theorem flat_at (hn : ∀ x, (enc x).length = n) : ∀ (l : List α) (i j : Nat) (u : Value), i < l.length → (enc (l.getD i default))[j]? = some u → (l.flatMap enc)[i * n + j]? = some u
  | [], i, j, u, h, _ => by simp at h
  | a :: l, 0, j, u, _, h => by
    have hj : j < n := by
      have := (List.getElem?_eq_some_iff.1 h).1
      simpa [hn] using this
    rw [List.flatMap_cons, Nat.zero_mul, Nat.zero_add, List.getElem?_append_left (by rw [hn]; exact hj)]
    simpa using h
  | a :: l, i + 1, j, u, hi, h => by
    rw [List.flatMap_cons, List.getElem?_append_right (by rw [hn, Nat.add_mul]; omega), hn, show (i + 1) * n + j - n = i * n + j by rw [Nat.add_mul]; omega]
    exact flat_at hn l i j u (by simpa using hi) (by simpa using h)
/-- A row that the call owns reads as a row. -/
theorem row_of_own {base : Nat} {e : TypeId} (hn : ∀ x, (enc x).length = n) (h : w.ownsRow base e n v l.length (l.flatMap enc)) : RowIn enc n w v l := by
  rcases h.2 with ⟨rfl, h0⟩ | ⟨g, cap, cur, rfl, hb, hh, hc, r⟩
  · have : l = [] := List.eq_nil_of_length_eq_zero h0
    subst this
    exact ⟨none, 0, 0, 0, rfl, by simp, fun h => absurd rfl h, fun _ _ => rfl, fun i hi => by simp at hi⟩
  · refine ⟨some ⟨g, 0, none⟩, cap, g, 0, rfl, hc, fun _ => ⟨rfl, lt_of_block hh⟩, fun _ h => (by cases h), fun i hi j u hu => ?_⟩
    have h1 := flat_at hn l i j u hi hu
    have hj : i * n + j < l.length * n := by
      have := (List.getElem?_eq_some_iff.1 h1).1
      rwa [flat_length hn] at this
    have h2 := World.ownsRow.cellAt h (i * n + j) hj
    rw [show 0 + i * n + j = i * n + j by omega, h2, h1]
theorem own_later {base : Nat} {e : TypeId} {xs : List Value} {m : Nat} (h : w.ownsRow base e n v m xs) (hb : Below w.heap.size w w') : w'.ownsRow base e n v m xs := by
  refine ⟨h.1, ?_⟩
  rcases h.2 with h0 | ⟨g, cap, cur, hv, hg, hh, r⟩
  · exact .inl h0
  · exact .inr ⟨g, cap, cur, hv, hg, (hb.block g (lt_of_block hh)).trans hh, r⟩
theorem own_base {base base' : Nat} {e : TypeId} {xs : List Value} {m : Nat} (h : w.ownsRow base e n v m xs) (hb : base' ≤ base) : w.ownsRow base' e n v m xs := by
  refine ⟨h.1, ?_⟩
  rcases h.2 with h0 | ⟨g, cap, cur, hv, hg, r⟩
  · exact .inl h0
  · exact .inr ⟨g, cap, cur, hv, by omega, r⟩
/-- Rows of unlike types never share a block. -/
theorem own_apart {base base' : Nat} {e e' : TypeId} {n' m m' : Nat} {v' : Value} {xs xs' : List Value} (h : w.ownsRow base e n v m xs) (h' : w.ownsRow base' e' n' v' m' xs') (hne : e ≠ e') : v.ownBlock = none ∨ v.ownBlock ≠ v'.ownBlock := by
  rcases h.2 with ⟨rfl, _⟩ | ⟨g, cap, cur, rfl, _, hh, _⟩
  · exact .inl rfl
  · right
    rcases h'.2 with ⟨rfl, _⟩ | ⟨g', cap', cur', rfl, _, hh', _⟩
    · simp [Value.ownBlock]
    · intro he
      have : g = g' := by simpa [Value.ownBlock] using he
      subst this
      rw [hh] at hh'
      injection hh' with hh'
      injection hh' with _ ht
      exact hne ht
end

/-- Values in memory. -/
def Vs (w : World) (v : Value) (l : List Vl) : Prop := RowIn encV 4 w v l ∧ l.length ≤ 3518437208883
/-- Constraints in memory, and their Sets. -/
def Cs (w : World) (v : Value) (l : List Cn) : Prop := RowIn encC 7 w v l ∧ l.length ≤ 1599289640401 ∧ ∀ c ∈ l, Vs w c.sv c.set
theorem Vs.later {w w' : World} {v : Value} {l : List Vl} (h : Vs w v l) (hb : Below w.heap.size w w') : Vs w' v l := ⟨h.1.later hb, h.2⟩
theorem Cs.later {w w' : World} {v : Value} {l : List Cn} (h : Cs w v l) (hb : Below w.heap.size w w') : Cs w' v l := ⟨h.1.later hb, h.2.1, fun c hc => (h.2.2 c hc).later hb⟩
theorem Cs.at {w : World} {v : Value} {l : List Cn} (h : Cs w v l) {i : Nat} (hi : i < l.length) : Vs w (l.getD i default).sv (l.getD i default).set := by
  rw [List.getD_eq_getElem?_getD, List.getElem?_eq_getElem hi]
  exact h.2.2 _ (List.getElem_mem hi)
/-- Rows that the call owns. -/
def OwnV (w : World) (base : Nat) (v : Value) (l : List Vl) : Prop := w.ownsRow base 42 4 v l.length (l.flatMap encV)
def OwnC (w : World) (base : Nat) (v : Value) (l : List Cn) : Prop := w.ownsRow base 45 7 v l.length (l.flatMap encC) ∧ ∀ c ∈ l, OwnV w base c.sv c.set
theorem OwnV.vs {w : World} {base : Nat} {v : Value} {l : List Vl} (h : OwnV w base v l) (hl : l.length ≤ 3518437208883) : Vs w v l := ⟨row_of_own encV_length h, hl⟩
theorem OwnV.later {w w' : World} {base : Nat} {v : Value} {l : List Vl} (h : OwnV w base v l) (hb : Below w.heap.size w w') : OwnV w' base v l := own_later h hb
theorem OwnV.base {w : World} {base base' : Nat} {v : Value} {l : List Vl} (h : OwnV w base v l) (hb : base' ≤ base) : OwnV w base' v l := own_base h hb
theorem OwnV.nil (w : World) (base : Nat) : OwnV w base (.slice none 0 0) [] := World.ownsRow_nil _ _ _ _
theorem OwnC.nil (w : World) (base : Nat) : OwnC w base (.slice none 0 0) [] := ⟨World.ownsRow_nil _ _ _ _, fun c hc => by simp at hc⟩
theorem OwnC.later {w w' : World} {base : Nat} {v : Value} {l : List Cn} (h : OwnC w base v l) (hb : Below w.heap.size w w') : OwnC w' base v l := ⟨own_later h.1 hb, fun c hc => (h.2 c hc).later hb⟩
theorem OwnC.cs {w : World} {base : Nat} {v : Value} {l : List Cn} (h : OwnC w base v l) (hl : l.length ≤ 1599289640401) (hs : ∀ c ∈ l, c.set.length ≤ 3518437208883) : Cs w v l := ⟨row_of_own encC_length h.1, hl, fun c hc => (h.2 c hc).vs (hs c hc)⟩

/-- The place of element i, in each slice type of values and of constraints. -/
theorem idx_v1 (p : Option Addr) (b o n cap k : Nat) (hp : p = some ⟨b, o, none⟩) (hk : k < n) (W : World) : (Instr.indexAt 43 (.slice p n cap) (.int .i64 (k : Int))).run Tryz.prog W = .ok (.pointer (some ⟨b, o + k * 4, none⟩)) W := by subst hp; go_simp
theorem idx_c1 (p : Option Addr) (b o n cap k : Nat) (hp : p = some ⟨b, o, none⟩) (hk : k < n) (W : World) : (Instr.indexAt 30 (.slice p n cap) (.int .i64 (k : Int))).run Tryz.prog W = .ok (.pointer (some ⟨b, o + k * 7, none⟩)) W := by subst hp; go_simp
theorem idx_c3 (p : Option Addr) (b o n cap k : Nat) (hp : p = some ⟨b, o, none⟩) (hk : k < n) (W : World) : (Instr.indexAt 31 (.slice p n cap) (.int .i64 (k : Int))).run Tryz.prog W = .ok (.pointer (some ⟨b, o + k * 7, none⟩)) W := by subst hp; go_simp
/-- The cells of element i. -/
def Four (w : World) (b o : Nat) (x : Vl) : Prop := w.cell? ⟨b, o, none⟩ = some (.int .i64 x.k) ∧ w.cell? ⟨b, o + 1, none⟩ = some (.int .i64 x.n) ∧ w.cell? ⟨b, o + 2, none⟩ = some (.string x.s) ∧ w.cell? ⟨b, o + 3, none⟩ = some (.bool x.b)
def Seven (w : World) (b o : Nat) (c : Cn) : Prop :=
  w.cell? ⟨b, o, none⟩ = some (.string c.nm) ∧ w.cell? ⟨b, o + 1, none⟩ = some (.int .i64 c.op) ∧ w.cell? ⟨b, o + 2, none⟩ = some (.int .i64 c.v.k) ∧ w.cell? ⟨b, o + 3, none⟩ = some (.int .i64 c.v.n) ∧
  w.cell? ⟨b, o + 4, none⟩ = some (.string c.v.s) ∧ w.cell? ⟨b, o + 5, none⟩ = some (.bool c.v.b) ∧ w.cell? ⟨b, o + 6, none⟩ = some (.slice c.sp c.set.length c.sc)
theorem four_at {w : World} {v : Value} {l : List Vl} (h : RowIn encV 4 w v l) {i : Nat} (hi : i < l.length) : ∃ p cap b o, v = .slice p l.length cap ∧ p = some ⟨b, o, none⟩ ∧ b < w.heap.size ∧ Four w b (o + i * 4) (l.getD i default) := by
  obtain ⟨p, cap, b, o, h1, _, h3, _, h5⟩ := h
  have hl : l ≠ [] := by rintro rfl; simp at hi
  exact ⟨p, cap, b, o, h1, (h3 hl).1, (h3 hl).2, h5 i hi 0 _ rfl, h5 i hi 1 _ rfl, h5 i hi 2 _ rfl, h5 i hi 3 _ rfl⟩
theorem seven_at {w : World} {v : Value} {l : List Cn} (h : RowIn encC 7 w v l) {i : Nat} (hi : i < l.length) : ∃ p cap b o, v = .slice p l.length cap ∧ p = some ⟨b, o, none⟩ ∧ b < w.heap.size ∧ Seven w b (o + i * 7) (l.getD i default) := by
  obtain ⟨p, cap, b, o, h1, _, h3, _, h5⟩ := h
  have hl : l ≠ [] := by rintro rfl; simp at hi
  exact ⟨p, cap, b, o, h1, (h3 hl).1, (h3 hl).2, h5 i hi 0 _ rfl, h5 i hi 1 _ rfl, h5 i hi 2 _ rfl, h5 i hi 3 _ rfl, h5 i hi 4 _ rfl, h5 i hi 5 _ rfl, h5 i hi 6 _ rfl⟩
theorem Four.later {w w' : World} {b o : Nat} {x : Vl} (h : Four w b o x) (hb : Below w.heap.size w w') : Four w' b o x :=
  ⟨cell_later hb h.1, cell_later hb h.2.1, cell_later hb h.2.2.1, cell_later hb h.2.2.2⟩
theorem Seven.later {w w' : World} {b o : Nat} {c : Cn} (h : Seven w b o c) (hb : Below w.heap.size w w') : Seven w' b o c :=
  ⟨cell_later hb h.1, cell_later hb h.2.1, cell_later hb h.2.2.1, cell_later hb h.2.2.2.1, cell_later hb h.2.2.2.2.1, cell_later hb h.2.2.2.2.2.1, cell_later hb h.2.2.2.2.2.2⟩
theorem infoV : (Tryz.prog.info? 42).map (fun i => (i.zero, i.size, i.bytes)) = some (some (.agg #[.int .i64 0, .int .i64 0, .string ⟨#[]⟩, .bool false]), 4, 40) := by kernel_rfl
theorem infoC : (Tryz.prog.info? 45).map (fun i => (i.zero, i.size, i.bytes)) = some (some (.agg #[.string ⟨#[]⟩, .int .i64 0, .int .i64 0, .int .i64 0, .string ⟨#[]⟩, .bool false, .slice none 0 0]), 7, 88) := by kernel_rfl
end Go.Proofs.YtlnjmcodgdebmaaGreat.Gm
