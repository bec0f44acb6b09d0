/- Rows that come in as arguments, opened, whatever their elements are; their bulk. -/
import Derived.Test.YtmbfhmjcphoddaaGreatDoorGm
import Derived.Deep.Slices
import Derived.SizedLaws
import Derived.ProofKit
import Derived.OpenShut
set_option linter.unusedSimpArgs false
set_option linter.unusedVariables false
namespace Go.Proofs.YtmbfhmjcphoddaaGreatDoor.Gm
open Go Go.ChangeShapes Go.WideShapes Go.ChangeAt Go.RowKit Go.Deep

section
variable {H : Type} {enc : TypeId × Value → H} {W : World} {base : Nat} {spare : Nat → Bool} {held : Bool}
/-- The elements that a slice's reading holds. -/
def elemsOf : DataW H → List (DataW H)
  | .slice es _ => es
  | _ => []
theorem bulk_one (d : DataW H) : 1 ≤ Rows.uptoBulk d := by
  cases d with
  | lit l => cases l <;> simp [Rows.uptoBulk]
  | _ => simp [Rows.uptoBulk]
theorem bulk_app (l r : List (DataW H)) : Rows.uptoBulkAll (l ++ r) = Rows.uptoBulkAll l + Rows.uptoBulkAll r := by
  induction l with
  | nil => simp [Rows.uptoBulkAll]
  | cons x l ih => simp only [List.cons_append, Rows.uptoBulkAll, ih]; omega
theorem bulk_elems (d : DataW H) : Rows.uptoBulkAll (elemsOf d) + 1 ≤ Rows.uptoBulk d := by
  cases d with
  | slice es sp => simp only [elemsOf, Rows.uptoBulk]; omega
  | lit l => have := bulk_one (DataW.lit (H := H) l); simpa [elemsOf, Rows.uptoBulkAll] using this
  | _ => simp [elemsOf, Rows.uptoBulkAll, Rows.uptoBulk]
/-- What each element weighs at the least, all weigh at the least. -/
theorem bulk_sum {α : Type} {f : Nat → α} {D : Nat → DataW H} (g : α → Nat) : ∀ n, (∀ i, i < n → g (f i) ≤ Rows.uptoBulk (D i)) → (((List.range n).map f).map g).sum ≤ Rows.uptoBulkAll ((List.range n).map D)
  | 0, _ => by simp
  | n + 1, h => by
    have ih := bulk_sum g n (fun i hi => h i (by omega))
    rw [List.range_succ, List.map_append, List.map_append, List.map_append, List.sum_append_nat, bulk_app]
    have := h n (by omega)
    simp only [List.map_cons, List.map_nil, List.sum_cons, List.sum_nil, Rows.uptoBulkAll] at this ⊢
    omega
theorem bulk_len (l : List (DataW H)) : l.length ≤ Rows.uptoBulkAll l := by
  induction l with
  | nil => simp
  | cons x r ih => have := bulk_one x; simp only [Rows.uptoBulkAll, List.length_cons]; omega
/-- A row in memory: elements of n cells each, as encA lays them. -/
def RowIn {α : Type} [Inhabited α] (encA : α → List Value) (n : Nat) (w : World) (v : Value) (l : List α) : Prop :=
  ∃ (p : Option Addr) (cap b o : Nat), v = .slice p l.length cap ∧ l.length ≤ cap ∧ (l ≠ [] → p = some ⟨b, o, none⟩ ∧ b < w.heap.size) ∧ (l = [] → p = none → cap = 0) ∧
    ∀ i, i < l.length → ∀ j u, (encA (l.getD i default))[j]? = some u → w.cell? ⟨b, o + i * n + j, none⟩ = some u
theorem world_cells {base : Nat} {w : World} {a : Addr} {n : Nat} {cs : List Value} (h : w.cells? base a n = some cs) : cs.length = n ∧ ∀ j, j < n → w.cell? (a.add j) = cs[j]? := by
  obtain ⟨_, h2, h3⟩ := World.cells?_some h
  exact ⟨h2, h3⟩
set_option maxRecDepth 100000 in
/-- A row that comes in. -/
theorem open_rowG {α : Type} [Inhabited α] {T e : TypeId} (ht : Tryz.prog.underlying T = some (.slice e)) (n : Nat) (hn : Tryz.prog.cellsOf e = n) (hn0 : 0 < n) (encA : α → List Value) (Q : α → DataW H → Prop) {fuel : Nat} {v : Value} {x : DataW H × List MemPlace}
    (helem : ∀ fuel cs y, cs.length = n → DataW.trod enc Tryz.prog W base spare held fuel e cs = some y → ∃ a, cs = encA a ∧ Q a y.1)
    (h : DataW.trod enc Tryz.prog W base spare held fuel T [v] = some x) :
    ∃ (len : Nat) (f : Nat → α) (D : Nat → DataW H), RowIn encA n W v ((List.range len).map f) ∧ elemsOf x.1 = (List.range len).map D ∧ ∀ i, i < len → Q (f i) (D i) := by
  rcases open_slice ht h with ⟨hcs, hx⟩ | ⟨a, len, cap, m, k, D, Pl, hcs, _, hl, hm, hmm, hx, hi⟩
  · simp only [List.cons.injEq, and_true] at hcs
    subst hcs hx
    exact ⟨0, fun _ => default, fun _ => .nil, ⟨none, 0, 0, 0, rfl, Nat.le_refl _, fun h => absurd rfl h, fun _ _ => rfl, fun i hi => by simp at hi⟩, rfl, fun i hi => by omega⟩
  · simp only [List.cons.injEq, and_true] at hcs
    subst hcs hx
    have hlm : len ≤ m := by rw [hmm]; split <;> omega
    have hat : ∀ i, i < len → ∃ y : α, W.cells? base (a.add (i * n)) n = some (encA y) ∧ Q y (D i) := by
      intro i hil
      obtain ⟨cs', hc, ht'⟩ := hi i (by omega)
      rw [hn] at hc
      obtain ⟨y, rfl, hq⟩ := helem _ _ _ (world_cells hc).1 ht'
      exact ⟨y, hc, hq⟩
    obtain ⟨f, hf⟩ := choose_lt hat
    refine ⟨len, f, D, ?_, rfl, fun i hil => (hf i hil).2⟩
    have hcell : ∀ i, i < len → ∀ j u, (encA (f i))[j]? = some u → W.cell? ((a.add (i * n)).add j) = some u := by
      intro i hil j u hu
      obtain ⟨h1, h2⟩ := world_cells (hf i hil).1
      have hj : j < n := by have := (List.getElem?_eq_some_iff.1 hu).1; omega
      rw [h2 j hj, hu]
    by_cases h0 : len = 0
    · subst h0
      exact ⟨some a, cap, 0, 0, rfl, by simp, fun h => absurd rfl h, fun _ h => (by cases h), fun i hi => by simp at hi⟩
    · have hne : ∃ u, (encA (f 0))[0]? = some u := by
        have h1 := (world_cells (hf 0 (by omega)).1).1
        exact ⟨(encA (f 0))[0]'(by omega), List.getElem?_eq_getElem _⟩
      obtain ⟨u0, hu0⟩ := hne
      have hsp : a.spot = none := by
        have := hcell 0 (by omega) 0 _ hu0
        rw [Nat.zero_mul] at this
        exact World.cell?_spot (by simpa [Addr.add] using this)
      obtain ⟨b, o, spot⟩ := a
      simp only at hsp
      subst hsp
      have hadd : ∀ i j, ((⟨b, o, none⟩ : Addr).add i).add j = ⟨b, o + i + j, none⟩ := by
        intro i j
        unfold Addr.add
        by_cases hi : i = 0 <;> by_cases hj : j = 0 <;> simp [hi, hj]
      have hblk : b < W.heap.size := by
        have := hcell 0 (by omega) 0 _ hu0
        rw [hadd] at this
        exact World.block_lt_of_cell? W _ this
      refine ⟨some ⟨b, o, none⟩, cap, b, o, by simp, by simpa using hl, fun _ => ⟨rfl, hblk⟩, fun h => by simp [h0] at h, fun i hi j u hu => ?_⟩
      have hil : i < len := by simpa using hi
      have := hcell i hil j u (by simpa [hil] using hu)
      rwa [hadd] at this
end
theorem own : ownKnob Tryz.prog.godebug = none := by kernel_rfl
theorem laidOut : laidOutB Tryz.prog = true := by kernel_rfl
end Go.Proofs.YtmbfhmjcphoddaaGreatDoor.Gm
