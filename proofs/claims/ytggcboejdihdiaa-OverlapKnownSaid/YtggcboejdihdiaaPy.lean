/- Words for walks over many predicates. -/
import Derived.Test.YtggcboejdihdiaaPx
import Derived.Test.YtggcboejdihdiaaCu
import Derived.Test.YtggcboejdihdiaaCm
set_option linter.unusedSimpArgs false
set_option linter.unusedVariables false
namespace Go.Proofs.Ytggcboejdihdiaa.Gm
open Go Go.RowKit
attribute [local go_sem ↓] Go.wp_at_zero Go.wp_at_succ

theorem row_blk {α : Type} [Inhabited α] {enc : α → List Value} {n : Nat} (hn : ∀ x, (enc x).length = n) {w : World} {g : Nat} {t : TypeId} {l : List α} (h : Blk w g t (l.flatMap enc).toArray) : RowIn enc n w (.slice (some ⟨g, 0, none⟩) l.length l.length) l := by
  refine ⟨_, l.length, g, 0, rfl, Nat.le_refl _, fun _ => ⟨rfl, h.lt⟩, fun _ h => (by cases h), fun i hi j u hu => ?_⟩
  have h1 := flat_at hn l i j u hi hu
  rw [Nat.zero_add]
  exact h.cell _ (by simpa using h1)
theorem vs_nil (w : World) : Vs w (.slice none 0 0) [] := ⟨⟨none, 0, 0, 0, rfl, Nat.le_refl _, fun h => absurd rfl h, fun _ _ => rfl, fun i hi => by simp at hi⟩, by simp⟩
theorem cs_nil (w : World) : Cs w (.slice none 0 0) [] := ⟨⟨none, 0, 0, 0, rfl, Nat.le_refl _, fun h => absurd rfl h, fun _ _ => rfl, fun i hi => by simp at hi⟩, by simp, fun c hc => by simp at hc⟩
/-- Predicates in memory, and where they lie. -/
def Prs (w : World) (L : List (Value × List Cn)) : Prop := ∀ x ∈ L, Cs w x.1 x.2
theorem Prs.later {w w' : World} {L : List (Value × List Cn)} (h : Prs w L) (hb : Below w.heap.size w w') : Prs w' L := fun x hx => (h x hx).later hb
theorem Prs.nil (w : World) : Prs w [] := fun x hx => by simp at hx
theorem Prs.push {w w' : World} {L : List (Value × List Cn)} (h : Prs w L) (hb : Below w.heap.size w w') {v : Value} {l : List Cn} (k : Cs w' v l) : Prs w' ((v, l) :: L) := fun x hx => by
  rcases List.mem_cons.1 hx with rfl | hx
  · exact k
  · exact (h x hx).later hb
theorem Prs.get {w : World} {L : List (Value × List Cn)} (h : Prs w L) (i : Nat) {x : Value × List Cn} (hi : L[i]? = some x) : Cs w x.1 x.2 := h x (List.mem_of_getElem? hi)
/-- Cells in memory. -/
def Cls (w : World) (M : List (Addr × Value)) : Prop := ∀ x ∈ M, w.cell? x.1 = some x.2
theorem Cls.nil (w : World) : Cls w [] := fun x hx => by simp at hx
theorem Cls.later {w w' : World} {M : List (Addr × Value)} (h : Cls w M) (hb : Below w.heap.size w w') : Cls w' M := fun x hx => cell_later hb (h x hx)
theorem Cls.push {w w' : World} {M : List (Addr × Value)} (h : Cls w M) (hb : Below w.heap.size w w') {a : Addr} {v : Value} (k : w'.cell? a = some v) : Cls w' ((a, v) :: M) := fun x hx => by
  rcases List.mem_cons.1 hx with rfl | hx
  · exact k
  · exact cell_later hb (h x hx)
theorem Cls.get {w : World} {M : List (Addr × Value)} (h : Cls w M) (i : Nat) {a : Addr} {v : Value} (hi : M[i]? = some (a, v)) : w.cell? a = some v := h (a, v) (List.mem_of_getElem? hi)
/-- A predicate whose constraints have no Sets, laid anew. -/
theorem pr_new (l : List Cn) (hs : ∀ c ∈ l, c.sp = none ∧ c.sc = 0 ∧ c.set = []) (hl : l.length ≤ 1000) (w : World) (G : Nat) (hG : w.heap.size = G) : Cs (w.alloc (.cells (l.flatMap encC).toArray 34)) (.slice (some ⟨G, 0, none⟩) l.length l.length) l :=
  ⟨row_blk (enc := encC) (l := l) encC_length (hG ▸ Blk.new w _ _), by omega, fun c hc => by
    obtain ⟨h1, h2, h3⟩ := hs c hc
    obtain ⟨nm, op, v, sp, sc, set⟩ := c
    simp only at h1 h2 h3
    subst h1 h2 h3
    exact vs_nil _⟩
/-- A predicate of one constraint that asks for a Set, laid anew. -/
theorem pr_set (nm : ByteArray) (op : Int) (v : Vl) (p : Option Addr) (c : Nat) (S : List Vl) (w : World) (h : Vs w (.slice p S.length c) S) (G : Nat) (hG : w.heap.size = G) : Cs (w.alloc (.cells ([(⟨nm, op, v, p, c, S⟩ : Cn)].flatMap encC).toArray 34)) (.slice (some ⟨G, 0, none⟩) 1 1) [⟨nm, op, v, p, c, S⟩] :=
  ⟨row_blk (enc := encC) (l := [⟨nm, op, v, p, c, S⟩]) encC_length (hG ▸ Blk.new w _ _), by simp, fun d hd => by
    simp only [List.mem_singleton] at hd
    subst hd
    exact h.later (below_one _ _)⟩
theorem vals_new (l : List Vl) (hl : l.length ≤ 1000) (w : World) : Vs (w.alloc (.cells (l.flatMap encV).toArray 31)) (.slice (some ⟨w.heap.size, 0, none⟩) l.length l.length) l := ⟨row_blk (enc := encV) (l := l) encV_length (Blk.new w _ _), by omega⟩
abbrev zCn : Array Value := #[.string ⟨#[]⟩, .int .i64 0, .int .i64 0, .int .i64 0, .string ⟨#[]⟩, .bool false, .slice none 0 0]
/-- A constraint's seven cells are written. -/
abbrev chain7 (w : World) (g : Nat) (c : Cn) : World := ((((((w.setCell ⟨g, 0, none⟩ (.string c.nm)).setCell ⟨g, 1, none⟩ (.int .i64 c.op)).setCell ⟨g, 2, none⟩ (.int .i64 c.v.k)).setCell ⟨g, 3, none⟩ (.int .i64 c.v.n)).setCell ⟨g, 4, none⟩ (.string c.v.s)).setCell ⟨g, 5, none⟩ (.bool c.v.b)).setCell ⟨g, 6, none⟩ (.slice c.sp c.set.length c.sc)
theorem same7 (w : World) (g : Nat) (c : Cn) : Same g w (chain7 w g c) := (((((((Same.refl g w).set _ _).set _ _).set _ _).set _ _).set _ _).set _ _).set _ _
theorem blk7 {w : World} {g : Nat} {t : TypeId} (h : Blk w g t zCn) (c : Cn) : Blk (chain7 w g c) g t (cnc c) := blk_set (blk_set (blk_set (blk_set (blk_set (blk_set (blk_set h 0 _) 1 _) 2 _) 3 _) 4 _) 5 _) 6 _
theorem post_cn {P : Program} {fn : Func} {a : Act} {w1 : World} {g : Nat} {t : TypeId} {c : Cn} {Q9 : Ending → World → Prop} (hK : Blk w1 g t zCn) (hr : ∀ W, Blk W g t (cnc c) → (results fn a.tmps).run P W = .ok (cc c) W) (hd : a.defers = []) (hR : Q9 (.returned (cc c)) (chain7 w1 g c)) : bodyPost P fn Q9 .ret a (chain7 w1 g c) :=
  bodyPost_ret (hr _ (blk7 hK c)) hd hR
theorem rvc_cv {nm : ByteArray} {op : Int} {v : Vl} (h : Rv v) : RvC (cv nm op v) := ⟨h, fun x hx => by simp at hx⟩
theorem rv_num {n : Int} (h : -9223372036854775808 ≤ n ∧ n ≤ 9223372036854775807) : Rv (numV n) := h
theorem rv_str (s : ByteArray) : Rv (strV s) := ⟨by show (-9223372036854775808 : Int) ≤ 0; decide, by show (0 : Int) ≤ 9223372036854775807; decide⟩
theorem rv_boo (b : Bool) : Rv (booV b) := ⟨by show (-9223372036854775808 : Int) ≤ 0; decide, by show (0 : Int) ≤ 9223372036854775807; decide⟩
theorem rv_def : Rv default := ⟨by show (-9223372036854775808 : Int) ≤ 0; decide, by show (0 : Int) ≤ 9223372036854775807; decide⟩
theorem all_1 {P : Cn → Prop} {c : Cn} (h : P c) : ∀ x ∈ [c], P x := fun x hx => by simp only [List.mem_singleton] at hx; subst hx; exact h
theorem all_2 {P : Cn → Prop} {c d : Cn} (h : P c) (k : P d) : ∀ x ∈ [c, d], P x := fun x hx => by
  simp only [List.mem_cons, List.not_mem_nil, or_false] at hx
  rcases hx with rfl | rfl
  · exact h
  · exact k
theorem s_1 (nm : ByteArray) (op : Int) (v : Vl) : ∀ c ∈ [cv nm op v], c.sp = none ∧ c.sc = 0 ∧ c.set = [] := all_1 (P := fun c => c.sp = none ∧ c.sc = 0 ∧ c.set = []) ⟨rfl, rfl, rfl⟩
theorem s_2 (nm : ByteArray) (op : Int) (v : Vl) (nm' : ByteArray) (op' : Int) (v' : Vl) : ∀ c ∈ [cv nm op v, cv nm' op' v'], c.sp = none ∧ c.sc = 0 ∧ c.set = [] := all_2 (P := fun c => c.sp = none ∧ c.sc = 0 ∧ c.set = []) ⟨rfl, rfl, rfl⟩ ⟨rfl, rfl, rfl⟩
theorem own_cell {w : World} {B : Nat} {e : TypeId} {g c n m : Nat} {xs : List Value} (h : w.ownsRow B e n (.slice (some ⟨g, 0, none⟩) m c) m xs) (t : Nat) {u : Value} (ht : t < m * n) (hu : xs[t]? = some u) : w.cell? ⟨g, t, none⟩ = some u := by rw [World.ownsRow.cellAt h t ht]; exact hu
end Go.Proofs.Ytggcboejdihdiaa.Gm
