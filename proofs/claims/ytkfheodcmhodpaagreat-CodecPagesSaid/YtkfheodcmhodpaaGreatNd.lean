/- The walk of CodecApart. -/
import Derived.Test.YtkfheodcmhodpaaGreatGm
import Derived.Deep.QuietTactic
import Derived.Test.YtkfheodcmhodpaaGreatTk
import Derived.Test.YtkfheodcmhodpaaGreatKv
import Derived.Test.YtkfheodcmhodpaaGreatKp0
import Derived.Test.YtkfheodcmhodpaaGreatEm
import Derived.Test.YtkfheodcmhodpaaGreatNb
/- The contracts of the document's Compare and Same of predicates. -/
/- The contracts of the document's Bare and whole: has a value nothing; the order of values in all that they have. -/
/- A region that draws its order, whose operations only read and whose callees may make memory, walked once in the order of the text, guards and all. -/
set_option linter.unusedSimpArgs false
set_option linter.unusedVariables false
namespace Go.Proofs.YtkfheodcmhodpaaGreat.Gm
open Go Go.RowKit

/-- A world that comes later: nothing that was there has changed. -/
structure Later (w : World) where
  W : World
  bel : Below w.heap.size w W
instance (w : World) : Nonempty (Later w) := ⟨⟨w, Below.refl _ _⟩⟩
instance (w : World) : Inhabited (Later w) := ⟨⟨w, Below.refl _ _⟩⟩
theorem wp_region_later {P : Program} {id : Nat} {Q : Exit → Act → World → Prop} {a : Act} {w : World} {l : List Oper} (hm : P.follows .mixedOrders = true) (hB : Region.lexB .any l.toArray = true)
    (h : wpQuiet P l.toArray (fun w' => ∃ p : Later w, w' = p.W) (fun a' => ∀ w', (∃ p : Later w, w' = p.W) → Q .normal a' w') l a) : (Code.region id l.toArray true).wp P Q a w :=
  wp_region_quiet (C := fun w' => ∃ p : Later w, w' = p.W) hm hB ⟨⟨{ w with drawn := w.drawn + 1 }, (Below.refl _ w).drew⟩, rfl⟩ (by simpa using h)
theorem later_call {P : Program} {f : FuncId} {args : Array Value} {w : World} (p : Later w) {v : Value} (h : Calls P f args p.W (Gives v p.W)) : Calls P f args p.W fun e w'' => e = .returned v ∧ ∃ q : Later w, w'' = q.W :=
  h.mono fun _ w' ⟨he, hb⟩ => ⟨he, ⟨w', then_ p.bel hb⟩, rfl⟩
theorem Later.cell {w : World} {a : Addr} {v : Value} (h : w.cell? a = some v) (p : Later w) : p.W.cell? a = some v := cell_later p.bel h
end Go.Proofs.YtkfheodcmhodpaaGreat.Gm
/- Rows in memory, and their orders. -/

set_option linter.unusedSimpArgs false
set_option linter.unusedVariables false
namespace Go.Proofs.YtkfheodcmhodpaaGreat.Gm
open Go Go.RowKit
attribute [local go_sem ↓] Go.wp_at_zero Go.wp_at_succ

theorem toList_empty (s : ByteArray) : (s.toList == (⟨#[]⟩ : ByteArray).toList) = s.toList.isEmpty := by
  rw [empty_toList]; cases s.toList <;> rfl
/-- Two boxes of values, new. -/
def Box2 (w w1 : World) (a b : Vl) : Prop := Blk w1 w.heap.size 69 #[.int .i64 a.k, .int .i64 a.n, .string a.s, .bool a.b] ∧ Blk w1 (w.heap.size + 1) 69 #[.int .i64 b.k, .int .i64 b.n, .string b.s, .bool b.b] ∧ Below w.heap.size w w1
theorem box2 (w : World) (a b : Vl) : Box2 w ((w.alloc (.cells #[.int .i64 a.k, .int .i64 a.n, .string a.s, .bool a.b] 69)).alloc (.cells #[.int .i64 b.k, .int .i64 b.n, .string b.s, .bool b.b] 69)) a b :=
  ⟨(Blk.new _ _ _).alloc _, by simpa using Blk.new (w.alloc (.cells #[.int .i64 a.k, .int .i64 a.n, .string a.s, .bool a.b] 69)) 69 #[.int .i64 b.k, .int .i64 b.n, .string b.s, .bool b.b], ((Below.refl _ w).alloc (Nat.le_refl _) _).alloc (by simp) _⟩
theorem Box2.later {w w1 w2 : World} {a b : Vl} (h : Box2 w w1 a b) (hb : Below w1.heap.size w1 w2) : Box2 w w2 a b := ⟨h.1.later hb, h.2.1.later hb, then_ h.2.2 hb⟩
end Go.Proofs.YtkfheodcmhodpaaGreat.Gm
/- The contract of the document's Order: the order of constraints. -/
set_option linter.unusedSimpArgs false
set_option linter.unusedVariables false
namespace Go.Proofs.YtkfheodcmhodpaaGreat.Gm
open Go Go.RowKit
attribute [local go_sem ↓] Go.wp_at_zero Go.wp_at_succ

/-- The cells of a constraint's box. -/
abbrev celC (c : Cn) : Array Value := #[.string c.nm, .int .i64 c.op, .int .i64 c.v.k, .int .i64 c.v.n, .string c.v.s, .bool c.v.b, .slice c.sp c.set.length c.sc]
/-- Two boxes of constraints, new. -/
def Box2C (w w1 : World) (a b : Cn) : Prop := Blk w1 w.heap.size 72 (celC a) ∧ Blk w1 (w.heap.size + 1) 72 (celC b) ∧ Below w.heap.size w w1
theorem box2c (w : World) (a b : Cn) : Box2C w ((w.alloc (.cells (celC a) 72)).alloc (.cells (celC b) 72)) a b :=
  ⟨(Blk.new _ _ _).alloc _, by simpa using Blk.new (w.alloc (.cells (celC a) 72)) 72 (celC b), ((Below.refl _ w).alloc (Nat.le_refl _) _).alloc (by simp) _⟩
theorem Box2C.later {w w1 w2 : World} {a b : Cn} (h : Box2C w w1 a b) (hb : Below w1.heap.size w1 w2) : Box2C w w2 a b := ⟨h.1.later hb, h.2.1.later hb, then_ h.2.2 hb⟩
theorem less_of (s s' : ByteArray) : Op.bytesLess s.toList s'.toList = (Lib.compareBytes s.data.toList s'.data.toList == -1) := by rw [less_iff, toList_data, toList_data]
theorem same_of (s s' : ByteArray) : (s.toList == s'.toList) = (Lib.compareBytes s.data.toList s'.data.toList == 0) := by
  rw [toList_data, toList_data]
  rcases compareBytes_three s.data.toList s'.data.toList with h | ⟨h, h'⟩ | h
  · rw [h]; simp only [beq_eq_false_iff_ne, ne_eq, show ((-1 : Int) == 0) = false from rfl]
    intro e; rw [e, compareBytes_self] at h; omega
  · rw [h, h']; simp
  · rw [h]; simp only [beq_eq_false_iff_ne, ne_eq, show ((1 : Int) == 0) = false from rfl]
    intro e; rw [e, compareBytes_self] at h; omega

section
variable (a b : Cn) (w : World)
end
end Go.Proofs.YtkfheodcmhodpaaGreat.Gm
set_option linter.unusedSimpArgs false
set_option linter.unusedVariables false
namespace Go.Proofs.YtkfheodcmhodpaaGreat.Gm
open Go Go.RowKit
attribute [local go_sem ↓] Go.wp_at_zero Go.wp_at_succ

end Go.Proofs.YtkfheodcmhodpaaGreat.Gm
set_option linter.unusedSimpArgs false
set_option linter.unusedVariables false
namespace Go.Proofs.YtkfheodcmhodpaaGreat.Gm
open Go Go.RowKit
attribute [local go_sem ↓] Go.wp_at_zero Go.wp_at_succ

theorem slice_pre_b (p : Option Addr) (m cap k : Nat) (hk : k ≤ m) (hc : m ≤ cap) (hp : p = none → cap = 0) (W : World) : (Instr.slice 27 (.slice p m cap) none (some (.int .i64 (k : Int))) none).run Tryz.prog W = .ok (.slice p k cap) W := by
  cases p with
  | none =>
    have := hp rfl
    subst this
    have : k = 0 := by omega
    subst this
    have : m = 0 := by omega
    subst this
    go_simp
  | some a =>
    have h1 : (k : Int) ≤ (cap : Int) := by omega
    have h2 : k ≤ cap := by omega
    go_simp
theorem bs_room {w : World} {p : Option Addr} {n cap : Nat} {L : List UInt8} (h : Bs w (.slice p n cap) L) : n = L.length ∧ L.length ≤ cap ∧ (p = none → cap = 0) := by
  rcases h with ⟨h1, h2⟩ | ⟨a, cap', h1, h2, _⟩
  · simp only [Value.slice.injEq] at h1
    obtain ⟨rfl, rfl, rfl⟩ := h1
    subst h2
    exact ⟨rfl, Nat.le_refl _, fun _ => rfl⟩
  · simp only [Value.slice.injEq] at h1
    obtain ⟨rfl, rfl, rfl⟩ := h1
    exact ⟨rfl, h2, fun h => by cases h⟩
/-- The first bytes. -/
theorem bs_first {w : World} {p : Option Addr} {n cap : Nat} {L : List UInt8} (h : Bs w (.slice p n cap) L) {k : Nat} (hk : k ≤ n) : Bs w (.slice p k cap) (L.take k) := by
  obtain ⟨h1, h2, h3⟩ := bs_room h
  cases p with
  | none =>
    have := h3 rfl
    subst this
    have : L = [] := List.eq_nil_of_length_eq_zero (by omega)
    subst this
    have : k = 0 := by simp at h1; omega
    subst this
    exact Bs.nil w
  | some a =>
    subst h1
    exact Bs.take h hk
theorem str_eq (X Y : List UInt8) (b : Bool) (h : (X = Y) ↔ b = true) : ((⟨X.toArray⟩ : ByteArray).toList == (⟨Y.toArray⟩ : ByteArray).toList) = b := by
  rw [toList_data, toList_data, Bool.eq_iff_iff, beq_iff_eq]
  exact h
theorem nat_min (a b : Nat) : min (a : Int) (b : Int) = ((min a b : Nat) : Int) := by omega
theorem putE_some {x : Ev} (h : (putE x).isSome = true) : mayE x.1 x.2 = true ∧ (putE x).getD [] = formE x := by
  unfold putE at *
  by_cases hm : mayE x.1 x.2 = true
  · rw [if_pos hm]; exact ⟨hm, rfl⟩
  · rw [if_neg hm] at h; cases h
theorem putP_some {l : List Cn} (h : (putP l).isSome = true) : mayPr l = true ∧ (putP l).getD [] = formPz (toPz l) := by
  unfold putP at *
  by_cases hm : mayPr l = true
  · rw [if_pos hm]; exact ⟨hm, rfl⟩
  · rw [if_neg hm] at h; cases h
theorem cmpL_bareP : ∀ a b : List Cn, cmpL cmpC (a.map bare) (b.map bare) = cmpL cmpC a b
  | [], [] => rfl
  | [], _ :: _ => rfl
  | _ :: _, [] => rfl
  | x :: a, y :: b => by simp only [List.map_cons, cmpL, cmpC_bare, cmpL_bareP a b]
theorem same_bareP {a b : List Cn} (h : a.map bare = b.map bare) : cmpL cmpC a b = 0 := by rw [← cmpL_bareP, h]; exact (weak_list weakC).self _
theorem bare_sameP {a b : List Cn} (h : cmpL cmpC a b = 0) : a.map bare = b.map bare := by
  rw [← cmpL_bareP] at h
  have h2 : ∀ a b : List Cn, cmpL cmpC (a.map bare) (b.map bare) = 0 → a.map bare = b.map bare := by
    intro a
    induction a with
    | nil => intro b h; cases b <;> simp [cmpL] at h ⊢
    | cons x a ih =>
      intro b h
      cases b with
      | nil => simp [cmpL] at h
      | cons y b =>
        simp only [List.map_cons, cmpL] at h
        by_cases e : cmpC (bare x) (bare y) = 0
        · rw [if_pos e] at h
          rw [List.map_cons, List.map_cons, cmpC_zero x y e, ih b h]
        · rw [if_neg e] at h; exact absurd h e
  exact h2 a b h

theorem mayP_wfs {l : List Cn} (h : mayPr l = true) (hf : FitsP l) : WfPzs (toPz l) ∧ ∀ c ∈ l, 0 ≤ c.op := by
  obtain ⟨a, b⟩ := may_wfp h hf
  refine ⟨⟨a.1, fun c hc => ?_⟩, fun c hc => by obtain ⟨_, e, _⟩ := may_wfc (b c hc) (hf c hc); omega⟩
  obtain ⟨x, hx, rfl⟩ := List.mem_map.1 hc
  obtain ⟨h1, h2, h3, h4⟩ := may_wfc (b x hx) (hf x hx)
  refine ⟨h1.1, ?_⟩
  have h5 := h1.2
  unfold WfCt at h5
  unfold WfCts
  split
  · rename_i e9
    rw [if_pos e9] at h5
    exact ⟨h5.1, h5.2.1, fun v hv => ⟨h5.2.2 v hv, h4 v hv⟩⟩
  · rename_i e9
    rw [if_neg e9] at h5
    split
    · rename_i e1
      rw [if_pos e1] at h5
      exact h5
    · rename_i e1
      rw [if_neg e1] at h5
      simp only [toCz] at e1 e9
      exact ⟨⟨h5.1, h3 (by omega) (by omega)⟩, h5.2⟩
theorem toCz_inj {c d : Cn} (hc : 0 ≤ c.op) (hd : 0 ≤ d.op) : toCz c = toCz d ↔ bare c = bare d := by
  obtain ⟨nm, op, v, sp, sc, set⟩ := c
  obtain ⟨nm', op', v', sp', sc', set'⟩ := d
  simp only at hc hd
  simp only [toCz, bare, Prod.mk.injEq, Cn.mk.injEq]
  constructor
  · rintro ⟨⟨rfl, h⟩, rfl, rfl⟩
    exact ⟨rfl, by omega, by simp⟩
  · rintro ⟨rfl, rfl, rfl, _, _, rfl⟩
    simp
theorem toPz_inj : ∀ {a b : List Cn}, (∀ c ∈ a, 0 ≤ c.op) → (∀ c ∈ b, 0 ≤ c.op) → (toPz a = toPz b ↔ a.map bare = b.map bare)
  | [], [], _, _ => by simp [toPz]
  | [], _ :: _, _, _ => by simp [toPz]
  | _ :: _, [], _, _ => by simp [toPz]
  | x :: a, y :: b, h1, h2 => by
    have ih := toPz_inj (a := a) (b := b) (fun c hc => h1 c (by simp [hc])) (fun c hc => h2 c (by simp [hc]))
    have hx := toCz_inj (h1 x (by simp)) (h2 y (by simp))
    unfold toPz at ih ⊢
    rw [List.map_cons, List.map_cons, List.map_cons, List.map_cons, List.cons.injEq, List.cons.injEq, hx, ih]
theorem same_pz {a b : List Cn} (h1 : ∀ c ∈ a, 0 ≤ c.op) (h2 : ∀ c ∈ b, 0 ≤ c.op) : toPz a = toPz b ↔ decide (cmpL cmpC a b = 0) = true := by
  rw [toPz_inj h1 h2, decide_eq_true_iff]
  exact ⟨same_bareP, bare_sameP⟩
end Go.Proofs.YtkfheodcmhodpaaGreat.Gm
