/- Layer 8: the contract of the statements' first question: the chapter's example. -/
import Derived.Test.YtaplgoachembdaaGreatKx
import Derived.Test.YtaplgoachembdaaGreatKq
import Derived.Test.YtaplgoachembdaaGreatHrg
/- Layer 8: what an index that is whole tells. -/
/- The contract of the statements' first question in layer 4: what the chapter's examples say. -/
set_option linter.unusedSimpArgs false
set_option linter.unusedVariables false
namespace Go.Proofs.YtaplgoachembdaaGreat.Gm
open Go Go.RowKit
attribute [local go_sem ↓] Go.wp_at_zero Go.wp_at_succ

theorem row_blk {α : Type} [Inhabited α] {enc : α → List Value} {n : Nat} (hn : ∀ x, (enc x).length = n) {w : World} {g : Nat} {t : TypeId} {l : List α} (h : Blk w g t (l.flatMap enc).toArray) : RowIn enc n w (.slice (some ⟨g, 0, none⟩) l.length l.length) l := by
  refine ⟨_, l.length, g, 0, rfl, Nat.le_refl _, fun _ => ⟨rfl, h.lt⟩, fun _ h => (by cases h), fun i hi j u hu => ?_⟩
  have h1 := flat_at hn l i j u hi hu
  rw [Nat.zero_add]
  exact h.cell _ (by simpa using h1)
/-- Numbers and texts as values; attributes; events. -/
abbrev nv (z : Int) : Vl := ⟨1, z, ⟨#[]⟩, false⟩
abbrev tv (s : ByteArray) : Vl := ⟨2, 0, s, false⟩
theorem n_any (z : Int) (w : World) : Calls Tryz.prog 24 #[.int .i64 z] w (Gives (vv (nv z)) w) := by
  go_enter Tryz.func24, Tryz.ntmps24
  go_wp2
  exact bodyPost_ret (v := vv (nv z)) (by simp [results, Tryz.results24, go_sem]) rfl ⟨rfl, below_one _ _⟩
theorem s_any (s : ByteArray) (w : World) : Calls Tryz.prog 27 #[.string s] w (Gives (vv (tv s)) w) := by
  go_enter Tryz.func27, Tryz.ntmps27
  go_wp2
  exact bodyPost_ret (v := vv (tv s)) (by simp [results, Tryz.results27, go_sem]) rfl ⟨rfl, below_one _ _⟩
abbrev av (a : At) : Value := .agg #[.string a.nm, .int .i64 a.v.k, .int .i64 a.v.n, .string a.v.s, .bool a.v.b]
theorem a_any (nm : ByteArray) (v : Vl) (w : World) : Calls Tryz.prog 26 #[.string nm, vv v] w (Gives (av ⟨nm, v⟩) w) := by
  go_enter Tryz.func26, Tryz.ntmps26
  go_wp2
  exact bodyPost_ret (v := av ⟨nm, v⟩) (by simp [results, Tryz.results26, go_sem]) rfl ⟨rfl, ((Below.refl _ w).alloc (Nat.le_refl _) _).alloc (by simp) _⟩
theorem e_any (p : Option Addr) (n c : Nat) (w : World) : Calls Tryz.prog 25 #[.slice p n c] w (Gives (.agg #[.string ⟨#[]⟩, .slice p n c]) w) := by
  go_enter Tryz.func25, Tryz.ntmps25
  go_wp2
  exact bodyPost_ret (v := .agg #[.string ⟨#[]⟩, .slice p n c]) (by simp [results, Tryz.results25, go_sem]) rfl ⟨rfl, below_one _ _⟩

theorem getE_data (l : List At) (name : ByteArray) : getE l name = l.find? fun a => a.nm.data.toList == name.data.toList := by unfold getE; simp only [toList_data]
def matchesD (l : List Cn) (attrs : List At) : Bool := l.all fun c => match attrs.find? fun a => a.nm.data.toList == c.nm.data.toList with
  | none => false
  | some a => holdsB c a.v
theorem matches_data (l : List Cn) (attrs : List At) : matchesB l attrs = matchesD l attrs := by
  unfold matchesB matchesD oneB
  simp only [getE_data]
  rfl
theorem cmpL_bare : ∀ a b : List Cn, cmpL cmpC (a.map bare) (b.map bare) = cmpL cmpC a b
  | [], [] => rfl
  | [], _ :: _ => rfl
  | _ :: _, [] => rfl
  | x :: a, y :: b => by simp only [List.map_cons, cmpL, cmpC_bare, cmpL_bare a b]
theorem same_bare {a b : List Cn} (h : a.map bare = b.map bare) : cmpL cmpC a b = 0 := by rw [← cmpL_bare, h]; exact (weak_list weakC).self _
theorem bare_same {a b : List Cn} (h : cmpL cmpC a b = 0) : a.map bare = b.map bare := by
  rw [← cmpL_bare] at h
  have h2 : ∀ a b : List Cn, cmpL cmpC (a.map bare) (b.map bare) = 0 → a.map bare = b.map bare := by
    intro a
    induction a with
    | nil => intro b h; cases b <;> simp [cmpL] at h ⊢
    | cons x a ih =>
      intro b h
      cases b with
      | nil => simp [cmpL] at h
      | cons y b =>
        simp only [List.map_cons, cmpL] at h
        by_cases e : cmpC (bare x) (bare y) = 0
        · rw [if_pos e] at h
          rw [List.map_cons, List.map_cons, cmpC_zero x y e, ih b h]
        · rw [if_neg e] at h; exact absurd h e
  exact h2 a b h

abbrev sA : ByteArray := ⟨#[97]⟩
abbrev sB : ByteArray := ⟨#[98]⟩
/-- The first example's predicate; the last one's, and what becomes of it. -/
def exP : List Cn := [⟨sA, 7, nv 5, none, 0, []⟩, ⟨sA, 4, nv 9, none, 0, []⟩]
def exQ (g : Nat) : List Cn := [⟨sB, 1, default, none, 0, []⟩, ⟨sA, 9, default, some ⟨g, 0, none⟩, 3, [nv 2, nv 1, nv 2]⟩, ⟨sB, 1, default, none, 0, []⟩]
def exR (g : Nat) : List Cn := [⟨sA, 9, default, some ⟨g, 0, none⟩, 2, [nv 1, nv 2]⟩, ⟨sB, 1, default, none, 0, []⟩]
theorem exP_1 : matchesD exP [⟨sA, nv 5⟩] = true := by kernel_rfl
theorem exP_2 : matchesD exP [⟨sA, nv 9⟩] = false := by kernel_rfl
theorem exP_3 : matchesD exP [⟨sA, tv ⟨#[53]⟩⟩] = false := by kernel_rfl
theorem exP_4 : matchesD exP [] = false := by kernel_rfl
theorem exQ_may (g : Nat) : mayPr (exQ g) = true := by
  have e : ∀ z, mayB 1 z ⟨#[]⟩ false = true := fun z => by simp [mayB, empty_toList]
  have e2 : eqlVal 0 0 ⟨#[]⟩ false 0 0 ⟨#[]⟩ false = true := by simp [eqlVal]
  simp [mayPr, exQ, mayCn, mayOp, maySt, bareB, mayVl, e, show (default : Vl) = ⟨0, 0, ⟨#[]⟩, false⟩ from rfl, e2]
  decide
theorem exQ_norm (g g' : Nat) : sortL cmpC ((exQ g).map normC) = (exR g').map bare := by kernel_rfl
theorem vs_nil (w : World) : Vs w (.slice none 0 0) [] := ⟨⟨none, 0, 0, 0, rfl, Nat.le_refl _, fun h => absurd rfl h, fun _ _ => rfl, fun i hi => by simp at hi⟩, by simp⟩
theorem es_nil (w : World) : Es w (.slice none 0 0) [] := ⟨⟨none, 0, 0, 0, rfl, Nat.le_refl _, fun h => absurd rfl h, fun _ _ => rfl, fun i hi => by simp at hi⟩, by simp⟩
theorem es_new (a : At) (w : World) : Es (w.alloc (.cells #[.string a.nm, .int .i64 a.v.k, .int .i64 a.v.n, .string a.v.s, .bool a.v.b] 66)) (.slice (some ⟨w.heap.size, 0, none⟩) 1 1) [a] := ⟨row_blk (enc := encA) (l := [a]) (fun _ => rfl) (Blk.new w _ _), by simp⟩
theorem exP_new (w : World) : Cs (w.alloc (.cells (exP.flatMap encC).toArray 45)) (.slice (some ⟨w.heap.size, 0, none⟩) 2 2) exP :=
  ⟨row_blk (enc := encC) (l := exP) encC_length (Blk.new w _ _), by decide, fun c hc => by
    simp only [exP, List.mem_cons, List.not_mem_nil, or_false] at hc
    rcases hc with rfl | rfl <;> exact vs_nil _⟩
theorem exQ_new (g G : Nat) (w : World) (hG : w.heap.size = G) (h : Vs w (.slice (some ⟨g, 0, none⟩) 3 3) [nv 2, nv 1, nv 2]) : Cs (w.alloc (.cells ((exQ g).flatMap encC).toArray 45)) (.slice (some ⟨G, 0, none⟩) 3 3) (exQ g) :=
  ⟨row_blk (enc := encC) (l := exQ g) encC_length (hG ▸ Blk.new w _ _), by simp [exQ], fun c hc => by
    simp only [exQ, List.mem_cons, List.not_mem_nil, or_false] at hc
    rcases hc with rfl | rfl | rfl
    · exact vs_nil _
    · exact h.later (below_one _ _)
    · exact vs_nil _⟩
theorem exR_new (g G : Nat) (w : World) (hG : w.heap.size = G) (h : Vs w (.slice (some ⟨g, 0, none⟩) 2 2) [nv 1, nv 2]) : Cs (w.alloc (.cells ((exR g).flatMap encC).toArray 45)) (.slice (some ⟨G, 0, none⟩) 2 2) (exR g) :=
  ⟨row_blk (enc := encC) (l := exR g) encC_length (hG ▸ Blk.new w _ _), by simp [exR], fun c hc => by
    simp only [exR, List.mem_cons, List.not_mem_nil, or_false] at hc
    rcases hc with rfl | rfl
    · exact h.later (below_one _ _)
    · exact vs_nil _⟩
theorem vals_new (l : List Vl) (hl : l.length ≤ 1000) (w : World) : Vs (w.alloc (.cells (l.flatMap encV).toArray 42)) (.slice (some ⟨w.heap.size, 0, none⟩) l.length l.length) l := ⟨row_blk (enc := encV) (l := l) encV_length (Blk.new w _ _), by omega⟩
theorem m_is {l : List Cn} {attrs : List At} {b : Bool} (h : matchesD l attrs = b) : matchesB l attrs = b := (matches_data l attrs).trans h

end Go.Proofs.YtaplgoachembdaaGreat.Gm
/- Layer 8: New, as an index whole. -/
set_option linter.unusedSimpArgs false
set_option linter.unusedVariables false
namespace Go.Proofs.YtaplgoachembdaaGreat.Gm
open Go Go.RowKit Go.Maps
variable {B : Nat}
attribute [local go_sem ↓] Go.wp_at_zero Go.wp_at_succ

/-- What New tells: an index whole, without predicates. -/
def New8 (w : World) (e : Ending) (w' : World) : Prop :=
  ∃ x bp bn, e = .returned (.pointer (some ⟨x, 0, none⟩)) ∧ Idx8 w.heap.size w' (fun _ => False) x bp bn 0 0 0 (.map []) (.map []) [] (fun _ => none) (fun _ => .slice none 0 0) ∧ w.heap.size ≤ x ∧ w.heap.size ≤ bp ∧ w.heap.size ≤ bn ∧ Below w.heap.size w w'
theorem idx8_empty {w : World} {x bp bn : Nat} (hb : Blk w x 72 #[.map (some bp), .map (some bn)]) (hn : bp ≠ bn) (h1 : w.ownsMap Tryz.prog 3 idElem bp 0 (.map [])) (h2 : w.ownsMap Tryz.prog 9 idElem bn 0 (.map [])) (hB : B ≤ w.heap.size ∧ B ≤ x ∧ B ≤ bp ∧ B ≤ bn) :
    Idx8 B w (fun _ => False) x bp bn 0 0 0 (.map []) (.map []) [] (fun _ => none) (fun _ => .slice none 0 0) := by
  refine ⟨hb, hn, h1, h2, Nat.le_refl _, Nat.le_refl _, rfl, ?_, ?_, ⟨fun i _ => rfl, fun i v h => (nomatch h)⟩, fun i p h => (by cases h), fun i v h => (nomatch h), ⟨fun nm _ => rfl, fun nm _ => ?_, fun a b g _ _ _ h => ?_⟩, fun k h => h.elim, List.nodup_nil, fun e h => (by cases h), fun e h => (by cases h), Nat.zero_le _, hB⟩
  · exact ⟨[], rfl, List.Pairwise.nil⟩
  · exact ⟨[], rfl⟩
  · exact World.ownsRow_nil _ _ _ _
  · simp [Value.ownBlock] at h
set_option maxHeartbeats 1000000 in
theorem new8_any (w : World) : Calls Tryz.prog 7 #[] w (New8 w) := by
  have hmm := @run_makeMap Tryz.prog
  go_enter Tryz.func7, Tryz.ntmps7
  go_wp2
  go_ret
  have hn : ∀ W : World, Below W.heap.size W (W.alloc (.map #[] 0)) := fun W => (Below.refl _ W).alloc (Nat.le_refl _) _
  have h1 : (w.alloc (.map #[] 0)).heap.size = w.heap.size + 1 := by simp
  have h2 : ((w.alloc (.map #[] 0)).alloc (.map #[] 0)).heap.size = w.heap.size + 1 + 1 := by simp
  have hb := ((hn w).trans ((hn _).mono (by omega)))
  refine ⟨w.heap.size + 1 + 1, w.heap.size, w.heap.size + 1, by simp, idx8_empty (by rw [← h2]; exact Blk.new _ _ _) (by omega) ?_ ?_ ⟨by simp; omega, by omega, by omega, by omega⟩, by omega, by omega, by omega, hb.alloc (by omega) _⟩
  · exact map_later (World.ownsMap_made w _ _ _) ((hn _).trans ((Below.refl _ _).alloc (by omega) _)) (by omega)
  · exact map_later (h1 ▸ World.ownsMap_made (w.alloc (.map #[] 0)) _ _ _) ((Below.refl (w.heap.size + 1 + 1) _).alloc (by omega) _) (by omega)
end Go.Proofs.YtaplgoachembdaaGreat.Gm
/- Layer 8, plain: the chapter's example. -/
set_option linter.unusedSimpArgs false
set_option linter.unusedVariables false
namespace Go.Proofs.YtaplgoachembdaaGreat.Gm
open Go Go.RowKit Go.Maps

def wkA : List Cn := [⟨sA, 7, nv 1, none, 0, []⟩]
def wkB : List Cn := [⟨sA, 4, nv 1, none, 0, []⟩, ⟨sB, 1, default, none, 0, []⟩]
theorem wkA_may : mayPr wkA = true := by
  have e : ∀ z, mayB 1 z ⟨#[]⟩ false = true := fun z => by simp [mayB, empty_toList]
  simp [mayPr, wkA, mayCn, mayOp, maySt, mayVl, e]
  decide
theorem wkB_may : mayPr wkB = true := by
  have e : ∀ z, mayB 1 z ⟨#[]⟩ false = true := fun z => by simp [mayB, empty_toList]
  have e2 : eqlVal 0 0 ⟨#[]⟩ false 0 0 ⟨#[]⟩ false = true := by simp [eqlVal]
  simp [mayPr, wkB, mayCn, mayOp, maySt, bareB, mayVl, e, show (default : Vl) = ⟨0, 0, ⟨#[]⟩, false⟩ from rfl, e2]
  decide
theorem wkA_norm : sortL cmpC (wkA.map normC) = wkA.map bare := by kernel_rfl
theorem wkB_norm : sortL cmpC (wkB.map normC) = wkB.map bare := by kernel_rfl
/-- The example's index, by rising numbers. -/
def wkL : List Itm := [(2, .slice none 0 0), (5, .slice none 0 0), (9, .slice none 0 0)]
def wkQ (e : Itm) : List Cn := if e.1 = 2 then [] else if e.1 = 5 then wkA else wkB
theorem wkL_rise : Rise8 wkL := by unfold Rise8 wkL; simp
theorem wk_rel {r1 r2 r3 : List Cn} (h1 : r1.map bare = sortL cmpC (wkA.map normC)) (h2 : r2.map bare = sortL cmpC (([] : List Cn).map normC)) (h3 : r3.map bare = sortL cmpC (wkB.map normC)) : Rel8 wkL wkQ ((([] ++ [(5, r1)]) ++ [(2, r2)]) ++ [(9, r3)]) := by
  rw [wkA_norm] at h1
  rw [wkB_norm] at h3
  have h2 : r2.map bare = [] := h2
  unfold Rel8
  simp only [List.nil_append, List.cons_append, List.map_cons, List.map_nil, bareE, h1, h2, h3, wkL, toE, wkQ]
  simp
  exact List.Perm.swap _ _ _
abbrev wkE1 : List At := [⟨sA, nv 1⟩]
abbrev wkE2 : List At := [⟨sA, nv 0⟩, ⟨sB, tv ⟨#[]⟩⟩]
theorem wk_1 : rmatched wkL wkQ wkE1 = [2, 5] := by
  have e : rmatched wkL wkQ wkE1 = (wkL.filter fun e => matchesD (wkQ e) wkE1).map (·.1) := by unfold rmatched; simp only [matches_data]
  exact e.trans (by kernel_rfl)
theorem wk_2 : rmatched wkL wkQ wkE2 = [2, 9] := by
  have e : rmatched wkL wkQ wkE2 = (wkL.filter fun e => matchesD (wkQ e) wkE2).map (·.1) := by unfold rmatched; simp only [matches_data]
  exact e.trans (by kernel_rfl)
theorem wk_3 : rlooks wkL wkQ wkE1 = 2 := by
  have e : rlooks wkL wkQ wkE1 = (wkL.map fun e => (wkQ e).countP fun c => wkE1.any fun y => y.nm.data.toList == c.nm.data.toList).sum := by unfold rlooks asked8 hasN; simp only [toList_data]
  exact e.trans (by kernel_rfl)
theorem wkA_new (w : World) : Cs (w.alloc (.cells (wkA.flatMap encC).toArray 45)) (.slice (some ⟨w.heap.size, 0, none⟩) 1 1) wkA :=
  ⟨row_blk (enc := encC) (l := wkA) encC_length (Blk.new w _ _), by decide, fun c hc => by
    simp only [wkA, List.mem_cons, List.not_mem_nil, or_false] at hc
    rcases hc with rfl <;> exact vs_nil _⟩
theorem wkB_new (w : World) : Cs (w.alloc (.cells (wkB.flatMap encC).toArray 45)) (.slice (some ⟨w.heap.size, 0, none⟩) 2 2) wkB :=
  ⟨row_blk (enc := encC) (l := wkB) encC_length (Blk.new w _ _), by decide, fun c hc => by
    simp only [wkB, List.mem_cons, List.not_mem_nil, or_false] at hc
    rcases hc with rfl | rfl <;> exact vs_nil _⟩
theorem cs_nil (w : World) : Cs w (.slice none 0 0) [] := ⟨⟨none, 0, 0, 0, rfl, Nat.le_refl _, fun h => absurd rfl h, fun _ _ => rfl, fun i hi => by simp at hi⟩, by simp, fun c hc => by cases hc⟩
theorem nil_may : mayPr [] = true := by simp [mayPr]
end Go.Proofs.YtaplgoachembdaaGreat.Gm
set_option linter.unusedSimpArgs false
set_option linter.unusedVariables false
namespace Go.Proofs.YtaplgoachembdaaGreat.Gm
open Go Go.RowKit Go.Maps
section
variable {B : Nat} {w : World} {Sr : Nat → Prop} {x bp bn t np nn : Nat} {Dp Dn : DataW Value} {D : List Ent} {F : Int → Option Value} {U : ByteArray → Value}
theorem Idx8.six (h : Idx8 B w Sr x bp bn t np nn Dp Dn D F U) : ∀ e ∈ D, e.2.length ≤ 6 := fun e he => (may_len (h.may e he)).1
theorem looks_le8 (D : List Ent) (l : List At) (h : ∀ e ∈ D, e.2.length ≤ 6) : looks D l ≤ 6 * D.length := by
  induction D with
  | nil => simp [looks]
  | cons e D ih =>
    have h1 := ih fun e he => h e (List.mem_cons_of_mem _ he)
    have h2 : (e.2.countP fun c => (getE l c.nm).isSome) ≤ 6 := Nat.le_trans List.countP_le_length (h e List.mem_cons_self)
    unfold looks at h1 ⊢
    rw [List.map_cons, List.sum_cons, List.length_cons]; omega
theorem Idx8.asks (h : Idx8 B w Sr x bp bn t np nn Dp Dn D F U) (l : List At) : (asks D l).length < 1099511627776 := by
  have h1 := asks_len D l
  have h2 := looks_le8 D l h.six
  have h3 := h.len
  omega
theorem Idx8.names (h : Idx8 B w Sr x bp bn t np nn Dp Dn D F U) : ∀ nm, (named D nm).length ≤ 1000000 := fun nm => by
  have h1 := named_le D nm h.six
  have h3 := h.len
  omega
theorem Idx8.sets (h : Idx8 B w Sr x bp bn t np nn Dp Dn D F U) : ∀ e ∈ D, ∀ c ∈ e.2, Vs w c.sv c.set := fun e he c hc => by
  obtain ⟨a, cc, _, h2⟩ := h.f1 e.1 e.2 he
  exact h2.cs.2.2 c hc
theorem Idx8.matchC (h : Idx8 B w Sr x bp bn t np nn Dp Dn D F U) (key : ByteArray) (sl : Value) (l : List At) (hE : Es w sl l) (hs : ∀ a ∈ l, a.nm.size ≤ maxLen) :
    Calls Tryz.prog 14 #[.pointer (some ⟨x, 0, none⟩), .agg #[.string key, sl]] w (MatchR D l w) :=
  match_any x bp bn nn np Dn Dp D U F key sl l w h.two h.mp h.pis (fun i p hp => by obtain ⟨a, c, h1, _⟩ := h.f1 i p hp; exact ⟨a, c, h1⟩) h.f2 h.mn h.own.is hE hs h.names (h.asks l) h.nd h.wf h.sets (by have := h.len; omega)
theorem Idx8.looksC (h : Idx8 B w Sr x bp bn t np nn Dp Dn D F U) (key : ByteArray) (sl : Value) (l : List At) (hE : Es w sl l) (hs : ∀ a ∈ l, a.nm.size ≤ maxLen) :
    Calls Tryz.prog 16 #[.pointer (some ⟨x, 0, none⟩), .agg #[.string key, sl]] w (Gives (.int .i64 (looks D l : Nat)) w) :=
  looks_any x bp bn nn Dn D U key sl l w h.two h.mn h.own.is hE hs h.names (h.asks l)
end
end Go.Proofs.YtaplgoachembdaaGreat.Gm
set_option linter.unusedSimpArgs false
set_option linter.unusedVariables false
namespace Go.Proofs.YtaplgoachembdaaGreat.Gm
open Go Go.RowKit Go.Maps
attribute [local go_sem ↓] Go.wp_at_zero Go.wp_at_succ

theorem es_new2 (a b : At) (w : World) : Es (w.alloc (.cells #[.string a.nm, .int .i64 a.v.k, .int .i64 a.v.n, .string a.v.s, .bool a.v.b, .string b.nm, .int .i64 b.v.k, .int .i64 b.v.n, .string b.v.s, .bool b.v.b] 66)) (.slice (some ⟨w.heap.size, 0, none⟩) 2 2) [a, b] := ⟨row_blk (enc := encA) (l := [a, b]) (fun _ => rfl) (Blk.new w _ _), by simp⟩
theorem nums_new2 (a b : Int) (w : World) : RowIn encN 1 (w.alloc (.cells #[.int .i64 a, .int .i64 b] 3)) (.slice (some ⟨w.heap.size, 0, none⟩) 2 2) [a, b] := row_blk (enc := encN) (l := [a, b]) (fun _ => rfl) (Blk.new w _ _)
set_option maxHeartbeats 8000000 in
set_option maxRecDepth 100000 in
theorem awake8 (w : World) : Calls Tryz.prog 6 #[] w (Gives (.bool true) w) := by
  have HNew := Lib.hid (fun W => new8_any W)
  go_enter Tryz.func6, Tryz.ntmps6
  go_wp2_with fail
  refine (HNew.out _).mono ?_; rintro e w1 ⟨x, bp, bn, rfl, hI, hx, hbp, hbn, b1⟩
  have HI1 := Lib.hid hI
  have HB1 := Lib.hid b1
  clear hI b1
  go_wp2_with fail
  refine (n_any 1 _).mono ?_; rintro e w2 ⟨rfl, b2⟩
  have HI2 := Lib.hid ((HI1.out.later b2).later (below_one w2 (.cells (wkA.flatMap encC).toArray 45)))
  have HB2 := Lib.hid (then_ (then_ HB1.out b2) (below_one w2 (.cells (wkA.flatMap encC).toArray 45)))
  have HC2 := Lib.hid (add_ok _ x bp bn 0 0 0 _ _ [] _ _ 5 (by decide) (by decide) _ wkA _ HI2.out (by decide) (wkA_new w2) wkA_may (fun p hp => by cases hp) (by decide))
  clear b2
  go_wp2_with fail
  refine (HC2.out).mono ?_; rintro e w3 ⟨rfl, r1, S1, np1, nn1, Dp1, Dn1, F1, U1, hI3, hr1, -, hK1, -⟩
  have HI3 := Lib.hid hI3
  have HR1 := Lib.hid hr1
  have HB3 := Lib.hid (HB2.out.trans (hK1.bel HI2.out.base.1 (fun k hk => by simp only [List.mem_cons, List.not_mem_nil, or_false] at hk; rcases hk with rfl | rfl <;> assumption)))
  have HC3 := Lib.hid (add_ok _ x bp bn _ _ _ _ _ _ _ _ 2 (by decide) (by decide) _ [] _ HI3.out (by decide) (cs_nil w3) nil_may (fun p hp => by simp at hp) (by simp))
  clear hI3 hr1 hK1
  go_wp2_with fail
  refine (HC3.out).mono ?_; rintro e w4 ⟨rfl, r2, S2, np2, nn2, Dp2, Dn2, F2, U2, hI4, hr2, -, hK2, -⟩
  have HI4 := Lib.hid hI4
  have HR2 := Lib.hid hr2
  have HB4 := Lib.hid (HB3.out.trans (hK2.bel HI3.out.base.1 (fun k hk => by simp only [List.mem_cons, List.not_mem_nil, or_false] at hk; rcases hk with rfl | rfl <;> assumption)))
  clear hI4 hr2 hK2
  go_wp2_with fail
  refine (n_any 1 _).mono ?_; rintro e w5 ⟨rfl, b5⟩
  have HI5 := Lib.hid ((HI4.out.later b5).later (below_one w5 (.cells (wkB.flatMap encC).toArray 45)))
  have HB5 := Lib.hid (then_ (then_ HB4.out b5) (below_one w5 (.cells (wkB.flatMap encC).toArray 45)))
  have HC5 := Lib.hid (add_ok _ x bp bn _ _ _ _ _ _ _ _ 9 (by decide) (by decide) _ wkB _ HI5.out (by decide) (wkB_new w5) wkB_may (fun p hp => by simp at hp) (by simp))
  clear b5
  go_wp2_with fail
  refine (HC5.out).mono ?_; rintro e w6 ⟨rfl, r3, S3, np3, nn3, Dp3, Dn3, F3, U3, hI6, hr3, -, hK3, -⟩
  have HI6 := Lib.hid hI6
  have HRel := Lib.hid (wk_rel HR1.out HR2.out hr3)
  have HB6 := Lib.hid (HB5.out.trans (hK3.bel HI5.out.base.1 (fun k hk => by simp only [List.mem_cons, List.not_mem_nil, or_false] at hk; rcases hk with rfl | rfl <;> assumption)))
  clear hI6 hr3 hK3
  go_wp2_with fail
  refine (n_any 1 _).mono ?_; rintro e w7 ⟨rfl, b7⟩
  have HB7 := Lib.hid (then_ (Below.refl _ w6) b7)
  clear b7
  go_wp2_with fail
  refine (a_any sA (nv 1) _).mono ?_; rintro e w8 ⟨rfl, b8⟩
  have HB8 := Lib.hid (then_ HB7.out b8)
  clear b8
  go_wp2_with fail
  refine (e_any _ _ _ _).mono ?_; rintro e w9 ⟨rfl, b9⟩
  have HE9 := Lib.hid ((es_new ⟨sA, nv 1⟩ w8).later b9)
  have HB9 := Lib.hid (then_ (then_ HB8.out (below_one w8 _)) b9)
  clear b9
  go_wp2_with fail
  have HK9 := Lib.hid (Blk.new w9 34 #[.string ⟨#[]⟩, .slice (some ⟨w8.heap.size, 0, none⟩) 1 1])
  have HBa := Lib.hid (then_ HB9.out (below_one w9 (.cells #[.string ⟨#[]⟩, .slice (some ⟨w8.heap.size, 0, none⟩) 1 1] 34)))
  have HEa := Lib.hid (HE9.out.later (below_one w9 (.cells #[.string ⟨#[]⟩, .slice (some ⟨w8.heap.size, 0, none⟩) 1 1] 34)))
  obtain ⟨wa, hwa⟩ : ∃ wa, w9.alloc (.cells #[.string ⟨#[]⟩, .slice (some ⟨w8.heap.size, 0, none⟩) 1 1] 34) = wa := ⟨_, rfl⟩
  rw [hwa] at HK9 HBa HEa
  have HWa := Lib.hid hwa
  obtain ⟨g1, hg1⟩ : ∃ g1, w9.heap.size = g1 := ⟨_, rfl⟩
  obtain ⟨g0, hg0⟩ : ∃ g0, w8.heap.size = g0 := ⟨_, rfl⟩
  rw [hg1, hg0] at HK9
  rw [hg0] at HEa
  rw [hwa, hg1, hg0]
  clear hwa hg1 HE9 HB9 HWa
  refine (n_any 0 _).mono ?_; rintro e wb ⟨rfl, bb⟩
  have HBb := Lib.hid (then_ (Below.refl _ wa) bb)
  clear bb
  go_wp2_with fail
  refine (a_any sA (nv 0) _).mono ?_; rintro e wc ⟨rfl, bc⟩
  have HBc := Lib.hid (then_ HBb.out bc)
  clear bc
  go_wp2_with fail
  refine (s_any ⟨#[]⟩ _).mono ?_; rintro e wd ⟨rfl, bd⟩
  have HBd := Lib.hid (then_ HBc.out bd)
  clear bd
  go_wp2_with fail
  refine (a_any sB (tv ⟨#[]⟩) _).mono ?_; rintro e we ⟨rfl, be⟩
  have HBe := Lib.hid (then_ HBd.out be)
  clear be
  go_wp2_with fail
  refine (e_any _ _ _ _).mono ?_; rintro e wf ⟨rfl, bf⟩
  have HEf := Lib.hid ((es_new2 ⟨sA, nv 0⟩ ⟨sB, tv ⟨#[]⟩⟩ we).later bf)
  have HBf := Lib.hid (then_ (then_ HBe.out (below_one we _)) bf)
  clear bf
  have HKf := Lib.hid (Blk.new wf 34 #[.string ⟨#[]⟩, .slice (some ⟨we.heap.size, 0, none⟩) 2 2])
  have HBg := Lib.hid (then_ HBf.out (below_one wf (.cells #[.string ⟨#[]⟩, .slice (some ⟨we.heap.size, 0, none⟩) 2 2] 34)))
  have HEg := Lib.hid (HEf.out.later (below_one wf (.cells #[.string ⟨#[]⟩, .slice (some ⟨we.heap.size, 0, none⟩) 2 2] 34)))
  have HIg := Lib.hid (HI6.out.later (then_ HBa.out HBg.out))
  have HE1g := Lib.hid (HEa.out.later HBg.out)
  have HK1g := Lib.hid (HK9.out.later HBg.out)
  have x0 := HK1g.out.cell 0 rfl
  have x1 := HK1g.out.cell 1 rfl
  clear HEf HBf
  have hsA : ∀ a ∈ wkE1, a.nm.size ≤ maxLen := fun a ha => by simp only [List.mem_singleton] at ha; subst ha; decide
  have hsB : ∀ a ∈ wkE2, a.nm.size ≤ maxLen := fun a ha => by simp only [List.mem_cons, List.not_mem_nil, or_false] at ha; rcases ha with rfl | rfl <;> decide
  have HM1 := Lib.hid (HIg.out.matchC ⟨#[]⟩ _ wkE1 HE1g.out hsA)
  go_wp2_with fail
  clear x0 x1
  obtain ⟨wg, hwg⟩ : ∃ wg, wf.alloc (.cells #[.string ⟨#[]⟩, .slice (some ⟨we.heap.size, 0, none⟩) 2 2] 34) = wg := ⟨_, rfl⟩
  obtain ⟨g3, hg3⟩ : ∃ g3, wf.heap.size = g3 := ⟨_, rfl⟩
  rw [hwg] at HIg HE1g HK1g HKf HEg HM1 HBg ⊢
  rw [hg3] at HKf ⊢
  obtain ⟨g2, hg2⟩ : ∃ g2, we.heap.size = g2 := ⟨_, rfl⟩
  rw [hg2] at HKf HEg ⊢
  clear hwg hg3 hg2
  refine HM1.out.mono ?_; rintro e wh ⟨v, rfl, hO, bh⟩
  rw [(matched_rel wkL_rise HRel.out wkE1).trans wk_1] at hO
  obtain ⟨pv, cv, rfl⟩ := own_shape hO
  have HBh := Lib.hid (then_ HBg.out bh)
  have HBhg := Lib.hid bh
  have HIh := Lib.hid (HIg.out.later bh)
  have HOh := Lib.hid hO.row
  clear hO bh HM1
  go_wp2_with fail
  have HS1 := Lib.hid (same_nums _ _ [2, 5] [2, 5] _ (HOh.out.later (below_one wh (.cells #[.int .i64 2, .int .i64 5] 3))) (nums_new2 2 5 wh) (by decide))
  rw [show decide (([2, 5] : List Int) = [2, 5]) = true from by decide] at HS1
  refine HS1.out.mono ?_; rintro e wi ⟨rfl, bi⟩
  have HBi := Lib.hid (then_ (then_ HBh.out (below_one wh (.cells #[.int .i64 2, .int .i64 5] 3))) bi)
  have HIi := Lib.hid ((HIh.out.later (below_one wh (.cells #[.int .i64 2, .int .i64 5] 3))).later bi)
  have bgi : Below wg.heap.size wg wi := then_ (then_ HBhg.out (below_one wh (.cells #[.int .i64 2, .int .i64 5] 3))) bi
  have HE2i := Lib.hid (HEg.out.later bgi)
  have HE1i := Lib.hid (HE1g.out.later bgi)
  have HK1i := Lib.hid (HK1g.out.later bgi)
  have y0 := (HKf.out.later bgi).cell 0 rfl
  have y1 := (HKf.out.later bgi).cell 1 rfl
  clear bi bgi HS1 HIh
  have HM2 := Lib.hid (HIi.out.matchC ⟨#[]⟩ _ wkE2 HE2i.out hsB)
  go_wp2_with fail
  clear y0 y1
  refine HM2.out.mono ?_; rintro e wj ⟨v, rfl, hO, bj⟩
  rw [(matched_rel wkL_rise HRel.out wkE2).trans wk_2] at hO
  obtain ⟨pw, cw, rfl⟩ := own_shape hO
  have HS2 := Lib.hid (same_nums _ _ [2, 9] [2, 9] _ (hO.row.later (below_one wj (.cells #[.int .i64 2, .int .i64 9] 3))) (nums_new2 2 9 wj) (by decide))
  rw [show decide (([2, 9] : List Int) = [2, 9]) = true from by decide] at HS2
  have HBj := Lib.hid (then_ bj (below_one wj (.cells #[.int .i64 2, .int .i64 9] 3)))
  clear hO bj HM2
  go_wp2_with fail
  refine HS2.out.mono ?_; rintro e wk ⟨rfl, bk⟩
  have HBk := Lib.hid (then_ HBj.out bk)
  have z0 := (HK1i.out.later HBk.out).cell 0 rfl
  have z1 := (HK1i.out.later HBk.out).cell 1 rfl
  have HL := Lib.hid ((HIi.out.later HBk.out).looksC ⟨#[]⟩ _ wkE1 (HE1i.out.later HBk.out) hsA)
  rw [(looks_rel HRel.out wkE1).trans wk_3] at HL
  clear bk HS2
  go_wp2_with fail
  clear z0 z1
  refine HL.out.mono ?_; rintro e wl ⟨rfl, bl⟩
  have HEnd := Lib.hid (HB6.out.trans ((then_ HBa.out (then_ HBi.out (then_ HBk.out bl))).mono HB6.out.size))
  clear bl
  go_wp2_with fail
  go_ret
  exact ⟨rfl, HEnd.out⟩
end Go.Proofs.YtaplgoachembdaaGreat.Gm
