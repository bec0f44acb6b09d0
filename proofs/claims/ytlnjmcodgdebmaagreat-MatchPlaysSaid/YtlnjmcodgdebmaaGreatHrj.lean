/- Layer 8: what an index that is whole tells. -/
import Derived.Test.YtlnjmcodgdebmaaGreatKx
import Derived.Test.YtlnjmcodgdebmaaGreatHd
import Derived.Test.YtlnjmcodgdebmaaGreatHrg
/- The contract of the statements' first question in layer 4: what the chapter's examples say. -/
set_option linter.unusedSimpArgs false
set_option linter.unusedVariables false
namespace Go.Proofs.YtlnjmcodgdebmaaGreat.Gm
open Go Go.RowKit
attribute [local go_sem ↓] Go.wp_at_zero Go.wp_at_succ

theorem row_blk {α : Type} [Inhabited α] {enc : α → List Value} {n : Nat} (hn : ∀ x, (enc x).length = n) {w : World} {g : Nat} {t : TypeId} {l : List α} (h : Blk w g t (l.flatMap enc).toArray) : RowIn enc n w (.slice (some ⟨g, 0, none⟩) l.length l.length) l := by
  refine ⟨_, l.length, g, 0, rfl, Nat.le_refl _, fun _ => ⟨rfl, h.lt⟩, fun _ h => (by cases h), fun i hi j u hu => ?_⟩
  have h1 := flat_at hn l i j u hi hu
  rw [Nat.zero_add]
  exact h.cell _ (by simpa using h1)
/-- Numbers and texts as values; attributes; events. -/
abbrev nv (z : Int) : Vl := ⟨1, z, ⟨#[]⟩, false⟩
abbrev tv (s : ByteArray) : Vl := ⟨2, 0, s, false⟩
theorem n_any (z : Int) (w : World) : Calls Tryz.prog 23 #[.int .i64 z] w (Gives (vv (nv z)) w) := by
  go_enter Tryz.func23, Tryz.ntmps23
  go_wp2
  exact bodyPost_ret (v := vv (nv z)) (by simp [results, Tryz.results23, go_sem]) rfl ⟨rfl, below_one _ _⟩
theorem s_any (s : ByteArray) (w : World) : Calls Tryz.prog 26 #[.string s] w (Gives (vv (tv s)) w) := by
  go_enter Tryz.func26, Tryz.ntmps26
  go_wp2
  exact bodyPost_ret (v := vv (tv s)) (by simp [results, Tryz.results26, go_sem]) rfl ⟨rfl, below_one _ _⟩
abbrev av (a : At) : Value := .agg #[.string a.nm, .int .i64 a.v.k, .int .i64 a.v.n, .string a.v.s, .bool a.v.b]
theorem a_any (nm : ByteArray) (v : Vl) (w : World) : Calls Tryz.prog 25 #[.string nm, vv v] w (Gives (av ⟨nm, v⟩) w) := by
  go_enter Tryz.func25, Tryz.ntmps25
  go_wp2
  exact bodyPost_ret (v := av ⟨nm, v⟩) (by simp [results, Tryz.results25, go_sem]) rfl ⟨rfl, ((Below.refl _ w).alloc (Nat.le_refl _) _).alloc (by simp) _⟩
theorem e_any (p : Option Addr) (n c : Nat) (w : World) : Calls Tryz.prog 24 #[.slice p n c] w (Gives (.agg #[.string ⟨#[]⟩, .slice p n c]) w) := by
  go_enter Tryz.func24, Tryz.ntmps24
  go_wp2
  exact bodyPost_ret (v := .agg #[.string ⟨#[]⟩, .slice p n c]) (by simp [results, Tryz.results24, go_sem]) rfl ⟨rfl, below_one _ _⟩

theorem getE_data (l : List At) (name : ByteArray) : getE l name = l.find? fun a => a.nm.data.toList == name.data.toList := by unfold getE; simp only [toList_data]
def matchesD (l : List Cn) (attrs : List At) : Bool := l.all fun c => match attrs.find? fun a => a.nm.data.toList == c.nm.data.toList with
  | none => false
  | some a => holdsB c a.v
theorem matches_data (l : List Cn) (attrs : List At) : matchesB l attrs = matchesD l attrs := by
  unfold matchesB matchesD oneB
  simp only [getE_data]
  rfl
theorem cmpL_bare : ∀ a b : List Cn, cmpL cmpC (a.map bare) (b.map bare) = cmpL cmpC a b
  | [], [] => rfl
  | [], _ :: _ => rfl
  | _ :: _, [] => rfl
  | x :: a, y :: b => by simp only [List.map_cons, cmpL, cmpC_bare, cmpL_bare a b]
theorem same_bare {a b : List Cn} (h : a.map bare = b.map bare) : cmpL cmpC a b = 0 := by rw [← cmpL_bare, h]; exact (weak_list weakC).self _
theorem bare_same {a b : List Cn} (h : cmpL cmpC a b = 0) : a.map bare = b.map bare := by
  rw [← cmpL_bare] at h
  have h2 : ∀ a b : List Cn, cmpL cmpC (a.map bare) (b.map bare) = 0 → a.map bare = b.map bare := by
    intro a
    induction a with
    | nil => intro b h; cases b <;> simp [cmpL] at h ⊢
    | cons x a ih =>
      intro b h
      cases b with
      | nil => simp [cmpL] at h
      | cons y b =>
        simp only [List.map_cons, cmpL] at h
        by_cases e : cmpC (bare x) (bare y) = 0
        · rw [if_pos e] at h
          rw [List.map_cons, List.map_cons, cmpC_zero x y e, ih b h]
        · rw [if_neg e] at h; exact absurd h e
  exact h2 a b h

abbrev sA : ByteArray := ⟨#[97]⟩
abbrev sB : ByteArray := ⟨#[98]⟩
/-- The first example's predicate; the last one's, and what becomes of it. -/
def exP : List Cn := [⟨sA, 7, nv 5, none, 0, []⟩, ⟨sA, 4, nv 9, none, 0, []⟩]
def exQ (g : Nat) : List Cn := [⟨sB, 1, default, none, 0, []⟩, ⟨sA, 9, default, some ⟨g, 0, none⟩, 3, [nv 2, nv 1, nv 2]⟩, ⟨sB, 1, default, none, 0, []⟩]
def exR (g : Nat) : List Cn := [⟨sA, 9, default, some ⟨g, 0, none⟩, 2, [nv 1, nv 2]⟩, ⟨sB, 1, default, none, 0, []⟩]
theorem exP_1 : matchesD exP [⟨sA, nv 5⟩] = true := by kernel_rfl
theorem exP_2 : matchesD exP [⟨sA, nv 9⟩] = false := by kernel_rfl
theorem exP_3 : matchesD exP [⟨sA, tv ⟨#[53]⟩⟩] = false := by kernel_rfl
theorem exP_4 : matchesD exP [] = false := by kernel_rfl
theorem exQ_may (g : Nat) : mayPr (exQ g) = true := by
  have e : ∀ z, mayB 1 z ⟨#[]⟩ false = true := fun z => by simp [mayB, empty_toList]
  have e2 : eqlVal 0 0 ⟨#[]⟩ false 0 0 ⟨#[]⟩ false = true := by simp [eqlVal]
  simp [mayPr, exQ, mayCn, mayOp, maySt, bareB, mayVl, e, show (default : Vl) = ⟨0, 0, ⟨#[]⟩, false⟩ from rfl, e2]
  decide
theorem exQ_norm (g g' : Nat) : sortL cmpC ((exQ g).map normC) = (exR g').map bare := by kernel_rfl
theorem vs_nil (w : World) : Vs w (.slice none 0 0) [] := ⟨⟨none, 0, 0, 0, rfl, Nat.le_refl _, fun h => absurd rfl h, fun _ _ => rfl, fun i hi => by simp at hi⟩, by simp⟩
theorem es_nil (w : World) : Es w (.slice none 0 0) [] := ⟨⟨none, 0, 0, 0, rfl, Nat.le_refl _, fun h => absurd rfl h, fun _ _ => rfl, fun i hi => by simp at hi⟩, by simp⟩
theorem es_new (a : At) (w : World) : Es (w.alloc (.cells #[.string a.nm, .int .i64 a.v.k, .int .i64 a.v.n, .string a.v.s, .bool a.v.b] 66)) (.slice (some ⟨w.heap.size, 0, none⟩) 1 1) [a] := ⟨row_blk (enc := encA) (l := [a]) (fun _ => rfl) (Blk.new w _ _), by simp⟩
theorem exP_new (w : World) : Cs (w.alloc (.cells (exP.flatMap encC).toArray 45)) (.slice (some ⟨w.heap.size, 0, none⟩) 2 2) exP :=
  ⟨row_blk (enc := encC) (l := exP) encC_length (Blk.new w _ _), by decide, fun c hc => by
    simp only [exP, List.mem_cons, List.not_mem_nil, or_false] at hc
    rcases hc with rfl | rfl <;> exact vs_nil _⟩
theorem exQ_new (g G : Nat) (w : World) (hG : w.heap.size = G) (h : Vs w (.slice (some ⟨g, 0, none⟩) 3 3) [nv 2, nv 1, nv 2]) : Cs (w.alloc (.cells ((exQ g).flatMap encC).toArray 45)) (.slice (some ⟨G, 0, none⟩) 3 3) (exQ g) :=
  ⟨row_blk (enc := encC) (l := exQ g) encC_length (hG ▸ Blk.new w _ _), by simp [exQ], fun c hc => by
    simp only [exQ, List.mem_cons, List.not_mem_nil, or_false] at hc
    rcases hc with rfl | rfl | rfl
    · exact vs_nil _
    · exact h.later (below_one _ _)
    · exact vs_nil _⟩
theorem exR_new (g G : Nat) (w : World) (hG : w.heap.size = G) (h : Vs w (.slice (some ⟨g, 0, none⟩) 2 2) [nv 1, nv 2]) : Cs (w.alloc (.cells ((exR g).flatMap encC).toArray 45)) (.slice (some ⟨G, 0, none⟩) 2 2) (exR g) :=
  ⟨row_blk (enc := encC) (l := exR g) encC_length (hG ▸ Blk.new w _ _), by simp [exR], fun c hc => by
    simp only [exR, List.mem_cons, List.not_mem_nil, or_false] at hc
    rcases hc with rfl | rfl
    · exact h.later (below_one _ _)
    · exact vs_nil _⟩
theorem vals_new (l : List Vl) (hl : l.length ≤ 1000) (w : World) : Vs (w.alloc (.cells (l.flatMap encV).toArray 42)) (.slice (some ⟨w.heap.size, 0, none⟩) l.length l.length) l := ⟨row_blk (enc := encV) (l := l) encV_length (Blk.new w _ _), by omega⟩
theorem m_is {l : List Cn} {attrs : List At} {b : Bool} (h : matchesD l attrs = b) : matchesB l attrs = b := (matches_data l attrs).trans h

end Go.Proofs.YtlnjmcodgdebmaaGreat.Gm
/- Layer 8: New, as an index whole. -/
set_option linter.unusedSimpArgs false
set_option linter.unusedVariables false
namespace Go.Proofs.YtlnjmcodgdebmaaGreat.Gm
open Go Go.RowKit Go.Maps
variable {B : Nat}
attribute [local go_sem ↓] Go.wp_at_zero Go.wp_at_succ

/-- What New tells: an index whole, without predicates. -/
def New8 (w : World) (e : Ending) (w' : World) : Prop :=
  ∃ x bp bn, e = .returned (.pointer (some ⟨x, 0, none⟩)) ∧ Idx8 w.heap.size w' (fun _ => False) x bp bn 0 0 0 (.map []) (.map []) [] (fun _ => none) (fun _ => .slice none 0 0) ∧ w.heap.size ≤ x ∧ w.heap.size ≤ bp ∧ w.heap.size ≤ bn ∧ Below w.heap.size w w'
theorem idx8_empty {w : World} {x bp bn : Nat} (hb : Blk w x 72 #[.map (some bp), .map (some bn)]) (hn : bp ≠ bn) (h1 : w.ownsMap Tryz.prog 3 idElem bp 0 (.map [])) (h2 : w.ownsMap Tryz.prog 9 idElem bn 0 (.map [])) (hB : B ≤ w.heap.size ∧ B ≤ x ∧ B ≤ bp ∧ B ≤ bn) :
    Idx8 B w (fun _ => False) x bp bn 0 0 0 (.map []) (.map []) [] (fun _ => none) (fun _ => .slice none 0 0) := by
  refine ⟨hb, hn, h1, h2, Nat.le_refl _, Nat.le_refl _, rfl, ?_, ?_, ⟨fun i _ => rfl, fun i v h => (nomatch h)⟩, fun i p h => (by cases h), fun i v h => (nomatch h), ⟨fun nm _ => rfl, fun nm _ => ?_, fun a b g _ _ _ h => ?_⟩, fun k h => h.elim, List.nodup_nil, fun e h => (by cases h), fun e h => (by cases h), Nat.zero_le _, hB⟩
  · exact ⟨[], rfl, List.Pairwise.nil⟩
  · exact ⟨[], rfl⟩
  · exact World.ownsRow_nil _ _ _ _
  · simp [Value.ownBlock] at h
set_option maxHeartbeats 1000000 in
theorem new8_any (w : World) : Calls Tryz.prog 6 #[] w (New8 w) := by
  have hmm := @run_makeMap Tryz.prog
  go_enter Tryz.func6, Tryz.ntmps6
  go_wp2
  go_ret
  have hn : ∀ W : World, Below W.heap.size W (W.alloc (.map #[] 0)) := fun W => (Below.refl _ W).alloc (Nat.le_refl _) _
  have h1 : (w.alloc (.map #[] 0)).heap.size = w.heap.size + 1 := by simp
  have h2 : ((w.alloc (.map #[] 0)).alloc (.map #[] 0)).heap.size = w.heap.size + 1 + 1 := by simp
  have hb := ((hn w).trans ((hn _).mono (by omega)))
  refine ⟨w.heap.size + 1 + 1, w.heap.size, w.heap.size + 1, by simp, idx8_empty (by rw [← h2]; exact Blk.new _ _ _) (by omega) ?_ ?_ ⟨by simp; omega, by omega, by omega, by omega⟩, by omega, by omega, by omega, hb.alloc (by omega) _⟩
  · exact map_later (World.ownsMap_made w _ _ _) ((hn _).trans ((Below.refl _ _).alloc (by omega) _)) (by omega)
  · exact map_later (h1 ▸ World.ownsMap_made (w.alloc (.map #[] 0)) _ _ _) ((Below.refl (w.heap.size + 1 + 1) _).alloc (by omega) _) (by omega)
end Go.Proofs.YtlnjmcodgdebmaaGreat.Gm
/- Layer 8, plain: the chapter's example. -/
set_option linter.unusedSimpArgs false
set_option linter.unusedVariables false
namespace Go.Proofs.YtlnjmcodgdebmaaGreat.Gm
open Go Go.RowKit Go.Maps

def wkA : List Cn := [⟨sA, 7, nv 1, none, 0, []⟩]
def wkB : List Cn := [⟨sA, 4, nv 1, none, 0, []⟩, ⟨sB, 1, default, none, 0, []⟩]
theorem wkA_may : mayPr wkA = true := by
  have e : ∀ z, mayB 1 z ⟨#[]⟩ false = true := fun z => by simp [mayB, empty_toList]
  simp [mayPr, wkA, mayCn, mayOp, maySt, mayVl, e]
  decide
theorem wkB_may : mayPr wkB = true := by
  have e : ∀ z, mayB 1 z ⟨#[]⟩ false = true := fun z => by simp [mayB, empty_toList]
  have e2 : eqlVal 0 0 ⟨#[]⟩ false 0 0 ⟨#[]⟩ false = true := by simp [eqlVal]
  simp [mayPr, wkB, mayCn, mayOp, maySt, bareB, mayVl, e, show (default : Vl) = ⟨0, 0, ⟨#[]⟩, false⟩ from rfl, e2]
  decide
theorem wkA_norm : sortL cmpC (wkA.map normC) = wkA.map bare := by kernel_rfl
theorem wkB_norm : sortL cmpC (wkB.map normC) = wkB.map bare := by kernel_rfl
/-- The example's index, by rising numbers. -/
def wkL : List Itm := [(2, .slice none 0 0), (5, .slice none 0 0), (9, .slice none 0 0)]
def wkQ (e : Itm) : List Cn := if e.1 = 2 then [] else if e.1 = 5 then wkA else wkB
theorem wkL_rise : Rise8 wkL := by unfold Rise8 wkL; simp
theorem wk_rel {r1 r2 r3 : List Cn} (h1 : r1.map bare = sortL cmpC (wkA.map normC)) (h2 : r2.map bare = sortL cmpC (([] : List Cn).map normC)) (h3 : r3.map bare = sortL cmpC (wkB.map normC)) : Rel8 wkL wkQ ((([] ++ [(5, r1)]) ++ [(2, r2)]) ++ [(9, r3)]) := by
  rw [wkA_norm] at h1
  rw [wkB_norm] at h3
  have h2 : r2.map bare = [] := h2
  unfold Rel8
  simp only [List.nil_append, List.cons_append, List.map_cons, List.map_nil, bareE, h1, h2, h3, wkL, toE, wkQ]
  simp
  exact List.Perm.swap _ _ _
abbrev wkE1 : List At := [⟨sA, nv 1⟩]
abbrev wkE2 : List At := [⟨sA, nv 0⟩, ⟨sB, tv ⟨#[]⟩⟩]
theorem wk_1 : rmatched wkL wkQ wkE1 = [2, 5] := by
  have e : rmatched wkL wkQ wkE1 = (wkL.filter fun e => matchesD (wkQ e) wkE1).map (·.1) := by unfold rmatched; simp only [matches_data]
  exact e.trans (by kernel_rfl)
theorem wk_2 : rmatched wkL wkQ wkE2 = [2, 9] := by
  have e : rmatched wkL wkQ wkE2 = (wkL.filter fun e => matchesD (wkQ e) wkE2).map (·.1) := by unfold rmatched; simp only [matches_data]
  exact e.trans (by kernel_rfl)
theorem wk_3 : rlooks wkL wkQ wkE1 = 2 := by
  have e : rlooks wkL wkQ wkE1 = (wkL.map fun e => (wkQ e).countP fun c => wkE1.any fun y => y.nm.data.toList == c.nm.data.toList).sum := by unfold rlooks asked8 hasN; simp only [toList_data]
  exact e.trans (by kernel_rfl)
theorem wkA_new (w : World) : Cs (w.alloc (.cells (wkA.flatMap encC).toArray 45)) (.slice (some ⟨w.heap.size, 0, none⟩) 1 1) wkA :=
  ⟨row_blk (enc := encC) (l := wkA) encC_length (Blk.new w _ _), by decide, fun c hc => by
    simp only [wkA, List.mem_cons, List.not_mem_nil, or_false] at hc
    rcases hc with rfl <;> exact vs_nil _⟩
theorem wkB_new (w : World) : Cs (w.alloc (.cells (wkB.flatMap encC).toArray 45)) (.slice (some ⟨w.heap.size, 0, none⟩) 2 2) wkB :=
  ⟨row_blk (enc := encC) (l := wkB) encC_length (Blk.new w _ _), by decide, fun c hc => by
    simp only [wkB, List.mem_cons, List.not_mem_nil, or_false] at hc
    rcases hc with rfl | rfl <;> exact vs_nil _⟩
theorem cs_nil (w : World) : Cs w (.slice none 0 0) [] := ⟨⟨none, 0, 0, 0, rfl, Nat.le_refl _, fun h => absurd rfl h, fun _ _ => rfl, fun i hi => by simp at hi⟩, by simp, fun c hc => by cases hc⟩
theorem nil_may : mayPr [] = true := by simp [mayPr]
end Go.Proofs.YtlnjmcodgdebmaaGreat.Gm
set_option linter.unusedSimpArgs false
set_option linter.unusedVariables false
namespace Go.Proofs.YtlnjmcodgdebmaaGreat.Gm
open Go Go.RowKit Go.Maps
section
variable {B : Nat} {w : World} {Sr : Nat → Prop} {x bp bn t np nn : Nat} {Dp Dn : DataW Value} {D : List Ent} {F : Int → Option Value} {U : ByteArray → Value}
theorem Idx8.six (h : Idx8 B w Sr x bp bn t np nn Dp Dn D F U) : ∀ e ∈ D, e.2.length ≤ 6 := fun e he => (may_len (h.may e he)).1
theorem looks_le8 (D : List Ent) (l : List At) (h : ∀ e ∈ D, e.2.length ≤ 6) : looks D l ≤ 6 * D.length := by
  induction D with
  | nil => simp [looks]
  | cons e D ih =>
    have h1 := ih fun e he => h e (List.mem_cons_of_mem _ he)
    have h2 : (e.2.countP fun c => (getE l c.nm).isSome) ≤ 6 := Nat.le_trans List.countP_le_length (h e List.mem_cons_self)
    unfold looks at h1 ⊢
    rw [List.map_cons, List.sum_cons, List.length_cons]; omega
theorem Idx8.asks (h : Idx8 B w Sr x bp bn t np nn Dp Dn D F U) (l : List At) : (asks D l).length < 1099511627776 := by
  have h1 := asks_len D l
  have h2 := looks_le8 D l h.six
  have h3 := h.len
  omega
theorem Idx8.names (h : Idx8 B w Sr x bp bn t np nn Dp Dn D F U) : ∀ nm, (named D nm).length ≤ 1000000 := fun nm => by
  have h1 := named_le D nm h.six
  have h3 := h.len
  omega
theorem Idx8.sets (h : Idx8 B w Sr x bp bn t np nn Dp Dn D F U) : ∀ e ∈ D, ∀ c ∈ e.2, Vs w c.sv c.set := fun e he c hc => by
  obtain ⟨a, cc, _, h2⟩ := h.f1 e.1 e.2 he
  exact h2.cs.2.2 c hc
theorem Idx8.matchC (h : Idx8 B w Sr x bp bn t np nn Dp Dn D F U) (key : ByteArray) (sl : Value) (l : List At) (hE : Es w sl l) (hs : ∀ a ∈ l, a.nm.size ≤ maxLen) :
    Calls Tryz.prog 13 #[.pointer (some ⟨x, 0, none⟩), .agg #[.string key, sl]] w (MatchR D l w) :=
  match_any x bp bn nn np Dn Dp D U F key sl l w h.two h.mp h.pis (fun i p hp => by obtain ⟨a, c, h1, _⟩ := h.f1 i p hp; exact ⟨a, c, h1⟩) h.f2 h.mn h.own.is hE hs h.names (h.asks l) h.nd h.wf h.sets (by have := h.len; omega)
theorem Idx8.looksC (h : Idx8 B w Sr x bp bn t np nn Dp Dn D F U) (key : ByteArray) (sl : Value) (l : List At) (hE : Es w sl l) (hs : ∀ a ∈ l, a.nm.size ≤ maxLen) :
    Calls Tryz.prog 15 #[.pointer (some ⟨x, 0, none⟩), .agg #[.string key, sl]] w (Gives (.int .i64 (looks D l : Nat)) w) :=
  looks_any x bp bn nn Dn D U key sl l w h.two h.mn h.own.is hE hs h.names (h.asks l)
end
end Go.Proofs.YtlnjmcodgdebmaaGreat.Gm
