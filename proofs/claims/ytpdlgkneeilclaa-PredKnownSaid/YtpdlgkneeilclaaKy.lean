/- The contract of the statements' first question in layer 4: what the chapter's examples say. -/
import Derived.Test.YtpdlgkneeilclaaKx
import Derived.Test.YtpdlgkneeilclaaKq
set_option linter.unusedSimpArgs false
set_option linter.unusedVariables false
namespace Go.Proofs.Ytpdlgkneeilclaa.Gm
open Go Go.RowKit
attribute [local go_sem ↓] Go.wp_at_zero Go.wp_at_succ

theorem row_blk {α : Type} [Inhabited α] {enc : α → List Value} {n : Nat} (hn : ∀ x, (enc x).length = n) {w : World} {g : Nat} {t : TypeId} {l : List α} (h : Blk w g t (l.flatMap enc).toArray) : RowIn enc n w (.slice (some ⟨g, 0, none⟩) l.length l.length) l := by
  refine ⟨_, l.length, g, 0, rfl, Nat.le_refl _, fun _ => ⟨rfl, h.lt⟩, fun _ h => (by cases h), fun i hi j u hu => ?_⟩
  have h1 := flat_at hn l i j u hi hu
  rw [Nat.zero_add]
  exact h.cell _ (by simpa using h1)
/-- Numbers and texts as values; attributes; events. -/
abbrev nv (z : Int) : Vl := ⟨1, z, ⟨#[]⟩, false⟩
abbrev tv (s : ByteArray) : Vl := ⟨2, 0, s, false⟩
theorem n_any (z : Int) (w : World) : Calls Try.prog 29 #[.int .i64 z] w (Gives (vv (nv z)) w) := by
  go_enter Try.func29, Try.ntmps29
  go_wp2
  exact bodyPost_ret (v := vv (nv z)) (by simp [results, Try.results29, go_sem]) rfl ⟨rfl, below_one _ _⟩
theorem s_any (s : ByteArray) (w : World) : Calls Try.prog 30 #[.string s] w (Gives (vv (tv s)) w) := by
  go_enter Try.func30, Try.ntmps30
  go_wp2
  exact bodyPost_ret (v := vv (tv s)) (by simp [results, Try.results30, go_sem]) rfl ⟨rfl, below_one _ _⟩
abbrev av (a : At) : Value := .agg #[.string a.nm, .int .i64 a.v.k, .int .i64 a.v.n, .string a.v.s, .bool a.v.b]
theorem a_any (nm : ByteArray) (v : Vl) (w : World) : Calls Try.prog 32 #[.string nm, vv v] w (Gives (av ⟨nm, v⟩) w) := by
  go_enter Try.func32, Try.ntmps32
  go_wp2
  exact bodyPost_ret (v := av ⟨nm, v⟩) (by simp [results, Try.results32, go_sem]) rfl ⟨rfl, ((Below.refl _ w).alloc (Nat.le_refl _) _).alloc (by simp) _⟩
theorem e_any (p : Option Addr) (n c : Nat) (w : World) : Calls Try.prog 31 #[.slice p n c] w (Gives (.agg #[.string ⟨#[]⟩, .slice p n c]) w) := by
  go_enter Try.func31, Try.ntmps31
  go_wp2
  exact bodyPost_ret (v := .agg #[.string ⟨#[]⟩, .slice p n c]) (by simp [results, Try.results31, go_sem]) rfl ⟨rfl, below_one _ _⟩

theorem getE_data (l : List At) (name : ByteArray) : getE l name = l.find? fun a => a.nm.data.toList == name.data.toList := by unfold getE; simp only [toList_data]
def matchesD (l : List Cn) (attrs : List At) : Bool := l.all fun c => match attrs.find? fun a => a.nm.data.toList == c.nm.data.toList with
  | none => false
  | some a => holdsB c a.v
theorem matches_data (l : List Cn) (attrs : List At) : matchesB l attrs = matchesD l attrs := by
  unfold matchesB matchesD oneB
  simp only [getE_data]
  rfl
theorem cmpL_bare : ∀ a b : List Cn, cmpL cmpC (a.map bare) (b.map bare) = cmpL cmpC a b
  | [], [] => rfl
  | [], _ :: _ => rfl
  | _ :: _, [] => rfl
  | x :: a, y :: b => by simp only [List.map_cons, cmpL, cmpC_bare, cmpL_bare a b]
theorem same_bare {a b : List Cn} (h : a.map bare = b.map bare) : cmpL cmpC a b = 0 := by rw [← cmpL_bare, h]; exact (weak_list weakC).self _
theorem bare_same {a b : List Cn} (h : cmpL cmpC a b = 0) : a.map bare = b.map bare := by
  rw [← cmpL_bare] at h
  have h2 : ∀ a b : List Cn, cmpL cmpC (a.map bare) (b.map bare) = 0 → a.map bare = b.map bare := by
    intro a
    induction a with
    | nil => intro b h; cases b <;> simp [cmpL] at h ⊢
    | cons x a ih =>
      intro b h
      cases b with
      | nil => simp [cmpL] at h
      | cons y b =>
        simp only [List.map_cons, cmpL] at h
        by_cases e : cmpC (bare x) (bare y) = 0
        · rw [if_pos e] at h
          rw [List.map_cons, List.map_cons, cmpC_zero x y e, ih b h]
        · rw [if_neg e] at h; exact absurd h e
  exact h2 a b h

abbrev sA : ByteArray := ⟨#[97]⟩
abbrev sB : ByteArray := ⟨#[98]⟩
/-- The first example's predicate; the last one's, and what becomes of it. -/
def exP : List Cn := [⟨sA, 7, nv 5, none, 0, []⟩, ⟨sA, 4, nv 9, none, 0, []⟩]
def exQ (g : Nat) : List Cn := [⟨sB, 1, default, none, 0, []⟩, ⟨sA, 9, default, some ⟨g, 0, none⟩, 3, [nv 2, nv 1, nv 2]⟩, ⟨sB, 1, default, none, 0, []⟩]
def exR (g : Nat) : List Cn := [⟨sA, 9, default, some ⟨g, 0, none⟩, 2, [nv 1, nv 2]⟩, ⟨sB, 1, default, none, 0, []⟩]
theorem exP_1 : matchesD exP [⟨sA, nv 5⟩] = true := by kernel_rfl
theorem exP_2 : matchesD exP [⟨sA, nv 9⟩] = false := by kernel_rfl
theorem exP_3 : matchesD exP [⟨sA, tv ⟨#[53]⟩⟩] = false := by kernel_rfl
theorem exP_4 : matchesD exP [] = false := by kernel_rfl
theorem exQ_may (g : Nat) : mayPr (exQ g) = true := by
  have e : ∀ z, mayB 1 z ⟨#[]⟩ false = true := fun z => by simp [mayB, empty_toList]
  have e2 : eqlVal 0 0 ⟨#[]⟩ false 0 0 ⟨#[]⟩ false = true := by simp [eqlVal]
  simp [mayPr, exQ, mayCn, mayOp, maySt, bareB, mayVl, e, show (default : Vl) = ⟨0, 0, ⟨#[]⟩, false⟩ from rfl, e2]
  decide
theorem exQ_norm (g g' : Nat) : sortL cmpC ((exQ g).map normC) = (exR g').map bare := by kernel_rfl
theorem vs_nil (w : World) : Vs w (.slice none 0 0) [] := ⟨⟨none, 0, 0, 0, rfl, Nat.le_refl _, fun h => absurd rfl h, fun _ _ => rfl, fun i hi => by simp at hi⟩, by simp⟩
theorem es_nil (w : World) : Es w (.slice none 0 0) [] := ⟨⟨none, 0, 0, 0, rfl, Nat.le_refl _, fun h => absurd rfl h, fun _ _ => rfl, fun i hi => by simp at hi⟩, by simp⟩
theorem es_new (a : At) (w : World) : Es (w.alloc (.cells #[.string a.nm, .int .i64 a.v.k, .int .i64 a.v.n, .string a.v.s, .bool a.v.b] 56)) (.slice (some ⟨w.heap.size, 0, none⟩) 1 1) [a] := ⟨row_blk (enc := encA) (l := [a]) (fun _ => rfl) (Blk.new w _ _), by simp⟩
theorem exP_new (w : World) : Cs (w.alloc (.cells (exP.flatMap encC).toArray 37)) (.slice (some ⟨w.heap.size, 0, none⟩) 2 2) exP :=
  ⟨row_blk (enc := encC) (l := exP) encC_length (Blk.new w _ _), by decide, fun c hc => by
    simp only [exP, List.mem_cons, List.not_mem_nil, or_false] at hc
    rcases hc with rfl | rfl <;> exact vs_nil _⟩
theorem exQ_new (g G : Nat) (w : World) (hG : w.heap.size = G) (h : Vs w (.slice (some ⟨g, 0, none⟩) 3 3) [nv 2, nv 1, nv 2]) : Cs (w.alloc (.cells ((exQ g).flatMap encC).toArray 37)) (.slice (some ⟨G, 0, none⟩) 3 3) (exQ g) :=
  ⟨row_blk (enc := encC) (l := exQ g) encC_length (hG ▸ Blk.new w _ _), by simp [exQ], fun c hc => by
    simp only [exQ, List.mem_cons, List.not_mem_nil, or_false] at hc
    rcases hc with rfl | rfl | rfl
    · exact vs_nil _
    · exact h.later (below_one _ _)
    · exact vs_nil _⟩
theorem exR_new (g G : Nat) (w : World) (hG : w.heap.size = G) (h : Vs w (.slice (some ⟨g, 0, none⟩) 2 2) [nv 1, nv 2]) : Cs (w.alloc (.cells ((exR g).flatMap encC).toArray 37)) (.slice (some ⟨G, 0, none⟩) 2 2) (exR g) :=
  ⟨row_blk (enc := encC) (l := exR g) encC_length (hG ▸ Blk.new w _ _), by simp [exR], fun c hc => by
    simp only [exR, List.mem_cons, List.not_mem_nil, or_false] at hc
    rcases hc with rfl | rfl
    · exact h.later (below_one _ _)
    · exact vs_nil _⟩
theorem vals_new (l : List Vl) (hl : l.length ≤ 1000) (w : World) : Vs (w.alloc (.cells (l.flatMap encV).toArray 34)) (.slice (some ⟨w.heap.size, 0, none⟩) l.length l.length) l := ⟨row_blk (enc := encV) (l := l) encV_length (Blk.new w _ _), by omega⟩
theorem m_is {l : List Cn} {attrs : List At} {b : Bool} (h : matchesD l attrs = b) : matchesB l attrs = b := (matches_data l attrs).trans h

end Go.Proofs.Ytpdlgkneeilclaa.Gm
