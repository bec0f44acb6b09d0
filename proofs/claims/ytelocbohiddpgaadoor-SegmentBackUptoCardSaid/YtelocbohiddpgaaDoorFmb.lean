/- A range over a function whose iterator tells, of each thing that it hands over, what holds of it in the world in which it is handed over: the caller's law, over the library's law of the statement; no round ends the loop. -/
import Derived.Test.YtelocbohiddpgaaDoorGm
import Derived.RangeFuncNested
import Derived.RangeFuncBound
import Derived.RangeFuncCalls
import Derived.RangeFuncLeaves
set_option linter.unusedSimpArgs false
set_option linter.unusedVariables false
namespace Go.Proofs.YtelocbohiddpgaaDoor.Gm
open Go Go.RowKit

section
variable {F : Fence} {n : Nat} {P : Program} {α : Type}
/-- What such an iterator promises. -/
def SeqTells (F : Fence) (n : Nat) (P : Program) (g : Nat) (lb : Array Value) (encs : α → Array Value) (T : List α → α → World → Prop) (Kp : World → World → Prop) (S : List α → Prop) (w : World) : Prop :=
  ∀ (l : Nat) (J : List α → World → Prop) (W : World), Below w.heap.size w W → AbidesFrom W.heap.size J →
    (∀ pre x W1, J pre W1 → T pre x W1 → YieldAt F (n - 1) P l (encs x) W1 fun e W2 => e = .returned (.bool true) ∧ J (pre ++ [x]) W2 ∧ Kp W1 W2) → J [] W →
    CallsIn F n P g (#[.func (.yield l) #[] #[]] ++ lb) W fun e W2 => (∃ v, e = .returned v) ∧ ∃ xs, S xs ∧ J xs W2
theorem wpIn_range_told {g : Operand} {ps : Array Tmp} {assign body : Code} {Q : Exit → Act → World → Prop} {a : Act} {w : World} (hro : F.round = none) (h1 : 1 ≤ n) {gf : Nat} {lb : Array Value}
    (hg : a.eval g = .func (.func gf) #[] lb) (hFg : F.fn gf) (eg : ∀ args w, (callFunc gf args).run P w = .ok (.enter gf args) w) {encs : α → Array Value} {T : List α → α → World → Prop} {Kp : World → World → Prop} {S : List α → Prop} {w0 : World}
    (hseq : SeqTells F (n - 1) P gf lb encs T Kp S w0) (hKt : ∀ {A B C : World}, Kp A B → Kp B C → Kp A C)
    (hKb : ∀ (W : World) (l : Nat) (o o' : Obj), w.heap.size ≤ l → W.heap[l]? = some o → o.isCells = false → o.isWalk = false → Kp W (W.putObj l o')) (hb0 : Below w0.heap.size w0 w) (hps : ∀ x, (encs x).size = ps.size)
    (I : List α → World → Prop) (hI : OwnFrom w.heap.size I) (hT : ∀ pre x W l o o', T pre x W → w.heap.size ≤ l → W.heap[l]? = some o → o.isCells = false → T pre x (W.putObj l o')) (h0 : I [] w) (a₁ : α → Act)
    (hassign : ∀ (l : Nat) (x : α) (W : World) (K : Act → World → Prop), K (a₁ x) W → assign.wpIn (F.inRound l) (n - 1 - 1) P (Exit.then K (fun _ _ _ => False)) { tmps := (ps.zip (encs x)).foldl (fun t (p, v) => t.setIfInBounds p v) a.tmps, defers := [] } W)
    (hbody : ∀ (l : Nat) (pre : List α) (x : α) (W : World), I pre W → T pre x W → body.wpIn (F.inRound l) (n - 1 - 1) P (fun e _ W2 => e = .normal ∧ KeepsOthers W W2 ∧ Kp W W2 ∧ I (pre ++ [x]) W2) (a₁ x) W)
    (hdone : ∀ (D : Nat) (xs : List α) (W : World), w.heap.size ≤ D → S xs → I xs W → W.heap[D]? = some (.deferred (some [])) → Q .normal { a with defers := { target := .collected D, args := #[] } :: a.defers } W) :
    (Code.rangeFunc g ps assign body).wpIn F n P Q a w := by
  refine wpIn_rangeFunc fun fn hfn => ?_
  rw [hro]
  obtain ⟨R, hR⟩ : ∃ R : LoopState → Loop, R = fun st => { state := st, pending := none, fn, tmps := a.tmps, params := ps, assign, body, defers := w.heap.size } := ⟨_, rfl⟩
  obtain ⟨L, hL⟩ : ∃ L, w.heap.size + 1 = L := ⟨_, rfl⟩
  obtain ⟨V, hV⟩ : ∃ V, (w.alloc (.deferred (some []))).alloc (.loop (R .ready)) = V := ⟨_, rfl⟩
  have vb : Below w.heap.size w V := by rw [← hV]; exact then_ (below_one w _) (below_one _ _)
  have vz : V.heap.size = w.heap.size + 2 := by rw [← hV]; simp
  have vl : V.heap[L]? = some (.loop (R .ready)) := by
    have h := World.alloc_heap_new (w.alloc (.deferred (some []))) (.loop (R .ready))
    rw [World.size_alloc, hL] at h
    rw [← hV]; exact h
  have vd : V.heap[w.heap.size]? = some (.deferred (some [])) := by
    rw [← hV]; exact (Below.heap_alloc _ _ _ (by simp)).trans (World.alloc_heap_new w _)
  have vi : I [] V := by rw [← hV]; exact hI.alloc _ (hI.alloc _ h0)
  refine ⟨L, [{ target := .collected w.heap.size, args := #[] }], V, { target := .fn (.func gf) lb, args := #[.func (.yield L) #[] #[]] }, V, gf, #[.func (.yield L) #[] #[]] ++ lb, V, ?_, ?_, ?_, ?_, fun _ => h1, ?_⟩
  · rw [← hV, ← hL, hR]; exact run_enterLoop_outer _ _ _ _ _
  · simp only [resolve, hg]; simp [go_sem]
  · intro f hf; simp [Target.leads] at hf; subst hf; exact hFg
  · simp [invoke, go_sem, eg]
  -- what holds between two rounds: the caller's word, the loop's record, the block for deferred calls
  let J : List α → World → Prop := fun pre W => I pre W ∧ W.heap[L]? = some (.loop (R .ready)) ∧ W.heap[w.heap.size]? = some (.deferred (some []))
  have hJ : AbidesFrom V.heap.size J := fun s A B row hs hgr hr => by
    have h2 : ∀ r, row = some r → w.heap.size ≤ r ∧ ∃ o : Obj, A.heap[r]? = some o ∧ o.isCells = false := fun r e => by
      obtain ⟨hb, o, ho, hw⟩ := hr r e
      exact ⟨by omega, o, ho, Obj.not_cells_of_walk hw⟩
    exact ⟨hI s A B row hs.1 hgr h2, (grownBy_keeps hgr (fun r e => (hr r e).2) hs.2.1 rfl).trans hs.2.1, (grownBy_keeps hgr (fun r e => (hr r e).2) hs.2.2 rfl).trans hs.2.2⟩
  refine (hseq L J V (hb0.trans (vb.mono hb0.size)) hJ (fun pre x W hj ht => ?_) ⟨vi, vl, vd⟩).mono ?_
  · obtain ⟨hi, hl, hk⟩ := hj
    have hlt : L < W.heap.size := (Array.getElem?_eq_some_iff.1 hl).1
    have hy := run_yield (P := P) (args := encs x) hl (by rw [hR]; exact hps x)
    have hbg := run_beginRound (P := P) hl (by rw [hR])
    obtain ⟨X, hX⟩ : ∃ X, W.putObj L (.loop (R .busy)) = X := ⟨_, rfl⟩
    have xl : X.heap[L]? = some (.loop (R .busy)) := by rw [← hX]; exact World.putObj_heap_same hlt
    have xd : X.heap[w.heap.size]? = some (.deferred (some [])) := by rw [← hX]; exact (World.putObj_heap_other (by omega)).trans hk
    have xi : I pre X := by rw [← hX]; exact hI.putObj _ hi (by omega) hl rfl
    have xt : T pre x X := by rw [← hX]; exact hT _ _ _ _ _ _ ht (by omega) hl rfl
    have xk : Kp W X := by rw [← hX]; exact hKb _ _ _ _ (by omega) hl rfl rfl
    have hbg2 : (Instr.beginRound L).run P W = .ok () X := by rw [hbg, ← hX, hR]
    rw [hR] at hy
    refine ⟨fn, _, assign, body, hy, roundIn_of_wpIn hfn (hassign _ x W _ ⟨_, hbg2, wpIn_mono (hbody _ pre x X xi xt) ?_⟩)⟩
    rintro e a3 Y ⟨rfl, ko, kp, yi⟩
    have yl := ko.same _ _ xl rfl
    have he := run_endRound (P := P) none yl
    refine ⟨_, _, he, ⟨rfl, ⟨hI.putObj _ yi (by omega) yl rfl, ?_, (World.putObj_heap_other (by omega)).trans (ko.same _ _ xd rfl)⟩, hKt (hKt xk kp) (hKb _ _ _ _ (by omega) yl rfl rfl)⟩⟩
    rw [World.putObj_heap_same (Array.getElem?_eq_some_iff.1 yl).1, hR]
    rfl
  · rintro e Y ⟨⟨v, rfl⟩, xs, hS, hi, hl, hk⟩
    have h := run_endLoop (P := P) hl (by rw [hR]; simp)
    have hp : (R .ready).pending = none := by rw [hR]
    rw [hp] at h
    exact ⟨none, _, h, hdone _ xs _ (Nat.le_refl _) hS (hI.putObj _ hi (by omega) hl rfl) ((World.putObj_heap_other (by omega)).trans hk)⟩
end
end Go.Proofs.YtelocbohiddpgaaDoor.Gm
