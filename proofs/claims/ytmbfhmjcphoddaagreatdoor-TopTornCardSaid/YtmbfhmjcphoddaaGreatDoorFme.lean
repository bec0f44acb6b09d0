/- Layer 11: the frames of bytes as an iterator: what it promises. -/
import Derived.Test.YtmbfhmjcphoddaaGreatDoorGm
import Derived.RangeFuncNested
import Derived.RangeFuncBound
import Derived.RangeFuncCalls
import Derived.RangeFuncLeaves
import Derived.Test.YtmbfhmjcphoddaaGreatDoorFmd
import Derived.Shelf.Abstract
import Derived.Shelf.RegionOpen
import Derived.OwnWalkIn
import Derived.TacticsInMore
import Derived.LoopNIn
import Derived.LoopIn
/- A range over a function whose iterator tells, of each thing that it hands over, what holds of it in the world in which it is handed over: the caller's law, over the library's law of the statement; no round ends the loop. -/
set_option linter.unusedSimpArgs false
set_option linter.unusedVariables false
namespace Go.Proofs.YtmbfhmjcphoddaaGreatDoor.Gm
open Go Go.RowKit

section
variable {F : Fence} {n : Nat} {P : Program} {α : Type}
/-- What such an iterator promises. -/
def SeqTells (F : Fence) (n : Nat) (P : Program) (g : Nat) (lb : Array Value) (encs : α → Array Value) (T : List α → α → World → Prop) (Kp : World → World → Prop) (S : List α → Prop) (w : World) : Prop :=
  ∀ (l : Nat) (J : List α → World → Prop) (W : World), Below w.heap.size w W → AbidesFrom W.heap.size J →
    (∀ pre x W1, J pre W1 → T pre x W1 → YieldAt F (n - 1) P l (encs x) W1 fun e W2 => e = .returned (.bool true) ∧ J (pre ++ [x]) W2 ∧ Kp W1 W2) → J [] W →
    CallsIn F n P g (#[.func (.yield l) #[] #[]] ++ lb) W fun e W2 => (∃ v, e = .returned v) ∧ ∃ xs, S xs ∧ J xs W2
theorem wpIn_range_told {g : Operand} {ps : Array Tmp} {assign body : Code} {Q : Exit → Act → World → Prop} {a : Act} {w : World} (hro : F.round = none) (h1 : 1 ≤ n) {gf : Nat} {lb : Array Value}
    (hg : a.eval g = .func (.func gf) #[] lb) (hFg : F.fn gf) (eg : ∀ args w, (callFunc gf args).run P w = .ok (.enter gf args) w) {encs : α → Array Value} {T : List α → α → World → Prop} {Kp : World → World → Prop} {S : List α → Prop} {w0 : World}
    (hseq : SeqTells F (n - 1) P gf lb encs T Kp S w0) (hKt : ∀ {A B C : World}, Kp A B → Kp B C → Kp A C)
    (hKb : ∀ (W : World) (l : Nat) (o o' : Obj), w.heap.size ≤ l → W.heap[l]? = some o → o.isCells = false → o.isWalk = false → Kp W (W.putObj l o')) (hb0 : Below w0.heap.size w0 w) (hps : ∀ x, (encs x).size = ps.size)
    (I : List α → World → Prop) (hI : OwnFrom w.heap.size I) (hT : ∀ pre x W l o o', T pre x W → w.heap.size ≤ l → W.heap[l]? = some o → o.isCells = false → T pre x (W.putObj l o')) (h0 : I [] w) (a₁ : α → Act)
    (hassign : ∀ (l : Nat) (x : α) (W : World) (K : Act → World → Prop), K (a₁ x) W → assign.wpIn (F.inRound l) (n - 1 - 1) P (Exit.then K (fun _ _ _ => False)) { tmps := (ps.zip (encs x)).foldl (fun t (p, v) => t.setIfInBounds p v) a.tmps, defers := [] } W)
    (hbody : ∀ (l : Nat) (pre : List α) (x : α) (W : World), I pre W → T pre x W → body.wpIn (F.inRound l) (n - 1 - 1) P (fun e _ W2 => e = .normal ∧ KeepsOthers W W2 ∧ Kp W W2 ∧ I (pre ++ [x]) W2) (a₁ x) W)
    (hdone : ∀ (D : Nat) (xs : List α) (W : World), w.heap.size ≤ D → S xs → I xs W → W.heap[D]? = some (.deferred (some [])) → Q .normal { a with defers := { target := .collected D, args := #[] } :: a.defers } W) :
    (Code.rangeFunc g ps assign body).wpIn F n P Q a w := by
  refine wpIn_rangeFunc fun fn hfn => ?_
  rw [hro]
  obtain ⟨R, hR⟩ : ∃ R : LoopState → Loop, R = fun st => { state := st, pending := none, fn, tmps := a.tmps, params := ps, assign, body, defers := w.heap.size } := ⟨_, rfl⟩
  obtain ⟨L, hL⟩ : ∃ L, w.heap.size + 1 = L := ⟨_, rfl⟩
  obtain ⟨V, hV⟩ : ∃ V, (w.alloc (.deferred (some []))).alloc (.loop (R .ready)) = V := ⟨_, rfl⟩
  have vb : Below w.heap.size w V := by rw [← hV]; exact then_ (below_one w _) (below_one _ _)
  have vz : V.heap.size = w.heap.size + 2 := by rw [← hV]; simp
  have vl : V.heap[L]? = some (.loop (R .ready)) := by
    have h := World.alloc_heap_new (w.alloc (.deferred (some []))) (.loop (R .ready))
    rw [World.size_alloc, hL] at h
    rw [← hV]; exact h
  have vd : V.heap[w.heap.size]? = some (.deferred (some [])) := by
    rw [← hV]; exact (Below.heap_alloc _ _ _ (by simp)).trans (World.alloc_heap_new w _)
  have vi : I [] V := by rw [← hV]; exact hI.alloc _ (hI.alloc _ h0)
  refine ⟨L, [{ target := .collected w.heap.size, args := #[] }], V, { target := .fn (.func gf) lb, args := #[.func (.yield L) #[] #[]] }, V, gf, #[.func (.yield L) #[] #[]] ++ lb, V, ?_, ?_, ?_, ?_, fun _ => h1, ?_⟩
  · rw [← hV, ← hL, hR]; exact run_enterLoop_outer _ _ _ _ _
  · simp only [resolve, hg]; simp [go_sem]
  · intro f hf; simp [Target.leads] at hf; subst hf; exact hFg
  · simp [invoke, go_sem, eg]
  -- what holds between two rounds: the caller's word, the loop's record, the block for deferred calls
  let J : List α → World → Prop := fun pre W => I pre W ∧ W.heap[L]? = some (.loop (R .ready)) ∧ W.heap[w.heap.size]? = some (.deferred (some []))
  have hJ : AbidesFrom V.heap.size J := fun s A B row hs hgr hr => by
    have h2 : ∀ r, row = some r → w.heap.size ≤ r ∧ ∃ o : Obj, A.heap[r]? = some o ∧ o.isCells = false := fun r e => by
      obtain ⟨hb, o, ho, hw⟩ := hr r e
      exact ⟨by omega, o, ho, Obj.not_cells_of_walk hw⟩
    exact ⟨hI s A B row hs.1 hgr h2, (grownBy_keeps hgr (fun r e => (hr r e).2) hs.2.1 rfl).trans hs.2.1, (grownBy_keeps hgr (fun r e => (hr r e).2) hs.2.2 rfl).trans hs.2.2⟩
  refine (hseq L J V (hb0.trans (vb.mono hb0.size)) hJ (fun pre x W hj ht => ?_) ⟨vi, vl, vd⟩).mono ?_
  · obtain ⟨hi, hl, hk⟩ := hj
    have hlt : L < W.heap.size := (Array.getElem?_eq_some_iff.1 hl).1
    have hy := run_yield (P := P) (args := encs x) hl (by rw [hR]; exact hps x)
    have hbg := run_beginRound (P := P) hl (by rw [hR])
    obtain ⟨X, hX⟩ : ∃ X, W.putObj L (.loop (R .busy)) = X := ⟨_, rfl⟩
    have xl : X.heap[L]? = some (.loop (R .busy)) := by rw [← hX]; exact World.putObj_heap_same hlt
    have xd : X.heap[w.heap.size]? = some (.deferred (some [])) := by rw [← hX]; exact (World.putObj_heap_other (by omega)).trans hk
    have xi : I pre X := by rw [← hX]; exact hI.putObj _ hi (by omega) hl rfl
    have xt : T pre x X := by rw [← hX]; exact hT _ _ _ _ _ _ ht (by omega) hl rfl
    have xk : Kp W X := by rw [← hX]; exact hKb _ _ _ _ (by omega) hl rfl rfl
    have hbg2 : (Instr.beginRound L).run P W = .ok () X := by rw [hbg, ← hX, hR]
    rw [hR] at hy
    refine ⟨fn, _, assign, body, hy, roundIn_of_wpIn hfn (hassign _ x W _ ⟨_, hbg2, wpIn_mono (hbody _ pre x X xi xt) ?_⟩)⟩
    rintro e a3 Y ⟨rfl, ko, kp, yi⟩
    have yl := ko.same _ _ xl rfl
    have he := run_endRound (P := P) none yl
    refine ⟨_, _, he, ⟨rfl, ⟨hI.putObj _ yi (by omega) yl rfl, ?_, (World.putObj_heap_other (by omega)).trans (ko.same _ _ xd rfl)⟩, hKt (hKt xk kp) (hKb _ _ _ _ (by omega) yl rfl rfl)⟩⟩
    rw [World.putObj_heap_same (Array.getElem?_eq_some_iff.1 yl).1, hR]
    rfl
  · rintro e Y ⟨⟨v, rfl⟩, xs, hS, hi, hl, hk⟩
    have h := run_endLoop (P := P) hl (by rw [hR]; simp)
    have hp : (R .ready).pending = none := by rw [hR]
    rw [hp] at h
    exact ⟨none, _, h, hdone _ xs _ (Nat.le_refl _) hS (hI.putObj _ hi (by omega) hl rfl) ((World.putObj_heap_other (by omega)).trans hk)⟩
end
end Go.Proofs.YtmbfhmjcphoddaaGreatDoor.Gm
set_option linter.unusedSimpArgs false
set_option linter.unusedVariables false
namespace Go.Proofs.YtmbfhmjcphoddaaGreatDoor.Crc
open Go Go.RowKit Gm Go.Shelf
attribute [local go_sem] Oper.semAt_some

/-- The closure that frames hands back; its box. -/
theorem frames_any (v : Value) (L : List UInt8) (w : World) (hB : Bs w v L) : Calls Tryz.prog 53 #[v] w (fun e w' => e = .returned (.func (.func 66) #[] #[.pointer (some ⟨w.heap.size, 0, none⟩)]) ∧ w' = w.alloc (.cells #[v] 25)) := by
  obtain ⟨p, cap, rfl⟩ := hB.form
  generalize L.length = n
  clear hB
  go_enter Tryz.func53, Tryz.ntmps53
  go_wp2_with fail
  go_ret
  exact ⟨rfl, rfl⟩
theorem asker_any (v : Value) (L : List UInt8) (w : World) (hB : Bs w v L) : Calls Tryz.prog 67 #[v] w (fun e w' => e = .returned (.func (.func 88) #[] #[.pointer (some ⟨w.heap.size, 0, none⟩)]) ∧ w' = w.alloc (.cells #[v] 25)) := by
  obtain ⟨p, cap, rfl⟩ := hB.form
  generalize L.length = n
  clear hB
  go_enter Tryz.func67, Tryz.ntmps67
  go_wp2_with fail
  go_ret
  exact ⟨rfl, rfl⟩
/-- What is handed over: a record's slice, its bytes, where its frame ends. -/
structure Fx where
  v : Value
  r : List UInt8
  e : Nat
def fxV (x : Fx) : Array Value := #[x.v, .int .i64 (x.e : Nat)]
/-- The row that a box holds, and that it lies behind B. -/
def rowAt (E : Nat) (W : World) : Option Nat := match W.cell? ⟨E, 0, none⟩ with | some v => v.ownBlock | none => none
def farAt (E B : Nat) (W : World) : Prop := ∀ g, rowAt E W = some g → B ≤ g
/-- What a round of Split leaves alone. -/
def KeepF (n0 E1 E2 : Nat) (X Y : World) : Prop := Below n0 X Y ∧ ∀ B, B ≤ X.heap.size → farAt E1 B X → farAt E1 B Y ∧ ∀ (k : Nat) (o : Obj), k < B → k ≠ E1 → k ≠ E2 → X.heap[k]? = some o → o.isCells = true → Y.heap[k]? = some o
theorem KeepF.trans {n0 E1 E2 : Nat} {X Y Z : World} (h : KeepF n0 E1 E2 X Y) (k : KeepF n0 E1 E2 Y Z) : KeepF n0 E1 E2 X Z :=
  ⟨h.1.trans k.1, fun B hB hf => by
    obtain ⟨a, b⟩ := h.2 B hB hf
    obtain ⟨c, d⟩ := k.2 B (Nat.le_trans hB h.1.size) a
    exact ⟨c, fun i o h1 h2 h3 h4 h5 => d i o h1 h2 h3 (b i o h1 h2 h3 h4 h5) h5⟩⟩
theorem KeepF.turn {n0 E1 E2 : Nat} {w : World} (hn : n0 ≤ w.heap.size) (hE : E1 < w.heap.size) (W : World) (l : Nat) (o o' : Obj) (hl : w.heap.size ≤ l) (h : W.heap[l]? = some o) (hc : o.isCells = false) (hw : o.isWalk = false) : KeepF n0 E1 E2 W (W.putObj l o') := by
  refine ⟨belowK_b hn W l o o' hl h hc hw, fun B _ hf => ⟨?_, fun k u _ _ _ a b => (World.putObj_heap_other (by rintro rfl; rw [h] at a; cases a; rw [hc] at b; cases b)).trans a⟩⟩
  have e : (W.putObj l o').cell? ⟨E1, 0, none⟩ = W.cell? ⟨E1, 0, none⟩ := World.cell?_of_block (World.putObj_heap_other (by show E1 ≠ l; omega))
  unfold farAt rowAt
  rw [e]
  exact hf
/-- What the iterator tells of what it hands over. -/
def TellF (base : Nat) (l : List (List UInt8)) (pre : List Fx) (x : Fx) (W : World) : Prop := pre.length < l.length ∧ pre.map Fx.r = l.take pre.length ∧ x.r = l.getD pre.length [] ∧ x.e = wholeL (l.take (pre.length + 1)) ∧ Rec W base x.v x.r
theorem farAt.below {E B : Nat} {W W' : World} (h : farAt E B W) (hE : E < W.heap.size) (hb : Below W.heap.size W W') : farAt E B W' := by
  unfold farAt rowAt at *
  rw [hb.cell (p := ⟨E, 0, none⟩) hE]
  exact h
set_option maxHeartbeats 4000000 in
set_option maxRecDepth 100000 in
theorem frames1_in (n b n0 E1 E2 : Nat) (v : Value) (L : List UInt8) (w0 W : World) (h0n : w0.heap.size = n0) (hw0 : Below n0 w0 W) (hE0 : Env w0) (hB0 : Bs w0 v L) (hl : L.length ≤ maxTk) (hb : Blk W b 25 #[v]) (hE1 : E1 < W.heap.size) (hE2 : E2 < W.heap.size) (hfar : ∀ B, farAt E1 B W) (l base : Nat) (hbase : base ≤ W.heap.size)
    (J : List Fx → World → Prop) (hJ : AbidesFrom W.heap.size J)
    (hY : ∀ pre x W1, J pre W1 → TellF base (splitR L) pre x W1 → YieldAt Fence.wide (n - 1) Tryz.prog l (fxV x) W1 fun e W2 => e = .returned (.bool true) ∧ J (pre ++ [x]) W2 ∧ KeepF n0 E1 E2 W1 W2)
    (h0 : J [] W) : CallsIn Fence.wide n Tryz.prog 66 #[.func (.yield l) #[] #[], .pointer (some ⟨b, 0, none⟩)] W fun e W2 => (∃ v, e = .returned v) ∧ ∃ xs, xs.map Fx.r = splitR L ∧ J xs W2 := by
  have hBW := hB0.below (by rw [h0n]; exact hw0)
  have HA := Lib.hid (asker_any v L W hBW)
  have HBs := Lib.hid (fun X (h : Below n0 w0 X) => hB0.below (by rw [h0n]; exact h))
  have HEn := Lib.hid (fun X (h : Below n0 w0 X) => hE0.below (by rw [h0n]; exact h))
  obtain ⟨p, cap, rfl⟩ := hB0.form
  have kb := hb.cell 0 (u := .slice p L.length cap) rfl
  have HJ1 := Lib.hid (hJ [] W (W.alloc (.cells #[.slice p L.length cap] 25)) none h0 (grown_below (below_one W _) none) (fun r h => by cases h))
  have HBx := Lib.hid (Blk.new W 25 #[.slice p L.length cap])
  have HB1 := Lib.hid (hw0.trans ((below_one W (.cells #[.slice p L.length cap] 25)).mono (by rw [← h0n]; exact hw0.size)))
  have HF1 := Lib.hid ((hfar (W.heap.size + 1)).below hE1 (below_one W (.cells #[.slice p L.length cap] 25)))
  have HZ1 : Hid (W.heap.size + 1 ≤ (W.alloc (.cells #[.slice p L.length cap] 25)).heap.size) := Lib.hid (by simp)
  have HSP := Lib.hid (split_at L)
  have HMA := Lib.hid (split_may L)
  have HN0 : Hid (n0 ≤ W.heap.size) := Lib.hid (by rw [← h0n]; exact hw0.size)
  generalize splitR L = S at *
  have HY := Lib.hid hY
  have HJ := Lib.hid hJ
  clear hB0 hBW hb h0 hw0 hE0 hfar hY hJ h0n
  refine callsIn_of_wp Tryz.func66 rfl trivial ?_ rfl
  simp only [Tryz.ntmps66, List.size_toArray, List.length_cons, List.length_nil, Nat.reduceAdd, Nat.reduceSub, Array.replicate_succ, Array.replicate_zero, List.push_toArray, List.append_toArray, List.nil_append, List.cons_append]
  gi_wp2_with fail
  refine ⟨trivial, (fun h => by cases h), ?_⟩
  refine (callsIn_wide.2 HA.out).mono ?_; rintro e w1 ⟨rfl, rfl⟩
  obtain ⟨a, ha⟩ : ∃ a, W.heap.size = a := ⟨_, rfl⟩
  obtain ⟨W1, hW1⟩ : ∃ W1, W.alloc (.cells #[.slice p L.length cap] 25) = W1 := ⟨_, rfl⟩
  rw [ha] at HBx HF1 HZ1 HN0 hE1 hE2 hbase ⊢
  rw [hW1] at HJ1 HBx HB1 HF1 HZ1 ⊢
  have hea : a ≠ E1 := by omega
  have heb : a ≠ E2 := by omega
  obtain ⟨P0, hP0⟩ : ∃ P0, wholeL (S.take 0) = P0 := ⟨_, rfl⟩
  have HP0 := Lib.hid hP0
  have h00 : P0 = 0 := by rw [← hP0]; rfl
  clear HA kb hP0 hW1 ha
  gi_wp2_with fail
  gi_loopw [4] (fun pl wr => ∃ (j : Nat) (pre : List Fx), j ≤ S.length ∧ pl = .int .i64 (wholeL (S.take j) : Nat) ∧ Hid (pre.length = j ∧ pre.map Fx.r = S.take j) ∧ Hid (J pre wr) ∧ Hid (Blk wr a 25 #[.slice p L.length cap]) ∧ Hid (farAt E1 (a + 1) wr) ∧ Hid (a + 1 ≤ wr.heap.size) ∧ Hid (Below n0 w0 wr)) (fun pl _ => L.length + 1 - (intOf pl).toNat)
  case atStart => exact ⟨0, [], Nat.zero_le _, by rw [HP0.out, h00]; rfl, Lib.hid ⟨rfl, rfl⟩, HJ1, HBx, HF1, HZ1, HB1⟩
  case round =>
    obtain ⟨j, pre, hj, rfl, HPre, HJr, HBr, HFr, HZr, HBel⟩ := hrel
    obtain ⟨hpl, hone⟩ := HSP.out j hj
    have hask := ask_any a (.slice p L.length cap) L (wholeL (S.take j)) hpl hl wr HBr.out (HBs.out wr HBel.out) (HEn.out wr HBel.out)
    unfold AskR at hask
    rw [hone] at hask
    obtain ⟨pl, hpp⟩ : ∃ pl, wholeL (S.take j) = pl := ⟨_, rfl⟩
    have HPP := Lib.hid hpp
    rw [hpp] at hask hpl ⊢
    have HASK := Lib.hid hask
    clear HJ1 HBx HF1 HZ1 HB1 hask hone hpp HP0 h00
    gi_wp2_with fail
    refine ⟨trivial, (fun h => by cases h), ?_⟩
    refine (callsIn_wide.2 HASK.out).mono ?_; rintro e w1 ⟨b1, (⟨hn, rfl⟩ | ⟨r, v1, hs, rfl, hrec⟩)⟩
    · have hjS : S.take j = S := List.take_of_length_le (List.getElem?_eq_none_iff.1 hn)
      have HJ2 := Lib.hid (HJ.out pre wr w1 none HJr.out (grown_below b1 none) (fun r h => by cases h))
      have HE : Hid (pre.map Fx.r = S) := Lib.hid (by rw [HPre.out.2, hjS])
      clear hn hjS b1 HASK
      gi_wp2_with fail
      refine bodyPost_ret (results_none rfl _ _ _) rfl ?_
      exact ⟨⟨_, rfl⟩, pre, HE.out, HJ2.out⟩
    · have hlt : j < S.length := (List.getElem?_eq_some_iff.1 hs).1
      have hmr : mayR r = true := HMA.out r (List.mem_of_getElem? hs)
      have hml := (mayR_iff r).1 hmr
      have hnx := whole_next hs
      rw [HPP.out] at hnx
      have hpl2 := (HSP.out (j + 1) hlt).1
      rw [hnx] at hpl2
      obtain ⟨g, cp, rfl⟩ := hrec.form
      have HSz := Lib.hid (size_any _ r (by unfold maxTk; omega) w1 hrec.bs)
      have hsz : sizeR r = r.length + 8 := by unfold sizeR; rw [hmr]; rfl
      rw [hsz] at HSz
      have HJ2 := Lib.hid (HJ.out pre wr w1 none HJr.out (grown_below b1 none) (fun r h => by cases h))
      have HB2 := Lib.hid (HBr.out.later b1)
      have HF2 := Lib.hid (HFr.out.below (by have := HZr.out; omega) b1)
      have HZ2 : Hid (a + 1 ≤ w1.heap.size) := Lib.hid (Nat.le_trans HZr.out b1.size)
      have HBel2 := Lib.hid (HBel.out.trans (b1.mono (by have := HZr.out; have := HN0.out; omega)))
      have hT : TellF base S pre ⟨.slice (some ⟨g, 4, none⟩) r.length (cp - 4), r, pl + (r.length + 8)⟩ w1 := by
        refine ⟨by rw [HPre.out.1]; exact hlt, by rw [HPre.out.1]; exact HPre.out.2, ?_, ?_, hrec.base (by have := HZr.out; omega)⟩
        · rw [HPre.out.1, List.getD_eq_getElem?_getD, hs]; rfl
        · rw [HPre.out.1]; exact hnx.symm
      obtain ⟨fn, tmps, assign, body, hy, hR⟩ := HY.out pre _ w1 HJ2.out hT
      have HPre2 : Hid ((pre ++ [(⟨.slice (some ⟨g, 4, none⟩) r.length (cp - 4), r, pl + (r.length + 8)⟩ : Fx)]).length = j + 1 ∧ (pre ++ [(⟨.slice (some ⟨g, 4, none⟩) r.length (cp - 4), r, pl + (r.length + 8)⟩ : Fx)]).map Fx.r = S.take (j + 1)) := Lib.hid ⟨by rw [List.length_append, HPre.out.1]; rfl, by rw [List.map_append, HPre.out.2, List.take_add_one, hs]; rfl⟩
      obtain ⟨x, hx⟩ : ∃ x : Fx, (⟨.slice (some ⟨g, 4, none⟩) r.length (cp - 4), r, pl + (r.length + 8)⟩ : Fx) = x := ⟨_, rfl⟩
      have hfx : fxV x = #[.slice (some ⟨g, 4, none⟩) r.length (cp - 4), .int .i64 ((pl + (r.length + 8) : Nat) : Int)] := by rw [← hx]; rfl
      rw [hx] at hR hy HPre2
      rw [hfx] at hy
      have HNX : Hid (wholeL (S.take (j + 1)) = pl + (r.length + 8)) := Lib.hid hnx
      obtain ⟨m, hm⟩ : ∃ m, r.length + 8 = m := ⟨_, rfl⟩
      rw [hm] at hy HSz HNX hpl2
      have HM := Lib.hid hm
      have hR8 : r.length ≤ 2048 := hml.2
      have hm2 : m ≤ 2056 ∧ 9 ≤ m := by omega
      have hpl3 : pl ≤ 140737488355328 := by have : L.length ≤ 140737488355328 := hl; omega
      have hm3 : m ≤ 2056 := hm2.1
      have hm4 : 9 ≤ m := hm2.2
      clear hm2
      have e1 : ((pl + m : Nat) : Int) = (pl : Int) + (m : Int) := by omega
      rw [e1] at hy
      clear e1
      generalize r.length = nr at *
      clear hs hmr hml hnx hrec hsz hT hx hfx hm HBr HFr HZr HBel b1 HASK HJr hR8
      gi_wp2_with fail
      refine ⟨trivial, (fun h => by cases h), ?_⟩
      refine (callsIn_wide.2 HSz.out).mono ?_; rintro e w2 ⟨rfl, rfl⟩
      clear HSz
      gi_wp2_with fail
      refine ⟨(fun h => by cases h), ?_⟩
      refine hR.mono ?_
      rintro e W3 ⟨rfl, hJ3, hK3⟩
      obtain ⟨hf3, hk3⟩ := hK3.2 (a + 1) HZ2.out HF2.out
      have HB3 : Hid (Blk W3 a 25 #[.slice p L.length cap]) := Lib.hid (hk3 a _ (by omega) hea heb HB2.out rfl)
      have HJ3 := Lib.hid hJ3
      have HF3 := Lib.hid hf3
      have HBel3 := Lib.hid (HBel2.out.trans hK3.1)
      have HZ3 : Hid (a + 1 ≤ W3.heap.size) := Lib.hid (Nat.le_trans HZ2.out hK3.1.size)
      clear hJ3 hK3 hf3 hk3 hy
      gi_wp2_with fail
      go_roundw
      case rel => exact ⟨j + 1, _, hlt, by rw [HNX.out]; congr 1, HPre2, HJ3, HB3, HF3, HZ3, HBel3⟩
      case measure => simp [intOf]; omega
/-- The value that frames hands back goes through the frames. -/
theorem frames_tells (n b n0 E1 E2 : Nat) (v : Value) (L : List UInt8) (w0 w : World) (h0n : w0.heap.size = n0) (hw0 : Below n0 w0 w) (hE0 : Env w0) (hB0 : Bs w0 v L) (hl : L.length ≤ maxTk) (hb : Blk w b 25 #[v]) (hE1 : E1 < w.heap.size) (hE2 : E2 < w.heap.size) (hfar : ∀ B, farAt E1 B w) :
    SeqTells Fence.wide n Tryz.prog 66 #[.pointer (some ⟨b, 0, none⟩)] fxV (TellF w.heap.size (splitR L)) (KeepF n0 E1 E2) (fun xs => xs.map Fx.r = splitR L) w := fun l J W hW hJ hY h0 =>
  frames1_in n b n0 E1 E2 v L w0 W h0n (hw0.trans (hW.mono (by rw [← h0n]; exact hw0.size))) hE0 hB0 hl (hb.later hW) (Nat.lt_of_lt_of_le hE1 hW.size) (Nat.lt_of_lt_of_le hE2 hW.size) (fun B => (hfar B).below hE1 hW) l w.heap.size hW.size J hJ hY h0
end Go.Proofs.YtmbfhmjcphoddaaGreatDoor.Crc
