/- CoverValues: what may be, both; the statement that makes both together and one without the other. -/
import Derived.Test.YtfjfdajachcnjaaDb
import Derived.OrdersHeld
set_option linter.unusedSimpArgs false
set_option linter.unusedVariables false
namespace Go.Proofs.Ytfjfdajachcnjaa.Gm
open Go Go.RowKit
attribute [local go_sem ↓] Go.wp_at_zero Go.wp_at_succ

/-- Regions that the call owns. -/
def Ows (w : World) (M : List (Rm × Rg)) : Prop := ∀ x ∈ M, OwnR w x.1 x.2
theorem Ows.nil (w : World) : Ows w [] := fun x hx => by simp at hx
theorem Ows.later {w w' : World} {M : List (Rm × Rg)} (h : Ows w M) (hb : Below w.heap.size w w') : Ows w' M := fun x hx => (h x hx).later hb
theorem Ows.push {w w' : World} {M : List (Rm × Rg)} (h : Ows w M) (hb : Below w.heap.size w w') {m : Rm} {r : Rg} (k : OwnR w' m r) : Ows w' ((m, r) :: M) := fun x hx => by
  rcases List.mem_cons.1 hx with rfl | hx
  · exact k
  · exact (h x hx).later hb
theorem Ows.get {w : World} {M : List (Rm × Rg)} (h : Ows w M) (i : Nat) {m : Rm} {r : Rg} (hi : M[i]? = some (m, r)) : OwnR w m r := h (m, r) (List.mem_of_getElem? hi)
theorem Ows.put {w : World} {M : List (Rm × Rg)} (h : Ows w M) {g : Nat} {cs : Array Value} (hK : Blk w g 29 cs) (m : Rm) (x : Rg) : Ows (chain4 w g m x) M := fun y hy => (h y hy).put4 hK
theorem Bks.put {w : World} {M : List (Nat × TypeId × Array Value)} (h : Bks w M) {g : Nat} (m : Rm) (x : Rg) (hg : ∀ y ∈ M, y.1 ≠ g) : Bks (chain4 w g m x) M := fun y hy => (same4 w g m x).blk (h y hy) (hg y hy)
theorem Bks.tail {w : World} {M : List (Nat × TypeId × Array Value)} {x : Nat × TypeId × Array Value} (h : Bks w (x :: M)) : Bks w M := fun y hy => h y (List.mem_cons_of_mem _ hy)
/-- The cells of two regions. -/
theorem cells2 {w : World} {M : List (Nat × TypeId × Array Value)} (h : Bks w M) (i j : Nat) {g9 g11 : Nat} {k9 k11 : Rm} {r s : Rg} (hi : M[i]? = some (g9, 29, rgc k9 r)) (hj : M[j]? = some (g11, 29, rgc k11 s)) : w.cell? ⟨g9, 0, none⟩ = some (.slice k9.p0 r.a.length k9.c0) ∧ w.cell? ⟨g9, 1, none⟩ = some (.slice k9.p1 r.b.length k9.c1) ∧ w.cell? ⟨g9, 2, none⟩ = some (.slice k9.p2 r.c.length k9.c2) ∧ w.cell? ⟨g9, 3, none⟩ = some (.bool r.o) ∧ w.cell? ⟨g11, 0, none⟩ = some (.slice k11.p0 s.a.length k11.c0) ∧ w.cell? ⟨g11, 1, none⟩ = some (.slice k11.p1 s.b.length k11.c1) ∧ w.cell? ⟨g11, 2, none⟩ = some (.slice k11.p2 s.c.length k11.c2) ∧ w.cell? ⟨g11, 3, none⟩ = some (.bool s.o) := by
  have a := h.get i hi
  have b := h.get j hj
  exact ⟨a.cell 0 rfl, a.cell 1 rfl, a.cell 2 rfl, a.cell 3 rfl, b.cell 0 rfl, b.cell 1 rfl, b.cell 2 rfl, b.cell 3 rfl⟩
theorem keep2 {w : World} {M : List (Nat × TypeId × Array Value)} (h : Bks w M) (i j : Nat) {g9 g11 g : Nat} {k9 k11 : Rm} {r s : Rg} (hi : M[i]? = some (g9, 29, rgc k9 r)) (hj : M[j]? = some (g11, 29, rgc k11 s)) (m : Rm) (x : Rg) (h9 : g9 ≠ g) (h11 : g11 ≠ g) : (chain4 w g m x).cell? ⟨g9, 0, none⟩ = some (.slice k9.p0 r.a.length k9.c0) ∧ (chain4 w g m x).cell? ⟨g9, 1, none⟩ = some (.slice k9.p1 r.b.length k9.c1) ∧ (chain4 w g m x).cell? ⟨g9, 2, none⟩ = some (.slice k9.p2 r.c.length k9.c2) ∧ (chain4 w g m x).cell? ⟨g9, 3, none⟩ = some (.bool r.o) ∧ (chain4 w g m x).cell? ⟨g11, 0, none⟩ = some (.slice k11.p0 s.a.length k11.c0) ∧ (chain4 w g m x).cell? ⟨g11, 1, none⟩ = some (.slice k11.p1 s.b.length k11.c1) ∧ (chain4 w g m x).cell? ⟨g11, 2, none⟩ = some (.slice k11.p2 s.c.length k11.c2) ∧ (chain4 w g m x).cell? ⟨g11, 3, none⟩ = some (.bool s.o) := by
  have a := (same4 w g m x).blk (h.get i hi) h9
  have b := (same4 w g m x).blk (h.get j hj) h11
  exact ⟨a.cell 0 rfl, a.cell 1 rfl, a.cell 2 rfl, a.cell 3 rfl, b.cell 0 rfl, b.cell 1 rfl, b.cell 2 rfl, b.cell 3 rfl⟩
/-- The two regions' blocks. -/
def Two (w : World) (g9 g11 : Nat) (k9 k11 : Rm) (r s : Rg) : Prop := Blk w g9 29 (rgc k9 r) ∧ Blk w g11 29 (rgc k11 s)
theorem Two.al {w : World} {g9 g11 : Nat} {k9 k11 : Rm} {r s : Rg} (h : Two w g9 g11 k9 k11 r s) (o : Obj) : Two (w.alloc o) g9 g11 k9 k11 r s := ⟨h.1.alloc o, h.2.alloc o⟩
theorem Two.put {w : World} {g9 g11 : Nat} {k9 k11 : Rm} {r s : Rg} (h : Two w g9 g11 k9 k11 r s) {g : Nat} {m : Rm} {x : Rg} (h9 : g9 ≠ g) (h11 : g11 ≠ g) : Two (chain4 w g m x) g9 g11 k9 k11 r s := ⟨(same4 w g m x).blk h.1 h9, (same4 w g m x).blk h.2 h11⟩
theorem Two.cells {w : World} {g9 g11 : Nat} {k9 k11 : Rm} {r s : Rg} (h : Two w g9 g11 k9 k11 r s) : w.cell? ⟨g9, 0, none⟩ = some (.slice k9.p0 r.a.length k9.c0) ∧ w.cell? ⟨g9, 1, none⟩ = some (.slice k9.p1 r.b.length k9.c1) ∧ w.cell? ⟨g9, 2, none⟩ = some (.slice k9.p2 r.c.length k9.c2) ∧ w.cell? ⟨g9, 3, none⟩ = some (.bool r.o) ∧ w.cell? ⟨g11, 0, none⟩ = some (.slice k11.p0 s.a.length k11.c0) ∧ w.cell? ⟨g11, 1, none⟩ = some (.slice k11.p1 s.b.length k11.c1) ∧ w.cell? ⟨g11, 2, none⟩ = some (.slice k11.p2 s.c.length k11.c2) ∧ w.cell? ⟨g11, 3, none⟩ = some (.bool s.o) :=
  ⟨h.1.cell 0 rfl, h.1.cell 1 rfl, h.1.cell 2 rfl, h.1.cell 3 rfl, h.2.cell 0 rfl, h.2.cell 1 rfl, h.2.cell 2 rfl, h.2.cell 3 rfl⟩
theorem nxt1 {w : World} {J : Nat} {cs : Array Value} {M : List (Nat × TypeId × Array Value)} (h : Bks w ((J, 29, cs) :: M)) (m : Rm) (x : Rg) : Blk (chain4 (w.alloc (.cells zRg 29)) J m x) w.heap.size 29 zRg :=
  (same4 _ _ m x).blk (Blk.new w 29 zRg) (by have := (h.get 0 rfl).lt; omega)
theorem nxt2 {w : World} {J J' : Nat} {cs cs' : Array Value} {M : List (Nat × TypeId × Array Value)} (h : Bks w ((J, 29, cs) :: (J', 29, cs') :: M)) (m : Rm) (x : Rg) (hJ : J' ≠ J) : Blk (chain4 w J m x) J' 29 cs' := (same4 _ _ m x).blk (h.get 1 rfl) hJ
theorem nxt3 {w : World} {J J' : Nat} {cs cs' : Array Value} {M : List (Nat × TypeId × Array Value)} (h : Bks w ((J, 29, cs) :: (J', 29, cs') :: M)) (m : Rm) (x : Rg) (hJ : J' ≠ J) : Blk (chain4 w J' m x) J 29 cs := (same4 _ _ m x).blk (h.get 0 rfl) (Ne.symm hJ)
theorem blkC {w : World} {g : Nat} (h : Blk w g 29 zRg) (m : Rm) (x : Rg) : Blk (chain4 w g m x) g 29 (rgc m x) := blkR h m x
theorem elseC {w : World} {J : Nat} {t : TypeId} {cs : Array Value} (h : Blk w J t cs) {g : Nat} (m : Rm) (x : Rg) (hg : J ≠ g) : Blk (chain4 w g m x) J t cs := (same4 w g m x).blk h hg
theorem bAl {w w' : World} (h : Below w.heap.size w w') (o : Obj) : Below w.heap.size w (w'.alloc o) := h.alloc h.size o
theorem bPut {w w' : World} (h : Below w.heap.size w w') {g : Nat} (m : Rm) (x : Rg) (hg : w.heap.size ≤ g) : Below w.heap.size w (chain4 w' g m x) := (same4 w' g m x).below h h.size hg
theorem Ows.al {w : World} {M : List (Rm × Rg)} (h : Ows w M) (o : Obj) : Ows (w.alloc o) M := h.later (below_one w o)
theorem Bks.cons {w : World} {M : List (Nat × TypeId × Array Value)} {g : Nat} {t : TypeId} {cs : Array Value} (hb : Blk w g t cs) (h : Bks w M) : Bks w ((g, t, cs) :: M) := fun y hy => by
  rcases List.mem_cons.1 hy with rfl | hy
  · exact hb
  · exact h y hy
theorem Bks.two {w : World} {M : List (Nat × TypeId × Array Value)} (h : Bks w M) (i j : Nat) {g9 g11 : Nat} {k9 k11 : Rm} {r s : Rg} (hi : M[i]? = some (g9, 29, rgc k9 r)) (hj : M[j]? = some (g11, 29, rgc k11 s)) : Two w g9 g11 k9 k11 r s := ⟨h.get i hi, h.get j hj⟩
theorem cells5 {w W : World} {J14 J13 g11 g9 : Nat} {k14 k13 k11 k9 : Rm} {r s : Rg} {x : Vl} (h : Bks W [(J14, 29, rgc k14 (minusR r s)), (J13, 29, rgc k13 (andR r s)), (g11, 29, rgc k11 s), (g9, 29, rgc k9 r), (w.heap.size, 25, vlc x)]) : W.cell? ⟨J14, 0, none⟩ = some (.slice k14.p0 (minusR r s).a.length k14.c0) ∧ W.cell? ⟨J14, 1, none⟩ = some (.slice k14.p1 (minusR r s).b.length k14.c1) ∧ W.cell? ⟨J14, 2, none⟩ = some (.slice k14.p2 (minusR r s).c.length k14.c2) ∧ W.cell? ⟨J14, 3, none⟩ = some (.bool (minusR r s).o) ∧ W.cell? ⟨J13, 0, none⟩ = some (.slice k13.p0 (andR r s).a.length k13.c0) ∧ W.cell? ⟨J13, 1, none⟩ = some (.slice k13.p1 (andR r s).b.length k13.c1) ∧ W.cell? ⟨J13, 2, none⟩ = some (.slice k13.p2 (andR r s).c.length k13.c2) ∧ W.cell? ⟨J13, 3, none⟩ = some (.bool (andR r s).o) ∧ W.cell? ⟨g11, 0, none⟩ = some (.slice k11.p0 s.a.length k11.c0) ∧ W.cell? ⟨g11, 1, none⟩ = some (.slice k11.p1 s.b.length k11.c1) ∧ W.cell? ⟨g11, 2, none⟩ = some (.slice k11.p2 s.c.length k11.c2) ∧ W.cell? ⟨g11, 3, none⟩ = some (.bool s.o) ∧ W.cell? ⟨g9, 0, none⟩ = some (.slice k9.p0 r.a.length k9.c0) ∧ W.cell? ⟨g9, 1, none⟩ = some (.slice k9.p1 r.b.length k9.c1) ∧ W.cell? ⟨g9, 2, none⟩ = some (.slice k9.p2 r.c.length k9.c2) ∧ W.cell? ⟨g9, 3, none⟩ = some (.bool r.o) ∧ W.cell? ⟨w.heap.size, 0, none⟩ = some (.int .i64 x.k) ∧ W.cell? ⟨w.heap.size, 1, none⟩ = some (.int .i64 x.n) ∧ W.cell? ⟨w.heap.size, 2, none⟩ = some (.string x.s) ∧ W.cell? ⟨w.heap.size, 3, none⟩ = some (.bool x.b) := by
  have a := h.get 0 rfl
  have b := h.get 1 rfl
  have c := h.get 2 rfl
  have d := h.get 3 rfl
  have e := h.get 4 rfl
  exact ⟨a.cell 0 rfl, a.cell 1 rfl, a.cell 2 rfl, a.cell 3 rfl, b.cell 0 rfl, b.cell 1 rfl, b.cell 2 rfl, b.cell 3 rfl, c.cell 0 rfl, c.cell 1 rfl, c.cell 2 rfl, c.cell 3 rfl, d.cell 0 rfl, d.cell 1 rfl, d.cell 2 rfl, d.cell 3 rfl, e.cell 0 rfl, e.cell 1 rfl, e.cell 2 rfl, e.cell 3 rfl⟩
section
variable {P : Program} {ops : Array Oper} {Q : Exit → Act → World → Prop} {S : World → Prop}
theorem held_skip (i : Nat) {oi : Oper} {fuel : Nat} {listed : Array Bool} {a : Act} {w : World} (hi : ops[i]? = some oi) (hs : Region.noSelect ops = true) (hf : Region.free .any ops listed i = true) (hr : (Region.ready .any ops listed).contains i = true)
    (hQ : ∀ c a w, Q (.panic c) (a.put oi.dst undef) w → Q (.panic c) a w) (hw : Region.wanted oi (yielded ops a.tmps) = false) (hS : S w) (h : wpAnyH P .any ops Q S fuel (listed.setIfInBounds i true) (a.put oi.dst undef) w) : wpAnyH P .any ops Q S (fuel + 1) listed a w :=
  wpAnyH_take hi hs hf hr hQ (Or.inr ⟨hw, rfl⟩) hS h
theorem held_take (i : Nat) {oi : Oper} {v : Value} {fuel : Nat} {listed : Array Bool} {a : Act} {w : World} (hi : ops[i]? = some oi) (hs : Region.noSelect ops = true) (hf : Region.free .any ops listed i = true) (hr : (Region.ready .any ops listed).contains i = true)
    (hQ : ∀ c a w, Q (.panic c) (a.put oi.dst v) w → Q (.panic c) a w) (hw : Region.wanted oi (yielded ops a.tmps) = true) (hv : ∀ w, S w → (execOp a.eval oi).run P w = .ok (.value v) w) (hS : S w) (h : wpAnyH P .any ops Q S fuel (listed.setIfInBounds i true) (a.put oi.dst v) w) : wpAnyH P .any ops Q S (fuel + 1) listed a w :=
  wpAnyH_take hi hs hf hr hQ (Or.inl ⟨hw, hv⟩) hS h
end
theorem Bks.al {w : World} {M : List (Nat × TypeId × Array Value)} (h : Bks w M) (o : Obj) : Bks (w.alloc o) M := fun y hy => (h y hy).alloc o
theorem Bks.putN {w w0 : World} {M : List (Nat × TypeId × Array Value)} (h : Bks w M) (h0 : Bks w0 M) {g : Nat} (m : Rm) (x : Rg) (hg : w0.heap.size ≤ g) : Bks (chain4 w g m x) M := h.put m x (fun y hy => by have := (h0 y hy).lt; omega)
theorem Ows.drop2 {w : World} {M : List (Rm × Rg)} {a b : Rm × Rg} (h : Ows w (a :: b :: M)) : Ows w (a :: M) := fun y hy => h y (by simp at hy ⊢; rcases hy with h | h; exact .inl h; exact .inr (.inr h))
theorem cellsU {w W : World} {J20 J19 J14 J13 g11 g9 : Nat} {k19 k14 k13 k11 k9 : Rm} {r s : Rg} {x : Vl} (h : Bks W [(J20, 29, zRg), (J19, 29, rgc k19 (minusR (andR (andR r s) s) (minusR r s))), (J14, 29, rgc k14 (minusR r s)), (J13, 29, rgc k13 (andR r s)), (g11, 29, rgc k11 s), (g9, 29, rgc k9 r), (w.heap.size, 25, vlc x)]) : W.cell? ⟨J20, 0, none⟩ = some (.slice none 0 0) ∧ W.cell? ⟨J20, 1, none⟩ = some (.slice none 0 0) ∧ W.cell? ⟨J20, 2, none⟩ = some (.slice none 0 0) ∧ W.cell? ⟨J20, 3, none⟩ = some (.bool false) ∧ W.cell? ⟨J19, 0, none⟩ = some (.slice k19.p0 (minusR (andR (andR r s) s) (minusR r s)).a.length k19.c0) ∧ W.cell? ⟨J19, 1, none⟩ = some (.slice k19.p1 (minusR (andR (andR r s) s) (minusR r s)).b.length k19.c1) ∧ W.cell? ⟨J19, 2, none⟩ = some (.slice k19.p2 (minusR (andR (andR r s) s) (minusR r s)).c.length k19.c2) ∧ W.cell? ⟨J19, 3, none⟩ = some (.bool (minusR (andR (andR r s) s) (minusR r s)).o) ∧ W.cell? ⟨J13, 0, none⟩ = some (.slice k13.p0 (andR r s).a.length k13.c0) ∧ W.cell? ⟨J13, 1, none⟩ = some (.slice k13.p1 (andR r s).b.length k13.c1) ∧ W.cell? ⟨J13, 2, none⟩ = some (.slice k13.p2 (andR r s).c.length k13.c2) ∧ W.cell? ⟨J13, 3, none⟩ = some (.bool (andR r s).o) ∧ W.cell? ⟨g9, 0, none⟩ = some (.slice k9.p0 r.a.length k9.c0) ∧ W.cell? ⟨g9, 1, none⟩ = some (.slice k9.p1 r.b.length k9.c1) ∧ W.cell? ⟨g9, 2, none⟩ = some (.slice k9.p2 r.c.length k9.c2) ∧ W.cell? ⟨g9, 3, none⟩ = some (.bool r.o) ∧ W.cell? ⟨w.heap.size, 0, none⟩ = some (.int .i64 x.k) ∧ W.cell? ⟨w.heap.size, 1, none⟩ = some (.int .i64 x.n) ∧ W.cell? ⟨w.heap.size, 2, none⟩ = some (.string x.s) ∧ W.cell? ⟨w.heap.size, 3, none⟩ = some (.bool x.b) := by
  have a := h.get 0 rfl
  have b := h.get 1 rfl
  have c := h.get 3 rfl
  have d := h.get 5 rfl
  have e := h.get 6 rfl
  exact ⟨a.cell 0 rfl, a.cell 1 rfl, a.cell 2 rfl, a.cell 3 rfl, b.cell 0 rfl, b.cell 1 rfl, b.cell 2 rfl, b.cell 3 rfl, c.cell 0 rfl, c.cell 1 rfl, c.cell 2 rfl, c.cell 3 rfl, d.cell 0 rfl, d.cell 1 rfl, d.cell 2 rfl, d.cell 3 rfl, e.cell 0 rfl, e.cell 1 rfl, e.cell 2 rfl, e.cell 3 rfl⟩
theorem nameW {n : Nat} {w W : World} (_ : Hid (Below n w W)) : ∃ Wq, Wq = W := ⟨W, rfl⟩
set_option maxHeartbeats 32000000 in
set_option maxRecDepth 100000 in
theorem cvalues_yes (v0 v1 : Value) (l0 l1 : List Cn) (nm : ByteArray) (x : Vl) (w : World) (hC0 : Cs w v0 l0) (hC1 : Cs w v1 l1) (r0 : ∀ c ∈ l0, RvC c) (r1 : ∀ c ∈ l1, RvC c) (hx : Rv x) (m0 : mayPr l0 = true) (m1 : mayPr l1 = true) : Calls Try.prog 3 #[v0, v1, .string nm, vv x] w (Gives (.bool true) w) := by
  obtain ⟨p0, c0, rfl⟩ := hC0.1.form
  obtain ⟨p1, c1, rfl⟩ := hC1.1.form
  have HA0 := Lib.hid (fun W (h : Below w.heap.size w W) => asked_yes _ l0 nm W (hC0.later h) r0 m0)
  have HA1 := Lib.hid (fun W (h : Below w.heap.size w W) => asked_yes _ l1 nm W (hC1.later h) r1 m1)
  have HWr := Lib.hid (WfR.asked (mp_of m0 r0) nm.data.toList)
  have HWs := Lib.hid (WfR.asked (mp_of m1 r1) nm.data.toList)
  have HLr := Lib.hid (LeR.asked (mp_of m0 r0) nm.data.toList)
  have HLs := Lib.hid (LeR.asked (mp_of m1 r1) nm.data.toList)
  have HX := Lib.hid hx
  clear hC0 hC1 r0 r1 m0 m1 hx
  generalize askedR l0 nm.data.toList = r at HA0 HWr HLr
  generalize askedR l1 nm.data.toList = s at HA1 HWs HLs
  have HB0 := Lib.hid (below_one w (.cells (vlc x) 25))
  have HK0 := Lib.hid ((Bks.nil w).push (below_one w (.cells (vlc x) 25)) (Blk.new w 25 (vlc x)))
  have HO0 := Lib.hid ((Ows.nil (w.alloc (.cells (vlc x) 25))))
  go_enter Try.func3, Try.ntmps3
  go_wp2_with fail
  refine (HA0.out _ HB0.out).mono ?_; rintro e w1 ⟨k9, rfl, h1, b1⟩
  have HB1 : Hid (Below w.heap.size w (w1.alloc (.cells (rgc k9 r) 29))) := Lib.hid ((then_ HB0.out b1).alloc (then_ HB0.out b1).size _)
  have HK1 : Hid (Bks (w1.alloc (.cells (rgc k9 r) 29)) _) := Lib.hid ((HK0.out.later b1).push (below_one _ _) (blk_new w1 29 (rgc k9 r) w1.heap.size rfl))
  have HO1 : Hid (Ows (w1.alloc (.cells (rgc k9 r) 29)) _) := Lib.hid ((HO0.out.push b1 h1).later (below_one _ _))
  have hs1 : w.heap.size < w1.heap.size := by have := b1.size; simp at this; omega
  clear b1 h1 HB0 HK0 HO0
  go_wp2_with fail
  refine (HA1.out _ HB1.out).mono ?_; rintro e w2 ⟨k11, rfl, h2, b2⟩
  have HB2 : Hid (Below w.heap.size w (w2.alloc (.cells (rgc k11 s) 29))) := Lib.hid ((then_ HB1.out b2).alloc (then_ HB1.out b2).size _)
  have HK2 : Hid (Bks (w2.alloc (.cells (rgc k11 s) 29)) _) := Lib.hid ((HK1.out.later b2).push (below_one _ _) (blk_new w2 29 (rgc k11 s) w2.heap.size rfl))
  have HO2 : Hid (Ows (w2.alloc (.cells (rgc k11 s) 29)) _) := Lib.hid ((HO1.out.push b2 h2).later (below_one _ _))
  have hs2 : w1.heap.size < w2.heap.size := by have := b2.size; simp at this; omega
  clear b2 h2 HB1 HK1 HO1
  obtain ⟨g9, hg9⟩ : ∃ g, w1.heap.size = g := ⟨_, rfl⟩
  obtain ⟨g11, hg11⟩ : ∃ g, w2.heap.size = g := ⟨_, rfl⟩
  have hs3 : g11 < (w2.alloc (.cells (rgc k11 s) 29)).heap.size := by simp; omega
  go_wp2_with fail
  rw [hg9] at HK2 hs1 hs2
  rw [hg11] at HK2 hs2
  try rw [hg9]
  try rw [hg11]
  obtain ⟨W0, hW0⟩ : ∃ W0, W0 = w2.alloc (.cells (rgc k11 s) 29) := ⟨_, rfl⟩
  rw [← hW0] at HB2 HK2 HO2 hs3 ⊢
  clear hW0 hg9 hg11
  go_cut [13, 14] from 40 to 45 (fun t13 t14 wq => ∃ J13 J14 k13 k14, t13 = .pointer (some ⟨J13, 0, none⟩) ∧ t14 = .pointer (some ⟨J14, 0, none⟩) ∧ Hid (Below w.heap.size w wq) ∧ Hid (Bks wq [(J14, 29, rgc k14 (minusR r s)), (J13, 29, rgc k13 (andR r s)), (g11, 29, rgc k11 s), (g9, 29, rgc k9 r), (w.heap.size, 25, vlc x)]) ∧ Hid (Ows wq [(k14, minusR r s), (k13, andR r s), (k11, s), (k9, r)]))
  case first =>
    have HAnd := Lib.hid (fun W (a : OwnR W k9 r) (b : OwnR W k11 s) => and_o k9 k11 r s 145 145 W a b HLr.out HLs.out (by omega))
    have HMin := Lib.hid (fun W (a : OwnR W k9 r) (b : OwnR W k11 s) => minus_o k9 k11 r s 145 145 W a b HLr.out HLs.out (by omega))
    generalize hboth : andR r s = both at HAnd
    generalize hless : minusR r s = less at HMin
    have HBd : Hid (Below w.heap.size w W0.drew) := Lib.hid HB2.out.drew
    have HKd : Hid (Bks W0.drew _) := Lib.hid (HK2.out.later (Below.refl _ W0).drew)
    have HOd : Hid (Ows W0.drew _) := Lib.hid (HO2.out.later (Below.refl _ W0).drew)
    have HSd : Hid ((W0.drew).cell? ⟨g9, 0, none⟩ = some (.slice k9.p0 r.a.length k9.c0) ∧ (W0.drew).cell? ⟨g9, 1, none⟩ = some (.slice k9.p1 r.b.length k9.c1) ∧ (W0.drew).cell? ⟨g9, 2, none⟩ = some (.slice k9.p2 r.c.length k9.c2) ∧ (W0.drew).cell? ⟨g9, 3, none⟩ = some (.bool r.o) ∧ (W0.drew).cell? ⟨g11, 0, none⟩ = some (.slice k11.p0 s.a.length k11.c0) ∧ (W0.drew).cell? ⟨g11, 1, none⟩ = some (.slice k11.p1 s.b.length k11.c1) ∧ (W0.drew).cell? ⟨g11, 2, none⟩ = some (.slice k11.p2 s.c.length k11.c2) ∧ (W0.drew).cell? ⟨g11, 3, none⟩ = some (.bool s.o)) := Lib.hid (by first | exact cells2 HKd.out 1 0 rfl rfl)
    have HBda : Hid (Below w.heap.size w ((W0.alloc (.cells zRg 29)).drew)) := Lib.hid (HB2.out.alloc HB2.out.size _).drew
    have HKda : Hid (Bks ((W0.alloc (.cells zRg 29)).drew) ((W0.heap.size, 29, zRg) :: _)) := Lib.hid (Bks.push HK2.out (below_one W0 (.cells zRg 29)).drew (blk_new W0 29 zRg W0.heap.size rfl))
    have HOda : Hid (Ows ((W0.alloc (.cells zRg 29)).drew) _) := Lib.hid (HO2.out.later (below_one W0 (.cells zRg 29)).drew)
    have HBdb : Hid (Below w.heap.size w (((W0.alloc (.cells zRg 29)).alloc (.cells zRg 29)).drew)) := Lib.hid ((HB2.out.alloc HB2.out.size (.cells zRg 29)).alloc (by have := HB2.out.size; simp; omega) (.cells zRg 29)).drew
    have HKdb : Hid (Bks (((W0.alloc (.cells zRg 29)).alloc (.cells zRg 29)).drew) ((W0.heap.size + 1, 29, zRg) :: (W0.heap.size, 29, zRg) :: _)) := Lib.hid (Bks.push (Bks.push HK2.out (below_one W0 (.cells zRg 29)) (blk_new W0 29 zRg W0.heap.size rfl)) (below_one (W0.alloc (.cells zRg 29)) (.cells zRg 29)).drew (blk_new (W0.alloc (.cells zRg 29)) 29 zRg (W0.heap.size + 1) (by simp)))
    have HOdb : Hid (Ows (((W0.alloc (.cells zRg 29)).alloc (.cells zRg 29)).drew) _) := Lib.hid ((HO2.out.later (below_one W0 (.cells zRg 29))).later (below_one (W0.alloc (.cells zRg 29)) (.cells zRg 29)).drew)
    have HSda : Hid (((W0.alloc (.cells zRg 29)).drew).cell? ⟨g9, 0, none⟩ = some (.slice k9.p0 r.a.length k9.c0) ∧ ((W0.alloc (.cells zRg 29)).drew).cell? ⟨g9, 1, none⟩ = some (.slice k9.p1 r.b.length k9.c1) ∧ ((W0.alloc (.cells zRg 29)).drew).cell? ⟨g9, 2, none⟩ = some (.slice k9.p2 r.c.length k9.c2) ∧ ((W0.alloc (.cells zRg 29)).drew).cell? ⟨g9, 3, none⟩ = some (.bool r.o) ∧ ((W0.alloc (.cells zRg 29)).drew).cell? ⟨g11, 0, none⟩ = some (.slice k11.p0 s.a.length k11.c0) ∧ ((W0.alloc (.cells zRg 29)).drew).cell? ⟨g11, 1, none⟩ = some (.slice k11.p1 s.b.length k11.c1) ∧ ((W0.alloc (.cells zRg 29)).drew).cell? ⟨g11, 2, none⟩ = some (.slice k11.p2 s.c.length k11.c2) ∧ ((W0.alloc (.cells zRg 29)).drew).cell? ⟨g11, 3, none⟩ = some (.bool s.o)) := Lib.hid (by first | exact cells2 HKda.out 2 1 rfl rfl)
    have HSdb : Hid ((((W0.alloc (.cells zRg 29)).alloc (.cells zRg 29)).drew).cell? ⟨g9, 0, none⟩ = some (.slice k9.p0 r.a.length k9.c0) ∧ (((W0.alloc (.cells zRg 29)).alloc (.cells zRg 29)).drew).cell? ⟨g9, 1, none⟩ = some (.slice k9.p1 r.b.length k9.c1) ∧ (((W0.alloc (.cells zRg 29)).alloc (.cells zRg 29)).drew).cell? ⟨g9, 2, none⟩ = some (.slice k9.p2 r.c.length k9.c2) ∧ (((W0.alloc (.cells zRg 29)).alloc (.cells zRg 29)).drew).cell? ⟨g9, 3, none⟩ = some (.bool r.o) ∧ (((W0.alloc (.cells zRg 29)).alloc (.cells zRg 29)).drew).cell? ⟨g11, 0, none⟩ = some (.slice k11.p0 s.a.length k11.c0) ∧ (((W0.alloc (.cells zRg 29)).alloc (.cells zRg 29)).drew).cell? ⟨g11, 1, none⟩ = some (.slice k11.p1 s.b.length k11.c1) ∧ (((W0.alloc (.cells zRg 29)).alloc (.cells zRg 29)).drew).cell? ⟨g11, 2, none⟩ = some (.slice k11.p2 s.c.length k11.c2) ∧ (((W0.alloc (.cells zRg 29)).alloc (.cells zRg 29)).drew).cell? ⟨g11, 3, none⟩ = some (.bool s.o)) := Lib.hid (by first | exact cells2 HKdb.out 3 2 rfl rfl)
    go_region_held3 (fun w9 => w9.cell? ⟨g9, 0, none⟩ = some (.slice k9.p0 r.a.length k9.c0) ∧ w9.cell? ⟨g9, 1, none⟩ = some (.slice k9.p1 r.b.length k9.c1) ∧ w9.cell? ⟨g9, 2, none⟩ = some (.slice k9.p2 r.c.length k9.c2) ∧ w9.cell? ⟨g9, 3, none⟩ = some (.bool r.o) ∧ w9.cell? ⟨g11, 0, none⟩ = some (.slice k11.p0 s.a.length k11.c0) ∧ w9.cell? ⟨g11, 1, none⟩ = some (.slice k11.p1 s.b.length k11.c1) ∧ w9.cell? ⟨g11, 2, none⟩ = some (.slice k11.p2 s.c.length k11.c2) ∧ w9.cell? ⟨g11, 3, none⟩ = some (.bool s.o)) (first | (with_reducible exact HSMb.out) | (with_reducible exact HSMa.out) | (with_reducible exact HSM.out) | (with_reducible exact HSAb.out) | (with_reducible exact HSAa.out) | (with_reducible exact HSA.out) | (with_reducible exact HSdb.out) | (with_reducible exact HSda.out) | (with_reducible exact HSd.out) | ((with_reducible refine Two.cells ?_); (repeat (first | (with_reducible exact HTM.out) | (with_reducible refine Two.al ?_ _) | (with_reducible refine Two.put ?_ (by omega) (by omega)))); done)) (first | (go_at_call 7; (with_reducible refine (HAnd.out _ (HOd.out.get 1 rfl) (HOd.out.get 0 rfl)).mono ?_); rintro e wA ⟨kA, rfl, hq, bq⟩; have HBA := Lib.hid (then_ HBd.out bq); have HKA := Lib.hid (HKd.out.later bq); have HOA := Lib.hid (HOd.out.push bq hq); have hsA := bq.size; (try simp at hsA); clear bq hq; have HSA : Hid ((wA).cell? ⟨g9, 0, none⟩ = some (.slice k9.p0 r.a.length k9.c0) ∧ (wA).cell? ⟨g9, 1, none⟩ = some (.slice k9.p1 r.b.length k9.c1) ∧ (wA).cell? ⟨g9, 2, none⟩ = some (.slice k9.p2 r.c.length k9.c2) ∧ (wA).cell? ⟨g9, 3, none⟩ = some (.bool r.o) ∧ (wA).cell? ⟨g11, 0, none⟩ = some (.slice k11.p0 s.a.length k11.c0) ∧ (wA).cell? ⟨g11, 1, none⟩ = some (.slice k11.p1 s.b.length k11.c1) ∧ (wA).cell? ⟨g11, 2, none⟩ = some (.slice k11.p2 s.c.length k11.c2) ∧ (wA).cell? ⟨g11, 3, none⟩ = some (.bool s.o)) := Lib.hid (by first | exact cells2 HKA.out 1 0 rfl rfl | exact cells2 HKA.out 2 1 rfl rfl | exact cells2 HKA.out 3 2 rfl rfl); have HBAa : Hid (Below w.heap.size w (wA.alloc (.cells zRg 29))) := Lib.hid (HBA.out.alloc HBA.out.size (.cells zRg 29)); have HKAa : Hid (Bks (wA.alloc (.cells zRg 29)) ((wA.heap.size, 29, zRg) :: _)) := Lib.hid (HKA.out.push (below_one wA (.cells zRg 29)) (blk_new wA 29 zRg wA.heap.size rfl)); have HOAa : Hid (Ows (wA.alloc (.cells zRg 29)) _) := Lib.hid (HOA.out.later (below_one wA (.cells zRg 29))); have HBAb : Hid (Below w.heap.size w ((wA.alloc (.cells zRg 29)).alloc (.cells zRg 29))) := Lib.hid (HBAa.out.alloc HBAa.out.size (.cells zRg 29)); have HKAb : Hid (Bks ((wA.alloc (.cells zRg 29)).alloc (.cells zRg 29)) ((wA.heap.size + 1, 29, zRg) :: _)) := Lib.hid (HKAa.out.push (below_one (wA.alloc (.cells zRg 29)) (.cells zRg 29)) (blk_new (wA.alloc (.cells zRg 29)) 29 zRg (wA.heap.size + 1) (by simp))); have HOAb : Hid (Ows ((wA.alloc (.cells zRg 29)).alloc (.cells zRg 29)) _) := Lib.hid (HOAa.out.later (below_one (wA.alloc (.cells zRg 29)) (.cells zRg 29))); have HSAa : Hid (((wA.alloc (.cells zRg 29))).cell? ⟨g9, 0, none⟩ = some (.slice k9.p0 r.a.length k9.c0) ∧ ((wA.alloc (.cells zRg 29))).cell? ⟨g9, 1, none⟩ = some (.slice k9.p1 r.b.length k9.c1) ∧ ((wA.alloc (.cells zRg 29))).cell? ⟨g9, 2, none⟩ = some (.slice k9.p2 r.c.length k9.c2) ∧ ((wA.alloc (.cells zRg 29))).cell? ⟨g9, 3, none⟩ = some (.bool r.o) ∧ ((wA.alloc (.cells zRg 29))).cell? ⟨g11, 0, none⟩ = some (.slice k11.p0 s.a.length k11.c0) ∧ ((wA.alloc (.cells zRg 29))).cell? ⟨g11, 1, none⟩ = some (.slice k11.p1 s.b.length k11.c1) ∧ ((wA.alloc (.cells zRg 29))).cell? ⟨g11, 2, none⟩ = some (.slice k11.p2 s.c.length k11.c2) ∧ ((wA.alloc (.cells zRg 29))).cell? ⟨g11, 3, none⟩ = some (.bool s.o)) := Lib.hid (by first | exact cells2 HKAa.out 2 1 rfl rfl | exact cells2 HKAa.out 3 2 rfl rfl | exact cells2 HKAa.out 4 3 rfl rfl); have HSAb : Hid ((((wA.alloc (.cells zRg 29)).alloc (.cells zRg 29))).cell? ⟨g9, 0, none⟩ = some (.slice k9.p0 r.a.length k9.c0) ∧ (((wA.alloc (.cells zRg 29)).alloc (.cells zRg 29))).cell? ⟨g9, 1, none⟩ = some (.slice k9.p1 r.b.length k9.c1) ∧ (((wA.alloc (.cells zRg 29)).alloc (.cells zRg 29))).cell? ⟨g9, 2, none⟩ = some (.slice k9.p2 r.c.length k9.c2) ∧ (((wA.alloc (.cells zRg 29)).alloc (.cells zRg 29))).cell? ⟨g9, 3, none⟩ = some (.bool r.o) ∧ (((wA.alloc (.cells zRg 29)).alloc (.cells zRg 29))).cell? ⟨g11, 0, none⟩ = some (.slice k11.p0 s.a.length k11.c0) ∧ (((wA.alloc (.cells zRg 29)).alloc (.cells zRg 29))).cell? ⟨g11, 1, none⟩ = some (.slice k11.p1 s.b.length k11.c1) ∧ (((wA.alloc (.cells zRg 29)).alloc (.cells zRg 29))).cell? ⟨g11, 2, none⟩ = some (.slice k11.p2 s.c.length k11.c2) ∧ (((wA.alloc (.cells zRg 29)).alloc (.cells zRg 29))).cell? ⟨g11, 3, none⟩ = some (.bool s.o)) := Lib.hid (by first | exact cells2 HKAb.out 3 2 rfl rfl | exact cells2 HKAb.out 4 3 rfl rfl | exact cells2 HKAb.out 5 4 rfl rfl); skip) | (go_at_call 7; (with_reducible refine (HAnd.out _ (HOda.out.get 1 rfl) (HOda.out.get 0 rfl)).mono ?_); rintro e wA ⟨kA, rfl, hq, bq⟩; have HBA := Lib.hid (then_ HBda.out bq); have HKA := Lib.hid (HKda.out.later bq); have HOA := Lib.hid (HOda.out.push bq hq); have hsA := bq.size; (try simp at hsA); clear bq hq; have HSA : Hid ((wA).cell? ⟨g9, 0, none⟩ = some (.slice k9.p0 r.a.length k9.c0) ∧ (wA).cell? ⟨g9, 1, none⟩ = some (.slice k9.p1 r.b.length k9.c1) ∧ (wA).cell? ⟨g9, 2, none⟩ = some (.slice k9.p2 r.c.length k9.c2) ∧ (wA).cell? ⟨g9, 3, none⟩ = some (.bool r.o) ∧ (wA).cell? ⟨g11, 0, none⟩ = some (.slice k11.p0 s.a.length k11.c0) ∧ (wA).cell? ⟨g11, 1, none⟩ = some (.slice k11.p1 s.b.length k11.c1) ∧ (wA).cell? ⟨g11, 2, none⟩ = some (.slice k11.p2 s.c.length k11.c2) ∧ (wA).cell? ⟨g11, 3, none⟩ = some (.bool s.o)) := Lib.hid (by first | exact cells2 HKA.out 1 0 rfl rfl | exact cells2 HKA.out 2 1 rfl rfl | exact cells2 HKA.out 3 2 rfl rfl); have HBAa : Hid (Below w.heap.size w (wA.alloc (.cells zRg 29))) := Lib.hid (HBA.out.alloc HBA.out.size (.cells zRg 29)); have HKAa : Hid (Bks (wA.alloc (.cells zRg 29)) ((wA.heap.size, 29, zRg) :: _)) := Lib.hid (HKA.out.push (below_one wA (.cells zRg 29)) (blk_new wA 29 zRg wA.heap.size rfl)); have HOAa : Hid (Ows (wA.alloc (.cells zRg 29)) _) := Lib.hid (HOA.out.later (below_one wA (.cells zRg 29))); have HBAb : Hid (Below w.heap.size w ((wA.alloc (.cells zRg 29)).alloc (.cells zRg 29))) := Lib.hid (HBAa.out.alloc HBAa.out.size (.cells zRg 29)); have HKAb : Hid (Bks ((wA.alloc (.cells zRg 29)).alloc (.cells zRg 29)) ((wA.heap.size + 1, 29, zRg) :: _)) := Lib.hid (HKAa.out.push (below_one (wA.alloc (.cells zRg 29)) (.cells zRg 29)) (blk_new (wA.alloc (.cells zRg 29)) 29 zRg (wA.heap.size + 1) (by simp))); have HOAb : Hid (Ows ((wA.alloc (.cells zRg 29)).alloc (.cells zRg 29)) _) := Lib.hid (HOAa.out.later (below_one (wA.alloc (.cells zRg 29)) (.cells zRg 29))); have HSAa : Hid (((wA.alloc (.cells zRg 29))).cell? ⟨g9, 0, none⟩ = some (.slice k9.p0 r.a.length k9.c0) ∧ ((wA.alloc (.cells zRg 29))).cell? ⟨g9, 1, none⟩ = some (.slice k9.p1 r.b.length k9.c1) ∧ ((wA.alloc (.cells zRg 29))).cell? ⟨g9, 2, none⟩ = some (.slice k9.p2 r.c.length k9.c2) ∧ ((wA.alloc (.cells zRg 29))).cell? ⟨g9, 3, none⟩ = some (.bool r.o) ∧ ((wA.alloc (.cells zRg 29))).cell? ⟨g11, 0, none⟩ = some (.slice k11.p0 s.a.length k11.c0) ∧ ((wA.alloc (.cells zRg 29))).cell? ⟨g11, 1, none⟩ = some (.slice k11.p1 s.b.length k11.c1) ∧ ((wA.alloc (.cells zRg 29))).cell? ⟨g11, 2, none⟩ = some (.slice k11.p2 s.c.length k11.c2) ∧ ((wA.alloc (.cells zRg 29))).cell? ⟨g11, 3, none⟩ = some (.bool s.o)) := Lib.hid (by first | exact cells2 HKAa.out 2 1 rfl rfl | exact cells2 HKAa.out 3 2 rfl rfl | exact cells2 HKAa.out 4 3 rfl rfl); have HSAb : Hid ((((wA.alloc (.cells zRg 29)).alloc (.cells zRg 29))).cell? ⟨g9, 0, none⟩ = some (.slice k9.p0 r.a.length k9.c0) ∧ (((wA.alloc (.cells zRg 29)).alloc (.cells zRg 29))).cell? ⟨g9, 1, none⟩ = some (.slice k9.p1 r.b.length k9.c1) ∧ (((wA.alloc (.cells zRg 29)).alloc (.cells zRg 29))).cell? ⟨g9, 2, none⟩ = some (.slice k9.p2 r.c.length k9.c2) ∧ (((wA.alloc (.cells zRg 29)).alloc (.cells zRg 29))).cell? ⟨g9, 3, none⟩ = some (.bool r.o) ∧ (((wA.alloc (.cells zRg 29)).alloc (.cells zRg 29))).cell? ⟨g11, 0, none⟩ = some (.slice k11.p0 s.a.length k11.c0) ∧ (((wA.alloc (.cells zRg 29)).alloc (.cells zRg 29))).cell? ⟨g11, 1, none⟩ = some (.slice k11.p1 s.b.length k11.c1) ∧ (((wA.alloc (.cells zRg 29)).alloc (.cells zRg 29))).cell? ⟨g11, 2, none⟩ = some (.slice k11.p2 s.c.length k11.c2) ∧ (((wA.alloc (.cells zRg 29)).alloc (.cells zRg 29))).cell? ⟨g11, 3, none⟩ = some (.bool s.o)) := Lib.hid (by first | exact cells2 HKAb.out 3 2 rfl rfl | exact cells2 HKAb.out 4 3 rfl rfl | exact cells2 HKAb.out 5 4 rfl rfl); skip) | (go_at_call 7; (with_reducible refine (HAnd.out _ (HOdb.out.get 1 rfl) (HOdb.out.get 0 rfl)).mono ?_); rintro e wA ⟨kA, rfl, hq, bq⟩; have HBA := Lib.hid (then_ HBdb.out bq); have HKA := Lib.hid (HKdb.out.later bq); have HOA := Lib.hid (HOdb.out.push bq hq); have hsA := bq.size; (try simp at hsA); clear bq hq; have HSA : Hid ((wA).cell? ⟨g9, 0, none⟩ = some (.slice k9.p0 r.a.length k9.c0) ∧ (wA).cell? ⟨g9, 1, none⟩ = some (.slice k9.p1 r.b.length k9.c1) ∧ (wA).cell? ⟨g9, 2, none⟩ = some (.slice k9.p2 r.c.length k9.c2) ∧ (wA).cell? ⟨g9, 3, none⟩ = some (.bool r.o) ∧ (wA).cell? ⟨g11, 0, none⟩ = some (.slice k11.p0 s.a.length k11.c0) ∧ (wA).cell? ⟨g11, 1, none⟩ = some (.slice k11.p1 s.b.length k11.c1) ∧ (wA).cell? ⟨g11, 2, none⟩ = some (.slice k11.p2 s.c.length k11.c2) ∧ (wA).cell? ⟨g11, 3, none⟩ = some (.bool s.o)) := Lib.hid (by first | exact cells2 HKA.out 1 0 rfl rfl | exact cells2 HKA.out 2 1 rfl rfl | exact cells2 HKA.out 3 2 rfl rfl); have HBAa : Hid (Below w.heap.size w (wA.alloc (.cells zRg 29))) := Lib.hid (HBA.out.alloc HBA.out.size (.cells zRg 29)); have HKAa : Hid (Bks (wA.alloc (.cells zRg 29)) ((wA.heap.size, 29, zRg) :: _)) := Lib.hid (HKA.out.push (below_one wA (.cells zRg 29)) (blk_new wA 29 zRg wA.heap.size rfl)); have HOAa : Hid (Ows (wA.alloc (.cells zRg 29)) _) := Lib.hid (HOA.out.later (below_one wA (.cells zRg 29))); have HBAb : Hid (Below w.heap.size w ((wA.alloc (.cells zRg 29)).alloc (.cells zRg 29))) := Lib.hid (HBAa.out.alloc HBAa.out.size (.cells zRg 29)); have HKAb : Hid (Bks ((wA.alloc (.cells zRg 29)).alloc (.cells zRg 29)) ((wA.heap.size + 1, 29, zRg) :: _)) := Lib.hid (HKAa.out.push (below_one (wA.alloc (.cells zRg 29)) (.cells zRg 29)) (blk_new (wA.alloc (.cells zRg 29)) 29 zRg (wA.heap.size + 1) (by simp))); have HOAb : Hid (Ows ((wA.alloc (.cells zRg 29)).alloc (.cells zRg 29)) _) := Lib.hid (HOAa.out.later (below_one (wA.alloc (.cells zRg 29)) (.cells zRg 29))); have HSAa : Hid (((wA.alloc (.cells zRg 29))).cell? ⟨g9, 0, none⟩ = some (.slice k9.p0 r.a.length k9.c0) ∧ ((wA.alloc (.cells zRg 29))).cell? ⟨g9, 1, none⟩ = some (.slice k9.p1 r.b.length k9.c1) ∧ ((wA.alloc (.cells zRg 29))).cell? ⟨g9, 2, none⟩ = some (.slice k9.p2 r.c.length k9.c2) ∧ ((wA.alloc (.cells zRg 29))).cell? ⟨g9, 3, none⟩ = some (.bool r.o) ∧ ((wA.alloc (.cells zRg 29))).cell? ⟨g11, 0, none⟩ = some (.slice k11.p0 s.a.length k11.c0) ∧ ((wA.alloc (.cells zRg 29))).cell? ⟨g11, 1, none⟩ = some (.slice k11.p1 s.b.length k11.c1) ∧ ((wA.alloc (.cells zRg 29))).cell? ⟨g11, 2, none⟩ = some (.slice k11.p2 s.c.length k11.c2) ∧ ((wA.alloc (.cells zRg 29))).cell? ⟨g11, 3, none⟩ = some (.bool s.o)) := Lib.hid (by first | exact cells2 HKAa.out 2 1 rfl rfl | exact cells2 HKAa.out 3 2 rfl rfl | exact cells2 HKAa.out 4 3 rfl rfl); have HSAb : Hid ((((wA.alloc (.cells zRg 29)).alloc (.cells zRg 29))).cell? ⟨g9, 0, none⟩ = some (.slice k9.p0 r.a.length k9.c0) ∧ (((wA.alloc (.cells zRg 29)).alloc (.cells zRg 29))).cell? ⟨g9, 1, none⟩ = some (.slice k9.p1 r.b.length k9.c1) ∧ (((wA.alloc (.cells zRg 29)).alloc (.cells zRg 29))).cell? ⟨g9, 2, none⟩ = some (.slice k9.p2 r.c.length k9.c2) ∧ (((wA.alloc (.cells zRg 29)).alloc (.cells zRg 29))).cell? ⟨g9, 3, none⟩ = some (.bool r.o) ∧ (((wA.alloc (.cells zRg 29)).alloc (.cells zRg 29))).cell? ⟨g11, 0, none⟩ = some (.slice k11.p0 s.a.length k11.c0) ∧ (((wA.alloc (.cells zRg 29)).alloc (.cells zRg 29))).cell? ⟨g11, 1, none⟩ = some (.slice k11.p1 s.b.length k11.c1) ∧ (((wA.alloc (.cells zRg 29)).alloc (.cells zRg 29))).cell? ⟨g11, 2, none⟩ = some (.slice k11.p2 s.c.length k11.c2) ∧ (((wA.alloc (.cells zRg 29)).alloc (.cells zRg 29))).cell? ⟨g11, 3, none⟩ = some (.bool s.o)) := Lib.hid (by first | exact cells2 HKAb.out 3 2 rfl rfl | exact cells2 HKAb.out 4 3 rfl rfl | exact cells2 HKAb.out 5 4 rfl rfl); skip) | (go_at_call 8; (with_reducible refine (HMin.out _ (HOA.out.get 2 rfl) (HOA.out.get 1 rfl)).mono ?_); rintro e wM ⟨kM, rfl, hq, bq⟩; have HBM := Lib.hid (then_ HBA.out bq); have HKM := Lib.hid (HKA.out.later bq); have HOM := Lib.hid (HOA.out.push bq hq); have hsM := bq.size; (try simp at hsM); clear bq hq; have HTM : Hid (Two wM g9 g11 k9 k11 r s) := Lib.hid (by first | exact HKM.out.two 1 0 rfl rfl | exact HKM.out.two 2 1 rfl rfl | exact HKM.out.two 3 2 rfl rfl); (try (have HY0 : Hid (Blk wM _ 29 zRg) := Lib.hid (HKM.out.get 0 rfl); have y00 := HY0.out.cell 0 rfl; have y01 := HY0.out.cell 1 rfl; have y02 := HY0.out.cell 2 rfl; have y03 := HY0.out.cell 3 rfl; have e00 := HY0.out.free 0; have e01 := HY0.out.free 1; have e02 := HY0.out.free 2; have e03 := HY0.out.free 3)); (try (have HY1 : Hid (Blk wM _ 29 zRg) := Lib.hid (HKM.out.get 1 rfl); have y10 := HY1.out.cell 0 rfl; have y11 := HY1.out.cell 1 rfl; have y12 := HY1.out.cell 2 rfl; have y13 := HY1.out.cell 3 rfl; have e10 := HY1.out.free 0; have e11 := HY1.out.free 1; have e12 := HY1.out.free 2; have e13 := HY1.out.free 3)); (try (have HYa : Hid (Blk (wM.alloc (.cells zRg 29)) _ 29 zRg) := Lib.hid ((HKM.out.get 0 rfl).alloc _); have ya0 := HYa.out.cell 0 rfl; have ea0 := HYa.out.free 0; have ya1 := HYa.out.cell 1 rfl; have ea1 := HYa.out.free 1; have ya2 := HYa.out.cell 2 rfl; have ea2 := HYa.out.free 2; have ya3 := HYa.out.cell 3 rfl; have ea3 := HYa.out.free 3)); (try (have HYb : Hid (Blk (wM.alloc (.cells (rgc kA both) 29)) _ 29 zRg) := Lib.hid ((HKM.out.get 0 rfl).alloc _); have yb0 := HYb.out.cell 0 rfl; have eb0 := HYb.out.free 0; have yb1 := HYb.out.cell 1 rfl; have eb1 := HYb.out.free 1; have yb2 := HYb.out.cell 2 rfl; have eb2 := HYb.out.free 2; have yb3 := HYb.out.cell 3 rfl; have eb3 := HYb.out.free 3)); (try (have _h : Hid (Blk wM _ 29 zRg) := Lib.hid (HKM.out.get 0 rfl); (try (have HYc := Lib.hid (nxt1 HKM.out kA both); have yc0 := HYc.out.cell 0 rfl; have ec0 := HYc.out.free 0; have yc1 := HYc.out.cell 1 rfl; have ec1 := HYc.out.free 1; have yc2 := HYc.out.cell 2 rfl; have ec2 := HYc.out.free 2; have yc3 := HYc.out.cell 3 rfl; have ec3 := HYc.out.free 3)); clear _h)); (try (have _h : Hid (Blk wM _ 29 zRg) := Lib.hid (HKM.out.get 1 rfl); (try (have HYd := Lib.hid (nxt2 HKM.out kA both (by omega)); have yd0 := HYd.out.cell 0 rfl; have ed0 := HYd.out.free 0; have yd1 := HYd.out.cell 1 rfl; have ed1 := HYd.out.free 1; have yd2 := HYd.out.cell 2 rfl; have ed2 := HYd.out.free 2; have yd3 := HYd.out.cell 3 rfl; have ed3 := HYd.out.free 3)); (try (have HYe := Lib.hid (nxt3 HKM.out kA both (by omega)); have ye0 := HYe.out.cell 0 rfl; have ee0 := HYe.out.free 0; have ye1 := HYe.out.cell 1 rfl; have ee1 := HYe.out.free 1; have ye2 := HYe.out.cell 2 rfl; have ee2 := HYe.out.free 2; have ye3 := HYe.out.cell 3 rfl; have ee3 := HYe.out.free 3)); clear _h)); have HSM : Hid ((wM).cell? ⟨g9, 0, none⟩ = some (.slice k9.p0 r.a.length k9.c0) ∧ (wM).cell? ⟨g9, 1, none⟩ = some (.slice k9.p1 r.b.length k9.c1) ∧ (wM).cell? ⟨g9, 2, none⟩ = some (.slice k9.p2 r.c.length k9.c2) ∧ (wM).cell? ⟨g9, 3, none⟩ = some (.bool r.o) ∧ (wM).cell? ⟨g11, 0, none⟩ = some (.slice k11.p0 s.a.length k11.c0) ∧ (wM).cell? ⟨g11, 1, none⟩ = some (.slice k11.p1 s.b.length k11.c1) ∧ (wM).cell? ⟨g11, 2, none⟩ = some (.slice k11.p2 s.c.length k11.c2) ∧ (wM).cell? ⟨g11, 3, none⟩ = some (.bool s.o)) := Lib.hid (by first | exact cells2 HKM.out 1 0 rfl rfl | exact cells2 HKM.out 2 1 rfl rfl | exact cells2 HKM.out 3 2 rfl rfl); have HBMa : Hid (Below w.heap.size w (wM.alloc (.cells zRg 29))) := Lib.hid (HBM.out.alloc HBM.out.size (.cells zRg 29)); have HKMa : Hid (Bks (wM.alloc (.cells zRg 29)) ((wM.heap.size, 29, zRg) :: _)) := Lib.hid (HKM.out.push (below_one wM (.cells zRg 29)) (blk_new wM 29 zRg wM.heap.size rfl)); have HOMa : Hid (Ows (wM.alloc (.cells zRg 29)) _) := Lib.hid (HOM.out.later (below_one wM (.cells zRg 29))); have HBMb : Hid (Below w.heap.size w ((wM.alloc (.cells zRg 29)).alloc (.cells zRg 29))) := Lib.hid (HBMa.out.alloc HBMa.out.size (.cells zRg 29)); have HKMb : Hid (Bks ((wM.alloc (.cells zRg 29)).alloc (.cells zRg 29)) ((wM.heap.size + 1, 29, zRg) :: _)) := Lib.hid (HKMa.out.push (below_one (wM.alloc (.cells zRg 29)) (.cells zRg 29)) (blk_new (wM.alloc (.cells zRg 29)) 29 zRg (wM.heap.size + 1) (by simp))); have HOMb : Hid (Ows ((wM.alloc (.cells zRg 29)).alloc (.cells zRg 29)) _) := Lib.hid (HOMa.out.later (below_one (wM.alloc (.cells zRg 29)) (.cells zRg 29))); have HSMa : Hid (((wM.alloc (.cells zRg 29))).cell? ⟨g9, 0, none⟩ = some (.slice k9.p0 r.a.length k9.c0) ∧ ((wM.alloc (.cells zRg 29))).cell? ⟨g9, 1, none⟩ = some (.slice k9.p1 r.b.length k9.c1) ∧ ((wM.alloc (.cells zRg 29))).cell? ⟨g9, 2, none⟩ = some (.slice k9.p2 r.c.length k9.c2) ∧ ((wM.alloc (.cells zRg 29))).cell? ⟨g9, 3, none⟩ = some (.bool r.o) ∧ ((wM.alloc (.cells zRg 29))).cell? ⟨g11, 0, none⟩ = some (.slice k11.p0 s.a.length k11.c0) ∧ ((wM.alloc (.cells zRg 29))).cell? ⟨g11, 1, none⟩ = some (.slice k11.p1 s.b.length k11.c1) ∧ ((wM.alloc (.cells zRg 29))).cell? ⟨g11, 2, none⟩ = some (.slice k11.p2 s.c.length k11.c2) ∧ ((wM.alloc (.cells zRg 29))).cell? ⟨g11, 3, none⟩ = some (.bool s.o)) := Lib.hid (by first | exact cells2 HKMa.out 2 1 rfl rfl | exact cells2 HKMa.out 3 2 rfl rfl | exact cells2 HKMa.out 4 3 rfl rfl); have HSMb : Hid ((((wM.alloc (.cells zRg 29)).alloc (.cells zRg 29))).cell? ⟨g9, 0, none⟩ = some (.slice k9.p0 r.a.length k9.c0) ∧ (((wM.alloc (.cells zRg 29)).alloc (.cells zRg 29))).cell? ⟨g9, 1, none⟩ = some (.slice k9.p1 r.b.length k9.c1) ∧ (((wM.alloc (.cells zRg 29)).alloc (.cells zRg 29))).cell? ⟨g9, 2, none⟩ = some (.slice k9.p2 r.c.length k9.c2) ∧ (((wM.alloc (.cells zRg 29)).alloc (.cells zRg 29))).cell? ⟨g9, 3, none⟩ = some (.bool r.o) ∧ (((wM.alloc (.cells zRg 29)).alloc (.cells zRg 29))).cell? ⟨g11, 0, none⟩ = some (.slice k11.p0 s.a.length k11.c0) ∧ (((wM.alloc (.cells zRg 29)).alloc (.cells zRg 29))).cell? ⟨g11, 1, none⟩ = some (.slice k11.p1 s.b.length k11.c1) ∧ (((wM.alloc (.cells zRg 29)).alloc (.cells zRg 29))).cell? ⟨g11, 2, none⟩ = some (.slice k11.p2 s.c.length k11.c2) ∧ (((wM.alloc (.cells zRg 29)).alloc (.cells zRg 29))).cell? ⟨g11, 3, none⟩ = some (.bool s.o)) := Lib.hid (by first | exact cells2 HKMb.out 3 2 rfl rfl | exact cells2 HKMb.out 4 3 rfl rfl | exact cells2 HKMb.out 5 4 rfl rfl); skip) | (go_at_call 8; (with_reducible refine (HMin.out _ (HOAa.out.get 2 rfl) (HOAa.out.get 1 rfl)).mono ?_); rintro e wM ⟨kM, rfl, hq, bq⟩; have HBM := Lib.hid (then_ HBAa.out bq); have HKM := Lib.hid (HKAa.out.later bq); have HOM := Lib.hid (HOAa.out.push bq hq); have hsM := bq.size; (try simp at hsM); clear bq hq; have HTM : Hid (Two wM g9 g11 k9 k11 r s) := Lib.hid (by first | exact HKM.out.two 1 0 rfl rfl | exact HKM.out.two 2 1 rfl rfl | exact HKM.out.two 3 2 rfl rfl); (try (have HY0 : Hid (Blk wM _ 29 zRg) := Lib.hid (HKM.out.get 0 rfl); have y00 := HY0.out.cell 0 rfl; have y01 := HY0.out.cell 1 rfl; have y02 := HY0.out.cell 2 rfl; have y03 := HY0.out.cell 3 rfl; have e00 := HY0.out.free 0; have e01 := HY0.out.free 1; have e02 := HY0.out.free 2; have e03 := HY0.out.free 3)); (try (have HY1 : Hid (Blk wM _ 29 zRg) := Lib.hid (HKM.out.get 1 rfl); have y10 := HY1.out.cell 0 rfl; have y11 := HY1.out.cell 1 rfl; have y12 := HY1.out.cell 2 rfl; have y13 := HY1.out.cell 3 rfl; have e10 := HY1.out.free 0; have e11 := HY1.out.free 1; have e12 := HY1.out.free 2; have e13 := HY1.out.free 3)); (try (have HYa : Hid (Blk (wM.alloc (.cells zRg 29)) _ 29 zRg) := Lib.hid ((HKM.out.get 0 rfl).alloc _); have ya0 := HYa.out.cell 0 rfl; have ea0 := HYa.out.free 0; have ya1 := HYa.out.cell 1 rfl; have ea1 := HYa.out.free 1; have ya2 := HYa.out.cell 2 rfl; have ea2 := HYa.out.free 2; have ya3 := HYa.out.cell 3 rfl; have ea3 := HYa.out.free 3)); (try (have HYb : Hid (Blk (wM.alloc (.cells (rgc kA both) 29)) _ 29 zRg) := Lib.hid ((HKM.out.get 0 rfl).alloc _); have yb0 := HYb.out.cell 0 rfl; have eb0 := HYb.out.free 0; have yb1 := HYb.out.cell 1 rfl; have eb1 := HYb.out.free 1; have yb2 := HYb.out.cell 2 rfl; have eb2 := HYb.out.free 2; have yb3 := HYb.out.cell 3 rfl; have eb3 := HYb.out.free 3)); (try (have _h : Hid (Blk wM _ 29 zRg) := Lib.hid (HKM.out.get 0 rfl); (try (have HYc := Lib.hid (nxt1 HKM.out kA both); have yc0 := HYc.out.cell 0 rfl; have ec0 := HYc.out.free 0; have yc1 := HYc.out.cell 1 rfl; have ec1 := HYc.out.free 1; have yc2 := HYc.out.cell 2 rfl; have ec2 := HYc.out.free 2; have yc3 := HYc.out.cell 3 rfl; have ec3 := HYc.out.free 3)); clear _h)); (try (have _h : Hid (Blk wM _ 29 zRg) := Lib.hid (HKM.out.get 1 rfl); (try (have HYd := Lib.hid (nxt2 HKM.out kA both (by omega)); have yd0 := HYd.out.cell 0 rfl; have ed0 := HYd.out.free 0; have yd1 := HYd.out.cell 1 rfl; have ed1 := HYd.out.free 1; have yd2 := HYd.out.cell 2 rfl; have ed2 := HYd.out.free 2; have yd3 := HYd.out.cell 3 rfl; have ed3 := HYd.out.free 3)); (try (have HYe := Lib.hid (nxt3 HKM.out kA both (by omega)); have ye0 := HYe.out.cell 0 rfl; have ee0 := HYe.out.free 0; have ye1 := HYe.out.cell 1 rfl; have ee1 := HYe.out.free 1; have ye2 := HYe.out.cell 2 rfl; have ee2 := HYe.out.free 2; have ye3 := HYe.out.cell 3 rfl; have ee3 := HYe.out.free 3)); clear _h)); have HSM : Hid ((wM).cell? ⟨g9, 0, none⟩ = some (.slice k9.p0 r.a.length k9.c0) ∧ (wM).cell? ⟨g9, 1, none⟩ = some (.slice k9.p1 r.b.length k9.c1) ∧ (wM).cell? ⟨g9, 2, none⟩ = some (.slice k9.p2 r.c.length k9.c2) ∧ (wM).cell? ⟨g9, 3, none⟩ = some (.bool r.o) ∧ (wM).cell? ⟨g11, 0, none⟩ = some (.slice k11.p0 s.a.length k11.c0) ∧ (wM).cell? ⟨g11, 1, none⟩ = some (.slice k11.p1 s.b.length k11.c1) ∧ (wM).cell? ⟨g11, 2, none⟩ = some (.slice k11.p2 s.c.length k11.c2) ∧ (wM).cell? ⟨g11, 3, none⟩ = some (.bool s.o)) := Lib.hid (by first | exact cells2 HKM.out 1 0 rfl rfl | exact cells2 HKM.out 2 1 rfl rfl | exact cells2 HKM.out 3 2 rfl rfl); have HBMa : Hid (Below w.heap.size w (wM.alloc (.cells zRg 29))) := Lib.hid (HBM.out.alloc HBM.out.size (.cells zRg 29)); have HKMa : Hid (Bks (wM.alloc (.cells zRg 29)) ((wM.heap.size, 29, zRg) :: _)) := Lib.hid (HKM.out.push (below_one wM (.cells zRg 29)) (blk_new wM 29 zRg wM.heap.size rfl)); have HOMa : Hid (Ows (wM.alloc (.cells zRg 29)) _) := Lib.hid (HOM.out.later (below_one wM (.cells zRg 29))); have HBMb : Hid (Below w.heap.size w ((wM.alloc (.cells zRg 29)).alloc (.cells zRg 29))) := Lib.hid (HBMa.out.alloc HBMa.out.size (.cells zRg 29)); have HKMb : Hid (Bks ((wM.alloc (.cells zRg 29)).alloc (.cells zRg 29)) ((wM.heap.size + 1, 29, zRg) :: _)) := Lib.hid (HKMa.out.push (below_one (wM.alloc (.cells zRg 29)) (.cells zRg 29)) (blk_new (wM.alloc (.cells zRg 29)) 29 zRg (wM.heap.size + 1) (by simp))); have HOMb : Hid (Ows ((wM.alloc (.cells zRg 29)).alloc (.cells zRg 29)) _) := Lib.hid (HOMa.out.later (below_one (wM.alloc (.cells zRg 29)) (.cells zRg 29))); have HSMa : Hid (((wM.alloc (.cells zRg 29))).cell? ⟨g9, 0, none⟩ = some (.slice k9.p0 r.a.length k9.c0) ∧ ((wM.alloc (.cells zRg 29))).cell? ⟨g9, 1, none⟩ = some (.slice k9.p1 r.b.length k9.c1) ∧ ((wM.alloc (.cells zRg 29))).cell? ⟨g9, 2, none⟩ = some (.slice k9.p2 r.c.length k9.c2) ∧ ((wM.alloc (.cells zRg 29))).cell? ⟨g9, 3, none⟩ = some (.bool r.o) ∧ ((wM.alloc (.cells zRg 29))).cell? ⟨g11, 0, none⟩ = some (.slice k11.p0 s.a.length k11.c0) ∧ ((wM.alloc (.cells zRg 29))).cell? ⟨g11, 1, none⟩ = some (.slice k11.p1 s.b.length k11.c1) ∧ ((wM.alloc (.cells zRg 29))).cell? ⟨g11, 2, none⟩ = some (.slice k11.p2 s.c.length k11.c2) ∧ ((wM.alloc (.cells zRg 29))).cell? ⟨g11, 3, none⟩ = some (.bool s.o)) := Lib.hid (by first | exact cells2 HKMa.out 2 1 rfl rfl | exact cells2 HKMa.out 3 2 rfl rfl | exact cells2 HKMa.out 4 3 rfl rfl); have HSMb : Hid ((((wM.alloc (.cells zRg 29)).alloc (.cells zRg 29))).cell? ⟨g9, 0, none⟩ = some (.slice k9.p0 r.a.length k9.c0) ∧ (((wM.alloc (.cells zRg 29)).alloc (.cells zRg 29))).cell? ⟨g9, 1, none⟩ = some (.slice k9.p1 r.b.length k9.c1) ∧ (((wM.alloc (.cells zRg 29)).alloc (.cells zRg 29))).cell? ⟨g9, 2, none⟩ = some (.slice k9.p2 r.c.length k9.c2) ∧ (((wM.alloc (.cells zRg 29)).alloc (.cells zRg 29))).cell? ⟨g9, 3, none⟩ = some (.bool r.o) ∧ (((wM.alloc (.cells zRg 29)).alloc (.cells zRg 29))).cell? ⟨g11, 0, none⟩ = some (.slice k11.p0 s.a.length k11.c0) ∧ (((wM.alloc (.cells zRg 29)).alloc (.cells zRg 29))).cell? ⟨g11, 1, none⟩ = some (.slice k11.p1 s.b.length k11.c1) ∧ (((wM.alloc (.cells zRg 29)).alloc (.cells zRg 29))).cell? ⟨g11, 2, none⟩ = some (.slice k11.p2 s.c.length k11.c2) ∧ (((wM.alloc (.cells zRg 29)).alloc (.cells zRg 29))).cell? ⟨g11, 3, none⟩ = some (.bool s.o)) := Lib.hid (by first | exact cells2 HKMb.out 3 2 rfl rfl | exact cells2 HKMb.out 4 3 rfl rfl | exact cells2 HKMb.out 5 4 rfl rfl); skip) | (go_at_call 8; (with_reducible refine (HMin.out _ (HOAb.out.get 2 rfl) (HOAb.out.get 1 rfl)).mono ?_); rintro e wM ⟨kM, rfl, hq, bq⟩; have HBM := Lib.hid (then_ HBAb.out bq); have HKM := Lib.hid (HKAb.out.later bq); have HOM := Lib.hid (HOAb.out.push bq hq); have hsM := bq.size; (try simp at hsM); clear bq hq; have HTM : Hid (Two wM g9 g11 k9 k11 r s) := Lib.hid (by first | exact HKM.out.two 1 0 rfl rfl | exact HKM.out.two 2 1 rfl rfl | exact HKM.out.two 3 2 rfl rfl); (try (have HY0 : Hid (Blk wM _ 29 zRg) := Lib.hid (HKM.out.get 0 rfl); have y00 := HY0.out.cell 0 rfl; have y01 := HY0.out.cell 1 rfl; have y02 := HY0.out.cell 2 rfl; have y03 := HY0.out.cell 3 rfl; have e00 := HY0.out.free 0; have e01 := HY0.out.free 1; have e02 := HY0.out.free 2; have e03 := HY0.out.free 3)); (try (have HY1 : Hid (Blk wM _ 29 zRg) := Lib.hid (HKM.out.get 1 rfl); have y10 := HY1.out.cell 0 rfl; have y11 := HY1.out.cell 1 rfl; have y12 := HY1.out.cell 2 rfl; have y13 := HY1.out.cell 3 rfl; have e10 := HY1.out.free 0; have e11 := HY1.out.free 1; have e12 := HY1.out.free 2; have e13 := HY1.out.free 3)); (try (have HYa : Hid (Blk (wM.alloc (.cells zRg 29)) _ 29 zRg) := Lib.hid ((HKM.out.get 0 rfl).alloc _); have ya0 := HYa.out.cell 0 rfl; have ea0 := HYa.out.free 0; have ya1 := HYa.out.cell 1 rfl; have ea1 := HYa.out.free 1; have ya2 := HYa.out.cell 2 rfl; have ea2 := HYa.out.free 2; have ya3 := HYa.out.cell 3 rfl; have ea3 := HYa.out.free 3)); (try (have HYb : Hid (Blk (wM.alloc (.cells (rgc kA both) 29)) _ 29 zRg) := Lib.hid ((HKM.out.get 0 rfl).alloc _); have yb0 := HYb.out.cell 0 rfl; have eb0 := HYb.out.free 0; have yb1 := HYb.out.cell 1 rfl; have eb1 := HYb.out.free 1; have yb2 := HYb.out.cell 2 rfl; have eb2 := HYb.out.free 2; have yb3 := HYb.out.cell 3 rfl; have eb3 := HYb.out.free 3)); (try (have _h : Hid (Blk wM _ 29 zRg) := Lib.hid (HKM.out.get 0 rfl); (try (have HYc := Lib.hid (nxt1 HKM.out kA both); have yc0 := HYc.out.cell 0 rfl; have ec0 := HYc.out.free 0; have yc1 := HYc.out.cell 1 rfl; have ec1 := HYc.out.free 1; have yc2 := HYc.out.cell 2 rfl; have ec2 := HYc.out.free 2; have yc3 := HYc.out.cell 3 rfl; have ec3 := HYc.out.free 3)); clear _h)); (try (have _h : Hid (Blk wM _ 29 zRg) := Lib.hid (HKM.out.get 1 rfl); (try (have HYd := Lib.hid (nxt2 HKM.out kA both (by omega)); have yd0 := HYd.out.cell 0 rfl; have ed0 := HYd.out.free 0; have yd1 := HYd.out.cell 1 rfl; have ed1 := HYd.out.free 1; have yd2 := HYd.out.cell 2 rfl; have ed2 := HYd.out.free 2; have yd3 := HYd.out.cell 3 rfl; have ed3 := HYd.out.free 3)); (try (have HYe := Lib.hid (nxt3 HKM.out kA both (by omega)); have ye0 := HYe.out.cell 0 rfl; have ee0 := HYe.out.free 0; have ye1 := HYe.out.cell 1 rfl; have ee1 := HYe.out.free 1; have ye2 := HYe.out.cell 2 rfl; have ee2 := HYe.out.free 2; have ye3 := HYe.out.cell 3 rfl; have ee3 := HYe.out.free 3)); clear _h)); have HSM : Hid ((wM).cell? ⟨g9, 0, none⟩ = some (.slice k9.p0 r.a.length k9.c0) ∧ (wM).cell? ⟨g9, 1, none⟩ = some (.slice k9.p1 r.b.length k9.c1) ∧ (wM).cell? ⟨g9, 2, none⟩ = some (.slice k9.p2 r.c.length k9.c2) ∧ (wM).cell? ⟨g9, 3, none⟩ = some (.bool r.o) ∧ (wM).cell? ⟨g11, 0, none⟩ = some (.slice k11.p0 s.a.length k11.c0) ∧ (wM).cell? ⟨g11, 1, none⟩ = some (.slice k11.p1 s.b.length k11.c1) ∧ (wM).cell? ⟨g11, 2, none⟩ = some (.slice k11.p2 s.c.length k11.c2) ∧ (wM).cell? ⟨g11, 3, none⟩ = some (.bool s.o)) := Lib.hid (by first | exact cells2 HKM.out 1 0 rfl rfl | exact cells2 HKM.out 2 1 rfl rfl | exact cells2 HKM.out 3 2 rfl rfl); have HBMa : Hid (Below w.heap.size w (wM.alloc (.cells zRg 29))) := Lib.hid (HBM.out.alloc HBM.out.size (.cells zRg 29)); have HKMa : Hid (Bks (wM.alloc (.cells zRg 29)) ((wM.heap.size, 29, zRg) :: _)) := Lib.hid (HKM.out.push (below_one wM (.cells zRg 29)) (blk_new wM 29 zRg wM.heap.size rfl)); have HOMa : Hid (Ows (wM.alloc (.cells zRg 29)) _) := Lib.hid (HOM.out.later (below_one wM (.cells zRg 29))); have HBMb : Hid (Below w.heap.size w ((wM.alloc (.cells zRg 29)).alloc (.cells zRg 29))) := Lib.hid (HBMa.out.alloc HBMa.out.size (.cells zRg 29)); have HKMb : Hid (Bks ((wM.alloc (.cells zRg 29)).alloc (.cells zRg 29)) ((wM.heap.size + 1, 29, zRg) :: _)) := Lib.hid (HKMa.out.push (below_one (wM.alloc (.cells zRg 29)) (.cells zRg 29)) (blk_new (wM.alloc (.cells zRg 29)) 29 zRg (wM.heap.size + 1) (by simp))); have HOMb : Hid (Ows ((wM.alloc (.cells zRg 29)).alloc (.cells zRg 29)) _) := Lib.hid (HOMa.out.later (below_one (wM.alloc (.cells zRg 29)) (.cells zRg 29))); have HSMa : Hid (((wM.alloc (.cells zRg 29))).cell? ⟨g9, 0, none⟩ = some (.slice k9.p0 r.a.length k9.c0) ∧ ((wM.alloc (.cells zRg 29))).cell? ⟨g9, 1, none⟩ = some (.slice k9.p1 r.b.length k9.c1) ∧ ((wM.alloc (.cells zRg 29))).cell? ⟨g9, 2, none⟩ = some (.slice k9.p2 r.c.length k9.c2) ∧ ((wM.alloc (.cells zRg 29))).cell? ⟨g9, 3, none⟩ = some (.bool r.o) ∧ ((wM.alloc (.cells zRg 29))).cell? ⟨g11, 0, none⟩ = some (.slice k11.p0 s.a.length k11.c0) ∧ ((wM.alloc (.cells zRg 29))).cell? ⟨g11, 1, none⟩ = some (.slice k11.p1 s.b.length k11.c1) ∧ ((wM.alloc (.cells zRg 29))).cell? ⟨g11, 2, none⟩ = some (.slice k11.p2 s.c.length k11.c2) ∧ ((wM.alloc (.cells zRg 29))).cell? ⟨g11, 3, none⟩ = some (.bool s.o)) := Lib.hid (by first | exact cells2 HKMa.out 2 1 rfl rfl | exact cells2 HKMa.out 3 2 rfl rfl | exact cells2 HKMa.out 4 3 rfl rfl); have HSMb : Hid ((((wM.alloc (.cells zRg 29)).alloc (.cells zRg 29))).cell? ⟨g9, 0, none⟩ = some (.slice k9.p0 r.a.length k9.c0) ∧ (((wM.alloc (.cells zRg 29)).alloc (.cells zRg 29))).cell? ⟨g9, 1, none⟩ = some (.slice k9.p1 r.b.length k9.c1) ∧ (((wM.alloc (.cells zRg 29)).alloc (.cells zRg 29))).cell? ⟨g9, 2, none⟩ = some (.slice k9.p2 r.c.length k9.c2) ∧ (((wM.alloc (.cells zRg 29)).alloc (.cells zRg 29))).cell? ⟨g9, 3, none⟩ = some (.bool r.o) ∧ (((wM.alloc (.cells zRg 29)).alloc (.cells zRg 29))).cell? ⟨g11, 0, none⟩ = some (.slice k11.p0 s.a.length k11.c0) ∧ (((wM.alloc (.cells zRg 29)).alloc (.cells zRg 29))).cell? ⟨g11, 1, none⟩ = some (.slice k11.p1 s.b.length k11.c1) ∧ (((wM.alloc (.cells zRg 29)).alloc (.cells zRg 29))).cell? ⟨g11, 2, none⟩ = some (.slice k11.p2 s.c.length k11.c2) ∧ (((wM.alloc (.cells zRg 29)).alloc (.cells zRg 29))).cell? ⟨g11, 3, none⟩ = some (.bool s.o)) := Lib.hid (by first | exact cells2 HKMb.out 3 2 rfl rfl | exact cells2 HKMb.out 4 3 rfl rfl | exact cells2 HKMb.out 5 4 rfl rfl); skip))
    all_goals (try go_wp2_with fail)
    all_goals go_meet
    all_goals (subst hboth; subst hless)
    all_goals refine ⟨_, _, kA, kM, rfl, rfl, Lib.hid ?_, Lib.hid (Bks.cons ?_ (Bks.cons ?_ (Bks.cons ?_ (Bks.cons ?_ (Bks.cons ?_ (Bks.nil _)))))), Lib.hid ?_⟩
    all_goals (have G0 := HKM.out.get 0 rfl; have G1 := HKM.out.get 1 rfl; have G2 := HKM.out.get 2 rfl; (try have G3 := HKM.out.get 3 rfl); (try have G4 := HKM.out.get 4 rfl))
    all_goals (repeat' first
      | (with_reducible exact HBM.out)
      | (with_reducible exact HOM.out)
      | (with_reducible exact G0)
      | (with_reducible exact G1)
      | (with_reducible exact G2)
      | (with_reducible exact G3)
      | (with_reducible exact G4)
      | (with_reducible exact Blk.new _ _ _)
      | ((with_reducible refine blk_new _ _ _ _ ?_); simp; done)
      | (with_reducible refine bAl ?_ _)
      | (with_reducible refine bPut ?_ _ _ (by omega))
      | (with_reducible refine Ows.al ?_ _)
      | (with_reducible refine Ows.put ?_ (cs := zRg) ?_ _ _)
      | (with_reducible refine blkC ?_ _ _)
      | (with_reducible refine Blk.alloc ?_ _)
      | (with_reducible refine elseC ?_ _ _ (by omega))
      | fail)
  case rest =>
    obtain ⟨J13, J14, k13, k14, rfl, rfl, HB, HK, HO⟩ := hcut
    have HLa := Lib.hid (HLr.out.and HLs.out)
    have HLm := Lib.hid (HLr.out.minus HLs.out)
    have HWa := Lib.hid (HWr.out.and HWs.out)
    have HWm := Lib.hid (HWr.out.minus HWs.out)
    have H9 := Lib.hid (fun W (a : OwnR W k9 r) => has_any k9 r x W (a.rg HLr.out (by omega)))
    have H11 := Lib.hid (fun W (a : OwnR W k11 s) => has_any k11 s x W (a.rg HLs.out (by omega)))
    have H13 := Lib.hid (fun W (a : OwnR W k13 (andR r s)) => has_any k13 (andR r s) x W (a.rg HLa.out (by omega)))
    have H14 := Lib.hid (fun W (a : OwnR W k14 (minusR r s)) => has_any k14 (minusR r s) x W (a.rg HLm.out (by omega)))
    rw [has_and HWr.out HWs.out x] at H13
    rw [has_minus HWr.out HWs.out HX.out.ok] at H14
    have HW1 := Lib.hid (fun W (a : OwnR W k9 r) (b : OwnR W k11 s) => within_any k9 k11 r s 145 145 W (a.rg HLr.out (by omega)) (b.rg HLs.out (by omega)) HLr.out HLs.out (by omega))
    rw [show withinR r s = emptyR (minusR r s) from rfl] at HW1
    have HE := Lib.hid (fun W (a : OwnR W k14 (minusR r s)) => empty_any k14 (minusR r s) W (a.rg HLm.out (by omega)))
    generalize emptyR (minusR r s) = em at HW1 HE
    have HW2 := Lib.hid (fun W (a : OwnR W k13 (andR r s)) (b : OwnR W k9 r) => within_any k13 k9 (andR r s) r _ 145 W (a.rg HLa.out (by omega)) (b.rg HLr.out (by omega)) HLa.out HLr.out (by omega))
    rw [(within_iff HWa.out HWr.out).2 (fun y hy h => by rw [has_and HWr.out HWs.out] at h; simp at h; exact h.1)] at HW2
    have HW3 := Lib.hid (fun W (a : OwnR W k13 (andR r s)) (b : OwnR W k11 s) => within_any k13 k11 (andR r s) s _ 145 W (a.rg HLa.out (by omega)) (b.rg HLs.out (by omega)) HLa.out HLs.out (by omega))
    rw [(within_iff HWa.out HWs.out).2 (fun y hy h => by rw [has_and HWr.out HWs.out] at h; simp at h; exact h.2)] at HW3
    have HW4 := Lib.hid (fun W (a : OwnR W k14 (minusR r s)) (b : OwnR W k9 r) => within_any k14 k9 (minusR r s) r _ 145 W (a.rg HLm.out (by omega)) (b.rg HLr.out (by omega)) HLm.out HLr.out (by omega))
    rw [(within_iff HWm.out HWr.out).2 (fun y hy h => by rw [has_minus HWr.out HWs.out hy] at h; simp at h; exact h.1)] at HW4
    have HAm := Lib.hid (fun W (a : OwnR W k14 (minusR r s)) (b : OwnR W k11 s) => and_o k14 k11 (minusR r s) s _ 145 W a b HLm.out HLs.out (by omega))
    have HEm := Lib.hid (fun W k (a : OwnR W k (andR (minusR r s) s)) => empty_any k (andR (minusR r s) s) W (a.rg (HLm.out.and HLs.out) (by omega)))
    rw [(empty_iff (HWm.out.and HWs.out)).2 (fun y hy => by rw [has_and HWm.out HWs.out, has_minus HWr.out HWs.out hy]; cases hasR r y <;> cases hasR s y <;> rfl)] at HEm
    go_wp2_with fail
    go_cut [105] from 46 to 105 (fun t wq => t = .bool false ∧ Hid (Below w.heap.size w wq) ∧ Hid (Bks wq [(J14, 29, rgc k14 (minusR r s)), (J13, 29, rgc k13 (andR r s)), (g11, 29, rgc k11 s), (g9, 29, rgc k9 r), (w.heap.size, 25, vlc x)]) ∧ Hid (Ows wq [(k14, minusR r s), (k13, andR r s), (k11, s), (k9, r)]))
    case first =>
      have HB0 : Hid (Below w.heap.size w wc.drew) := Lib.hid HB.out.drew
      have HK0 : Hid (Bks wc.drew _) := Lib.hid (HK.out.later (Below.refl _ wc).drew)
      have HO0 : Hid (Ows wc.drew _) := Lib.hid (HO.out.later (Below.refl _ wc).drew)
      clear HB HK HO
      cases hr : hasR r x
      · as_aux_lemma =>
        simp only [hr, Bool.false_and, Bool.true_and] at H9 H13 H14
        refine wp_region_held_drew (S := (fun w9 => w9.cell? ⟨J14, 0, none⟩ = some (.slice k14.p0 (minusR r s).a.length k14.c0) ∧ w9.cell? ⟨J14, 1, none⟩ = some (.slice k14.p1 (minusR r s).b.length k14.c1) ∧ w9.cell? ⟨J14, 2, none⟩ = some (.slice k14.p2 (minusR r s).c.length k14.c2) ∧ w9.cell? ⟨J14, 3, none⟩ = some (.bool (minusR r s).o) ∧ w9.cell? ⟨J13, 0, none⟩ = some (.slice k13.p0 (andR r s).a.length k13.c0) ∧ w9.cell? ⟨J13, 1, none⟩ = some (.slice k13.p1 (andR r s).b.length k13.c1) ∧ w9.cell? ⟨J13, 2, none⟩ = some (.slice k13.p2 (andR r s).c.length k13.c2) ∧ w9.cell? ⟨J13, 3, none⟩ = some (.bool (andR r s).o) ∧ w9.cell? ⟨g11, 0, none⟩ = some (.slice k11.p0 s.a.length k11.c0) ∧ w9.cell? ⟨g11, 1, none⟩ = some (.slice k11.p1 s.b.length k11.c1) ∧ w9.cell? ⟨g11, 2, none⟩ = some (.slice k11.p2 s.c.length k11.c2) ∧ w9.cell? ⟨g11, 3, none⟩ = some (.bool s.o) ∧ w9.cell? ⟨g9, 0, none⟩ = some (.slice k9.p0 r.a.length k9.c0) ∧ w9.cell? ⟨g9, 1, none⟩ = some (.slice k9.p1 r.b.length k9.c1) ∧ w9.cell? ⟨g9, 2, none⟩ = some (.slice k9.p2 r.c.length k9.c2) ∧ w9.cell? ⟨g9, 3, none⟩ = some (.bool r.o) ∧ w9.cell? ⟨w.heap.size, 0, none⟩ = some (.int .i64 x.k) ∧ w9.cell? ⟨w.heap.size, 1, none⟩ = some (.int .i64 x.n) ∧ w9.cell? ⟨w.heap.size, 2, none⟩ = some (.string x.s) ∧ w9.cell? ⟨w.heap.size, 3, none⟩ = some (.bool x.b))) (by kernel_rfl) ?_ (fun hHeld => ?_)
        · exact cells5 HK0.out
        refine held_take 0 (oi := { dst := some 46, op := Op.load 29 (Operand.tmp 13), type := 29, pos := "outright.go:59", after := #[], guard := none }) (v := ?_) rfl (by kernel_rfl) (by kernel_rfl) (by kernel_rfl) (fun _ _ _ h => h) (by rfl) ?_ hHeld ?_
        rotate_left
        · intro w9 hS9; (try dsimp only at hS9); go_simp; try with_reducible rfl
        try simp only [Act.put, List.setIfInBounds_toArray, List.set_cons_zero, List.set_cons_succ]
        refine held_take 1 (oi := { dst := some 47, op := Op.load 25 (Operand.tmp 7), type := 25, pos := "outright.go:59", after := #[], guard := none }) (v := ?_) rfl (by kernel_rfl) (by kernel_rfl) (by kernel_rfl) (fun _ _ _ h => h) (by rfl) ?_ hHeld ?_
        rotate_left
        · intro w9 hS9; (try dsimp only at hS9); go_simp; try with_reducible rfl
        try simp only [Act.put, List.setIfInBounds_toArray, List.set_cons_zero, List.set_cons_succ]
        refine held_take 3 (oi := { dst := some 49, op := Op.load 29 (Operand.tmp 9), type := 29, pos := "outright.go:59", after := #[], guard := none }) (v := ?_) rfl (by kernel_rfl) (by kernel_rfl) (by kernel_rfl) (fun _ _ _ h => h) (by rfl) ?_ hHeld ?_
        rotate_left
        · intro w9 hS9; (try dsimp only at hS9); go_simp; try with_reducible rfl
        try simp only [Act.put, List.setIfInBounds_toArray, List.set_cons_zero, List.set_cons_succ]
        refine held_take 4 (oi := { dst := some 50, op := Op.load 25 (Operand.tmp 7), type := 25, pos := "outright.go:59", after := #[], guard := none }) (v := ?_) rfl (by kernel_rfl) (by kernel_rfl) (by kernel_rfl) (fun _ _ _ h => h) (by rfl) ?_ hHeld ?_
        rotate_left
        · intro w9 hS9; (try dsimp only at hS9); go_simp; try with_reducible rfl
        try simp only [Act.put, List.setIfInBounds_toArray, List.set_cons_zero, List.set_cons_succ]
        refine wpAnyH_ready (rs := [2]) (by kernel_rfl) (by simp) ?_
        refine AllReadyH.cons (o := { dst := some 48, op := Op.call { callee := Callee.value (Operand.func 9), args := #[Operand.tmp 46, Operand.tmp 47], argTypes := #[29, 25] }, type := 4, pos := "outright.go:59", after := #[{ on := 0, ground := Ground.data }, { on := 1, ground := Ground.data }], guard := none }) rfl (fun K hK => ?_) AllReadyH.nil
        go_simp
        with_reducible refine (H13.out _ (HO0.out.get 1 rfl)).mono ?_
        rintro e wn1 ⟨rfl, b9⟩
        have HBn1 := Lib.hid (then_ HB0.out b9)
        have HKn1 := Lib.hid (HK0.out.later b9)
        have HOn1 := Lib.hid (HO0.out.later b9)
        clear b9
        try go_wp2_with fail
        clear hHeld
        refine hK.out _ _ ?_ (fun hHeld => ?_)
        · exact cells5 HKn1.out
        clear hK K
        try simp only [Act.put, List.setIfInBounds_toArray, List.set_cons_zero, List.set_cons_succ]
        refine wpAnyH_ready (rs := [5]) (by kernel_rfl) (by simp) ?_
        refine AllReadyH.cons (o := { dst := some 51, op := Op.call { callee := Callee.value (Operand.func 9), args := #[Operand.tmp 49, Operand.tmp 50], argTypes := #[29, 25] }, type := 4, pos := "outright.go:59", after := #[{ on := 3, ground := Ground.data }, { on := 4, ground := Ground.data }, { on := 2, ground := Ground.chain }], guard := none }) rfl (fun K hK => ?_) AllReadyH.nil
        go_simp
        with_reducible refine (H9.out _ (HOn1.out.get 3 rfl)).mono ?_
        rintro e wn2 ⟨rfl, b9⟩
        have HBn2 := Lib.hid (then_ HBn1.out b9)
        have HKn2 := Lib.hid (HKn1.out.later b9)
        have HOn2 := Lib.hid (HOn1.out.later b9)
        clear b9
        try go_wp2_with fail
        clear hHeld
        refine hK.out _ _ ?_ (fun hHeld => ?_)
        · exact cells5 HKn2.out
        clear hK K
        try simp only [Act.put, List.setIfInBounds_toArray, List.set_cons_zero, List.set_cons_succ]
        refine held_take 6 (oi := { dst := some 52, op := Op.move (Operand.tmp 51), type := 4, pos := "outright.go:59", after := #[{ on := 5, ground := Ground.data }, { on := 5, ground := Ground.chain }], guard := none }) (v := ?_) rfl (by kernel_rfl) (by kernel_rfl) (by kernel_rfl) (fun _ _ _ h => h) (by rfl) ?_ hHeld ?_
        rotate_left
        · intro w9 hS9; (try dsimp only at hS9); go_simp; try with_reducible rfl
        try simp only [Act.put, List.setIfInBounds_toArray, List.set_cons_zero, List.set_cons_succ]
        refine held_skip 7 (oi := { dst := some 53, op := Op.load 29 (Operand.tmp 11), type := 29, pos := "outright.go:59", after := #[{ on := 6, ground := Ground.guard }], guard := some (6, true) }) rfl (by kernel_rfl) (by kernel_rfl) (by kernel_rfl) (fun _ _ _ h => h) (by rfl) hHeld ?_
        try simp only [Act.put, List.setIfInBounds_toArray, List.set_cons_zero, List.set_cons_succ]
        refine held_skip 8 (oi := { dst := some 54, op := Op.load 25 (Operand.tmp 7), type := 25, pos := "outright.go:59", after := #[{ on := 6, ground := Ground.guard }], guard := some (6, true) }) rfl (by kernel_rfl) (by kernel_rfl) (by kernel_rfl) (fun _ _ _ h => h) (by rfl) hHeld ?_
        try simp only [Act.put, List.setIfInBounds_toArray, List.set_cons_zero, List.set_cons_succ]
        refine held_skip 9 (oi := { dst := some 55, op := Op.call { callee := Callee.value (Operand.func 9), args := #[Operand.tmp 53, Operand.tmp 54], argTypes := #[29, 25] }, type := 4, pos := "outright.go:59", after := #[{ on := 7, ground := Ground.data }, { on := 8, ground := Ground.data }, { on := 6, ground := Ground.chain }, { on := 6, ground := Ground.guard }], guard := some (6, true) }) rfl (by kernel_rfl) (by kernel_rfl) (by kernel_rfl) (fun _ _ _ h => h) (by rfl) hHeld ?_
        try simp only [Act.put, List.setIfInBounds_toArray, List.set_cons_zero, List.set_cons_succ]
        refine held_take 10 (oi := { dst := some 56, op := Op.pick (Operand.tmp 52) (Operand.tmp 55) (Operand.const (Value.bool false)), type := 4, pos := "outright.go:59", after := #[{ on := 6, ground := Ground.data }, { on := 9, ground := Ground.data }], guard := none }) (v := ?_) rfl (by kernel_rfl) (by kernel_rfl) (by kernel_rfl) (fun _ _ _ h => h) (by rfl) ?_ hHeld ?_
        rotate_left
        · intro w9 hS9; (try dsimp only at hS9); go_simp; try with_reducible rfl
        try simp only [Act.put, List.setIfInBounds_toArray, List.set_cons_zero, List.set_cons_succ]
        refine held_take 11 (oi := { dst := some 57, op := Op.binOp BinOp.neq 4 (Operand.tmp 48) (Operand.tmp 56) 4, type := 4, pos := "outright.go:59", after := #[{ on := 2, ground := Ground.data }, { on := 10, ground := Ground.data }], guard := none }) (v := ?_) rfl (by kernel_rfl) (by kernel_rfl) (by kernel_rfl) (fun _ _ _ h => h) (by rfl) ?_ hHeld ?_
        rotate_left
        · intro w9 hS9; (try dsimp only at hS9); go_simp; try with_reducible rfl
        try simp only [Act.put, List.setIfInBounds_toArray, List.set_cons_zero, List.set_cons_succ]
        refine held_take 12 (oi := { dst := some 58, op := Op.move (Operand.tmp 57), type := 4, pos := "outright.go:59", after := #[{ on := 11, ground := Ground.data }, { on := 9, ground := Ground.chain }], guard := none }) (v := ?_) rfl (by kernel_rfl) (by kernel_rfl) (by kernel_rfl) (fun _ _ _ h => h) (by rfl) ?_ hHeld ?_
        rotate_left
        · intro w9 hS9; (try dsimp only at hS9); go_simp; try with_reducible rfl
        try simp only [Act.put, List.setIfInBounds_toArray, List.set_cons_zero, List.set_cons_succ]
        refine held_take 13 (oi := { dst := some 59, op := Op.load 29 (Operand.tmp 14), type := 29, pos := "outright.go:59", after := #[{ on := 12, ground := Ground.guard }], guard := some (12, false) }) (v := ?_) rfl (by kernel_rfl) (by kernel_rfl) (by kernel_rfl) (fun _ _ _ h => h) (by rfl) ?_ hHeld ?_
        rotate_left
        · intro w9 hS9; (try dsimp only at hS9); go_simp; try with_reducible rfl
        try simp only [Act.put, List.setIfInBounds_toArray, List.set_cons_zero, List.set_cons_succ]
        refine held_take 14 (oi := { dst := some 60, op := Op.load 25 (Operand.tmp 7), type := 25, pos := "outright.go:59", after := #[{ on := 12, ground := Ground.guard }], guard := some (12, false) }) (v := ?_) rfl (by kernel_rfl) (by kernel_rfl) (by kernel_rfl) (fun _ _ _ h => h) (by rfl) ?_ hHeld ?_
        rotate_left
        · intro w9 hS9; (try dsimp only at hS9); go_simp; try with_reducible rfl
        try simp only [Act.put, List.setIfInBounds_toArray, List.set_cons_zero, List.set_cons_succ]
        refine held_take 16 (oi := { dst := some 62, op := Op.load 29 (Operand.tmp 9), type := 29, pos := "outright.go:59", after := #[{ on := 12, ground := Ground.guard }], guard := some (12, false) }) (v := ?_) rfl (by kernel_rfl) (by kernel_rfl) (by kernel_rfl) (fun _ _ _ h => h) (by rfl) ?_ hHeld ?_
        rotate_left
        · intro w9 hS9; (try dsimp only at hS9); go_simp; try with_reducible rfl
        try simp only [Act.put, List.setIfInBounds_toArray, List.set_cons_zero, List.set_cons_succ]
        refine held_take 17 (oi := { dst := some 63, op := Op.load 25 (Operand.tmp 7), type := 25, pos := "outright.go:59", after := #[{ on := 12, ground := Ground.guard }], guard := some (12, false) }) (v := ?_) rfl (by kernel_rfl) (by kernel_rfl) (by kernel_rfl) (fun _ _ _ h => h) (by rfl) ?_ hHeld ?_
        rotate_left
        · intro w9 hS9; (try dsimp only at hS9); go_simp; try with_reducible rfl
        try simp only [Act.put, List.setIfInBounds_toArray, List.set_cons_zero, List.set_cons_succ]
        refine wpAnyH_ready (rs := [15]) (by kernel_rfl) (by simp) ?_
        refine AllReadyH.cons (o := { dst := some 61, op := Op.call { callee := Callee.value (Operand.func 9), args := #[Operand.tmp 59, Operand.tmp 60], argTypes := #[29, 25] }, type := 4, pos := "outright.go:59", after := #[{ on := 13, ground := Ground.data }, { on := 14, ground := Ground.data }, { on := 12, ground := Ground.chain }, { on := 12, ground := Ground.guard }], guard := some (12, false) }) rfl (fun K hK => ?_) AllReadyH.nil
        go_simp
        with_reducible refine (H14.out _ (HOn2.out.get 0 rfl)).mono ?_
        rintro e wn3 ⟨rfl, b9⟩
        have HBn3 := Lib.hid (then_ HBn2.out b9)
        have HKn3 := Lib.hid (HKn2.out.later b9)
        have HOn3 := Lib.hid (HOn2.out.later b9)
        clear b9
        try go_wp2_with fail
        clear hHeld
        refine hK.out _ _ ?_ (fun hHeld => ?_)
        · exact cells5 HKn3.out
        clear hK K
        try simp only [Act.put, List.setIfInBounds_toArray, List.set_cons_zero, List.set_cons_succ]
        refine wpAnyH_ready (rs := [18]) (by kernel_rfl) (by simp) ?_
        refine AllReadyH.cons (o := { dst := some 64, op := Op.call { callee := Callee.value (Operand.func 9), args := #[Operand.tmp 62, Operand.tmp 63], argTypes := #[29, 25] }, type := 4, pos := "outright.go:59", after := #[{ on := 16, ground := Ground.data }, { on := 17, ground := Ground.data }, { on := 15, ground := Ground.chain }, { on := 12, ground := Ground.guard }], guard := some (12, false) }) rfl (fun K hK => ?_) AllReadyH.nil
        go_simp
        with_reducible refine (H9.out _ (HOn3.out.get 3 rfl)).mono ?_
        rintro e wn4 ⟨rfl, b9⟩
        have HBn4 := Lib.hid (then_ HBn3.out b9)
        have HKn4 := Lib.hid (HKn3.out.later b9)
        have HOn4 := Lib.hid (HOn3.out.later b9)
        clear b9
        try go_wp2_with fail
        clear hHeld
        refine hK.out _ _ ?_ (fun hHeld => ?_)
        · exact cells5 HKn4.out
        clear hK K
        try simp only [Act.put, List.setIfInBounds_toArray, List.set_cons_zero, List.set_cons_succ]
        refine held_take 19 (oi := { dst := some 65, op := Op.move (Operand.tmp 64), type := 4, pos := "outright.go:59", after := #[{ on := 18, ground := Ground.data }, { on := 18, ground := Ground.chain }, { on := 12, ground := Ground.guard }], guard := some (12, false) }) (v := ?_) rfl (by kernel_rfl) (by kernel_rfl) (by kernel_rfl) (fun _ _ _ h => h) (by rfl) ?_ hHeld ?_
        rotate_left
        · intro w9 hS9; (try dsimp only at hS9); go_simp; try with_reducible rfl
        try simp only [Act.put, List.setIfInBounds_toArray, List.set_cons_zero, List.set_cons_succ]
        refine held_skip 20 (oi := { dst := some 66, op := Op.load 29 (Operand.tmp 11), type := 29, pos := "outright.go:59", after := #[{ on := 19, ground := Ground.guard }], guard := some (19, true) }) rfl (by kernel_rfl) (by kernel_rfl) (by kernel_rfl) (fun _ _ _ h => h) (by rfl) hHeld ?_
        try simp only [Act.put, List.setIfInBounds_toArray, List.set_cons_zero, List.set_cons_succ]
        refine held_skip 21 (oi := { dst := some 67, op := Op.load 25 (Operand.tmp 7), type := 25, pos := "outright.go:59", after := #[{ on := 19, ground := Ground.guard }], guard := some (19, true) }) rfl (by kernel_rfl) (by kernel_rfl) (by kernel_rfl) (fun _ _ _ h => h) (by rfl) hHeld ?_
        try simp only [Act.put, List.setIfInBounds_toArray, List.set_cons_zero, List.set_cons_succ]
        refine held_skip 22 (oi := { dst := some 68, op := Op.call { callee := Callee.value (Operand.func 9), args := #[Operand.tmp 66, Operand.tmp 67], argTypes := #[29, 25] }, type := 4, pos := "outright.go:59", after := #[{ on := 20, ground := Ground.data }, { on := 21, ground := Ground.data }, { on := 19, ground := Ground.chain }, { on := 19, ground := Ground.guard }], guard := some (19, true) }) rfl (by kernel_rfl) (by kernel_rfl) (by kernel_rfl) (fun _ _ _ h => h) (by rfl) hHeld ?_
        try simp only [Act.put, List.setIfInBounds_toArray, List.set_cons_zero, List.set_cons_succ]
        refine held_skip 23 (oi := { dst := some 69, op := Op.unOp UnOp.not 4 (Operand.tmp 68), type := 4, pos := "outright.go:59", after := #[{ on := 22, ground := Ground.data }, { on := 19, ground := Ground.guard }], guard := some (19, true) }) rfl (by kernel_rfl) (by kernel_rfl) (by kernel_rfl) (fun _ _ _ h => h) (by rfl) hHeld ?_
        try simp only [Act.put, List.setIfInBounds_toArray, List.set_cons_zero, List.set_cons_succ]
        refine held_take 24 (oi := { dst := some 70, op := Op.pick (Operand.tmp 65) (Operand.tmp 69) (Operand.const (Value.bool false)), type := 4, pos := "outright.go:59", after := #[{ on := 19, ground := Ground.data }, { on := 23, ground := Ground.data }, { on := 12, ground := Ground.guard }], guard := some (12, false) }) (v := ?_) rfl (by kernel_rfl) (by kernel_rfl) (by kernel_rfl) (fun _ _ _ h => h) (by rfl) ?_ hHeld ?_
        rotate_left
        · intro w9 hS9; (try dsimp only at hS9); go_simp; try with_reducible rfl
        try simp only [Act.put, List.setIfInBounds_toArray, List.set_cons_zero, List.set_cons_succ]
        refine held_take 25 (oi := { dst := some 71, op := Op.binOp BinOp.neq 4 (Operand.tmp 61) (Operand.tmp 70) 4, type := 4, pos := "outright.go:59", after := #[{ on := 15, ground := Ground.data }, { on := 24, ground := Ground.data }, { on := 12, ground := Ground.guard }], guard := some (12, false) }) (v := ?_) rfl (by kernel_rfl) (by kernel_rfl) (by kernel_rfl) (fun _ _ _ h => h) (by rfl) ?_ hHeld ?_
        rotate_left
        · intro w9 hS9; (try dsimp only at hS9); go_simp; try with_reducible rfl
        try simp only [Act.put, List.setIfInBounds_toArray, List.set_cons_zero, List.set_cons_succ]
        refine held_take 26 (oi := { dst := some 72, op := Op.pick (Operand.tmp 58) (Operand.const (Value.bool true)) (Operand.tmp 71), type := 4, pos := "outright.go:59", after := #[{ on := 12, ground := Ground.data }, { on := 25, ground := Ground.data }], guard := none }) (v := ?_) rfl (by kernel_rfl) (by kernel_rfl) (by kernel_rfl) (fun _ _ _ h => h) (by rfl) ?_ hHeld ?_
        rotate_left
        · intro w9 hS9; (try dsimp only at hS9); go_simp; try with_reducible rfl
        try simp only [Act.put, List.setIfInBounds_toArray, List.set_cons_zero, List.set_cons_succ]
        refine held_take 27 (oi := { dst := some 73, op := Op.move (Operand.tmp 72), type := 4, pos := "outright.go:59", after := #[{ on := 26, ground := Ground.data }, { on := 22, ground := Ground.chain }], guard := none }) (v := ?_) rfl (by kernel_rfl) (by kernel_rfl) (by kernel_rfl) (fun _ _ _ h => h) (by rfl) ?_ hHeld ?_
        rotate_left
        · intro w9 hS9; (try dsimp only at hS9); go_simp; try with_reducible rfl
        try simp only [Act.put, List.setIfInBounds_toArray, List.set_cons_zero, List.set_cons_succ]
        refine held_take 28 (oi := { dst := some 74, op := Op.load 29 (Operand.tmp 9), type := 29, pos := "outright.go:59", after := #[{ on := 27, ground := Ground.guard }], guard := some (27, false) }) (v := ?_) rfl (by kernel_rfl) (by kernel_rfl) (by kernel_rfl) (fun _ _ _ h => h) (by rfl) ?_ hHeld ?_
        rotate_left
        · intro w9 hS9; (try dsimp only at hS9); go_simp; try with_reducible rfl
        try simp only [Act.put, List.setIfInBounds_toArray, List.set_cons_zero, List.set_cons_succ]
        refine held_take 29 (oi := { dst := some 75, op := Op.load 29 (Operand.tmp 11), type := 29, pos := "outright.go:59", after := #[{ on := 27, ground := Ground.guard }], guard := some (27, false) }) (v := ?_) rfl (by kernel_rfl) (by kernel_rfl) (by kernel_rfl) (fun _ _ _ h => h) (by rfl) ?_ hHeld ?_
        rotate_left
        · intro w9 hS9; (try dsimp only at hS9); go_simp; try with_reducible rfl
        try simp only [Act.put, List.setIfInBounds_toArray, List.set_cons_zero, List.set_cons_succ]
        refine held_take 31 (oi := { dst := some 77, op := Op.load 29 (Operand.tmp 14), type := 29, pos := "outright.go:59", after := #[{ on := 27, ground := Ground.guard }], guard := some (27, false) }) (v := ?_) rfl (by kernel_rfl) (by kernel_rfl) (by kernel_rfl) (fun _ _ _ h => h) (by rfl) ?_ hHeld ?_
        rotate_left
        · intro w9 hS9; (try dsimp only at hS9); go_simp; try with_reducible rfl
        try simp only [Act.put, List.setIfInBounds_toArray, List.set_cons_zero, List.set_cons_succ]
        refine wpAnyH_ready (rs := [30]) (by kernel_rfl) (by simp) ?_
        refine AllReadyH.cons (o := { dst := some 76, op := Op.call { callee := Callee.value (Operand.func 10), args := #[Operand.tmp 74, Operand.tmp 75], argTypes := #[29, 29] }, type := 4, pos := "outright.go:59", after := #[{ on := 28, ground := Ground.data }, { on := 29, ground := Ground.data }, { on := 27, ground := Ground.chain }, { on := 27, ground := Ground.guard }], guard := some (27, false) }) rfl (fun K hK => ?_) AllReadyH.nil
        go_simp
        with_reducible refine (HW1.out _ (HOn4.out.get 3 rfl) (HOn4.out.get 2 rfl)).mono ?_
        rintro e wn5 ⟨rfl, b9⟩
        have HBn5 := Lib.hid (then_ HBn4.out b9)
        have HKn5 := Lib.hid (HKn4.out.later b9)
        have HOn5 := Lib.hid (HOn4.out.later b9)
        clear b9
        try go_wp2_with fail
        clear hHeld
        refine hK.out _ _ ?_ (fun hHeld => ?_)
        · exact cells5 HKn5.out
        clear hK K
        try simp only [Act.put, List.setIfInBounds_toArray, List.set_cons_zero, List.set_cons_succ]
        refine wpAnyH_ready (rs := [32]) (by kernel_rfl) (by simp) ?_
        refine AllReadyH.cons (o := { dst := some 78, op := Op.call { callee := Callee.value (Operand.func 11), args := #[Operand.tmp 77], argTypes := #[29] }, type := 4, pos := "outright.go:59", after := #[{ on := 31, ground := Ground.data }, { on := 30, ground := Ground.chain }, { on := 27, ground := Ground.guard }], guard := some (27, false) }) rfl (fun K hK => ?_) AllReadyH.nil
        go_simp
        with_reducible refine (HE.out _ (HOn5.out.get 0 rfl)).mono ?_
        rintro e wn6 ⟨rfl, b9⟩
        have HBn6 := Lib.hid (then_ HBn5.out b9)
        have HKn6 := Lib.hid (HKn5.out.later b9)
        have HOn6 := Lib.hid (HOn5.out.later b9)
        clear b9
        try go_wp2_with fail
        clear hHeld
        refine hK.out _ _ ?_ (fun hHeld => ?_)
        · exact cells5 HKn6.out
        clear hK K
        try simp only [Act.put, List.setIfInBounds_toArray, List.set_cons_zero, List.set_cons_succ]
        refine held_take 33 (oi := { dst := some 79, op := Op.binOp BinOp.neq 4 (Operand.tmp 76) (Operand.tmp 78) 4, type := 4, pos := "outright.go:59", after := #[{ on := 30, ground := Ground.data }, { on := 32, ground := Ground.data }, { on := 27, ground := Ground.guard }], guard := some (27, false) }) (v := ?_) rfl (by kernel_rfl) (by kernel_rfl) (by kernel_rfl) (fun _ _ _ h => h) (by rfl) ?_ hHeld ?_
        rotate_left
        · intro w9 hS9; (try dsimp only at hS9); go_simp; try with_reducible rfl
        try simp only [Act.put, List.setIfInBounds_toArray, List.set_cons_zero, List.set_cons_succ]
        refine held_take 34 (oi := { dst := some 80, op := Op.pick (Operand.tmp 73) (Operand.const (Value.bool true)) (Operand.tmp 79), type := 4, pos := "outright.go:59", after := #[{ on := 27, ground := Ground.data }, { on := 33, ground := Ground.data }], guard := none }) (v := ?_) rfl (by kernel_rfl) (by kernel_rfl) (by kernel_rfl) (fun _ _ _ h => h) (by rfl) ?_ hHeld ?_
        rotate_left
        · intro w9 hS9; (try dsimp only at hS9); go_simp; try with_reducible rfl
        try simp only [Act.put, List.setIfInBounds_toArray, List.set_cons_zero, List.set_cons_succ]
        refine held_take 35 (oi := { dst := some 81, op := Op.move (Operand.tmp 80), type := 4, pos := "outright.go:59", after := #[{ on := 34, ground := Ground.data }, { on := 32, ground := Ground.chain }], guard := none }) (v := ?_) rfl (by kernel_rfl) (by kernel_rfl) (by kernel_rfl) (fun _ _ _ h => h) (by rfl) ?_ hHeld ?_
        rotate_left
        · intro w9 hS9; (try dsimp only at hS9); go_simp; try with_reducible rfl
        try simp only [Act.put, List.setIfInBounds_toArray, List.set_cons_zero, List.set_cons_succ]
        refine held_take 36 (oi := { dst := some 82, op := Op.load 29 (Operand.tmp 13), type := 29, pos := "outright.go:59", after := #[{ on := 35, ground := Ground.guard }], guard := some (35, false) }) (v := ?_) rfl (by kernel_rfl) (by kernel_rfl) (by kernel_rfl) (fun _ _ _ h => h) (by rfl) ?_ hHeld ?_
        rotate_left
        · intro w9 hS9; (try dsimp only at hS9); go_simp; try with_reducible rfl
        try simp only [Act.put, List.setIfInBounds_toArray, List.set_cons_zero, List.set_cons_succ]
        refine held_take 37 (oi := { dst := some 83, op := Op.load 29 (Operand.tmp 9), type := 29, pos := "outright.go:59", after := #[{ on := 35, ground := Ground.guard }], guard := some (35, false) }) (v := ?_) rfl (by kernel_rfl) (by kernel_rfl) (by kernel_rfl) (fun _ _ _ h => h) (by rfl) ?_ hHeld ?_
        rotate_left
        · intro w9 hS9; (try dsimp only at hS9); go_simp; try with_reducible rfl
        try simp only [Act.put, List.setIfInBounds_toArray, List.set_cons_zero, List.set_cons_succ]
        refine wpAnyH_ready (rs := [38]) (by kernel_rfl) (by simp) ?_
        refine AllReadyH.cons (o := { dst := some 84, op := Op.call { callee := Callee.value (Operand.func 10), args := #[Operand.tmp 82, Operand.tmp 83], argTypes := #[29, 29] }, type := 4, pos := "outright.go:59", after := #[{ on := 36, ground := Ground.data }, { on := 37, ground := Ground.data }, { on := 35, ground := Ground.chain }, { on := 35, ground := Ground.guard }], guard := some (35, false) }) rfl (fun K hK => ?_) AllReadyH.nil
        go_simp
        with_reducible refine (HW2.out _ (HOn6.out.get 1 rfl) (HOn6.out.get 3 rfl)).mono ?_
        rintro e wn7 ⟨rfl, b9⟩
        have HBn7 := Lib.hid (then_ HBn6.out b9)
        have HKn7 := Lib.hid (HKn6.out.later b9)
        have HOn7 := Lib.hid (HOn6.out.later b9)
        clear b9
        try go_wp2_with fail
        clear hHeld
        refine hK.out _ _ ?_ (fun hHeld => ?_)
        · exact cells5 HKn7.out
        clear hK K
        try simp only [Act.put, List.setIfInBounds_toArray, List.set_cons_zero, List.set_cons_succ]
        refine held_take 39 (oi := { dst := some 85, op := Op.unOp UnOp.not 4 (Operand.tmp 84), type := 4, pos := "outright.go:59", after := #[{ on := 38, ground := Ground.data }, { on := 35, ground := Ground.guard }], guard := some (35, false) }) (v := ?_) rfl (by kernel_rfl) (by kernel_rfl) (by kernel_rfl) (fun _ _ _ h => h) (by rfl) ?_ hHeld ?_
        rotate_left
        · intro w9 hS9; (try dsimp only at hS9); go_simp; try with_reducible rfl
        try simp only [Act.put, List.setIfInBounds_toArray, List.set_cons_zero, List.set_cons_succ]
        refine held_take 40 (oi := { dst := some 86, op := Op.pick (Operand.tmp 81) (Operand.const (Value.bool true)) (Operand.tmp 85), type := 4, pos := "outright.go:59", after := #[{ on := 35, ground := Ground.data }, { on := 39, ground := Ground.data }], guard := none }) (v := ?_) rfl (by kernel_rfl) (by kernel_rfl) (by kernel_rfl) (fun _ _ _ h => h) (by rfl) ?_ hHeld ?_
        rotate_left
        · intro w9 hS9; (try dsimp only at hS9); go_simp; try with_reducible rfl
        try simp only [Act.put, List.setIfInBounds_toArray, List.set_cons_zero, List.set_cons_succ]
        refine held_take 41 (oi := { dst := some 87, op := Op.move (Operand.tmp 86), type := 4, pos := "outright.go:59", after := #[{ on := 40, ground := Ground.data }, { on := 38, ground := Ground.chain }], guard := none }) (v := ?_) rfl (by kernel_rfl) (by kernel_rfl) (by kernel_rfl) (fun _ _ _ h => h) (by rfl) ?_ hHeld ?_
        rotate_left
        · intro w9 hS9; (try dsimp only at hS9); go_simp; try with_reducible rfl
        try simp only [Act.put, List.setIfInBounds_toArray, List.set_cons_zero, List.set_cons_succ]
        refine held_take 42 (oi := { dst := some 88, op := Op.load 29 (Operand.tmp 13), type := 29, pos := "outright.go:59", after := #[{ on := 41, ground := Ground.guard }], guard := some (41, false) }) (v := ?_) rfl (by kernel_rfl) (by kernel_rfl) (by kernel_rfl) (fun _ _ _ h => h) (by rfl) ?_ hHeld ?_
        rotate_left
        · intro w9 hS9; (try dsimp only at hS9); go_simp; try with_reducible rfl
        try simp only [Act.put, List.setIfInBounds_toArray, List.set_cons_zero, List.set_cons_succ]
        refine held_take 43 (oi := { dst := some 89, op := Op.load 29 (Operand.tmp 11), type := 29, pos := "outright.go:59", after := #[{ on := 41, ground := Ground.guard }], guard := some (41, false) }) (v := ?_) rfl (by kernel_rfl) (by kernel_rfl) (by kernel_rfl) (fun _ _ _ h => h) (by rfl) ?_ hHeld ?_
        rotate_left
        · intro w9 hS9; (try dsimp only at hS9); go_simp; try with_reducible rfl
        try simp only [Act.put, List.setIfInBounds_toArray, List.set_cons_zero, List.set_cons_succ]
        refine wpAnyH_ready (rs := [44]) (by kernel_rfl) (by simp) ?_
        refine AllReadyH.cons (o := { dst := some 90, op := Op.call { callee := Callee.value (Operand.func 10), args := #[Operand.tmp 88, Operand.tmp 89], argTypes := #[29, 29] }, type := 4, pos := "outright.go:59", after := #[{ on := 42, ground := Ground.data }, { on := 43, ground := Ground.data }, { on := 41, ground := Ground.chain }, { on := 41, ground := Ground.guard }], guard := some (41, false) }) rfl (fun K hK => ?_) AllReadyH.nil
        go_simp
        with_reducible refine (HW3.out _ (HOn7.out.get 1 rfl) (HOn7.out.get 2 rfl)).mono ?_
        rintro e wn8 ⟨rfl, b9⟩
        have HBn8 := Lib.hid (then_ HBn7.out b9)
        have HKn8 := Lib.hid (HKn7.out.later b9)
        have HOn8 := Lib.hid (HOn7.out.later b9)
        clear b9
        try go_wp2_with fail
        clear hHeld
        refine hK.out _ _ ?_ (fun hHeld => ?_)
        · exact cells5 HKn8.out
        clear hK K
        try simp only [Act.put, List.setIfInBounds_toArray, List.set_cons_zero, List.set_cons_succ]
        refine held_take 45 (oi := { dst := some 91, op := Op.unOp UnOp.not 4 (Operand.tmp 90), type := 4, pos := "outright.go:59", after := #[{ on := 44, ground := Ground.data }, { on := 41, ground := Ground.guard }], guard := some (41, false) }) (v := ?_) rfl (by kernel_rfl) (by kernel_rfl) (by kernel_rfl) (fun _ _ _ h => h) (by rfl) ?_ hHeld ?_
        rotate_left
        · intro w9 hS9; (try dsimp only at hS9); go_simp; try with_reducible rfl
        try simp only [Act.put, List.setIfInBounds_toArray, List.set_cons_zero, List.set_cons_succ]
        refine held_take 46 (oi := { dst := some 92, op := Op.pick (Operand.tmp 87) (Operand.const (Value.bool true)) (Operand.tmp 91), type := 4, pos := "outright.go:59", after := #[{ on := 41, ground := Ground.data }, { on := 45, ground := Ground.data }], guard := none }) (v := ?_) rfl (by kernel_rfl) (by kernel_rfl) (by kernel_rfl) (fun _ _ _ h => h) (by rfl) ?_ hHeld ?_
        rotate_left
        · intro w9 hS9; (try dsimp only at hS9); go_simp; try with_reducible rfl
        try simp only [Act.put, List.setIfInBounds_toArray, List.set_cons_zero, List.set_cons_succ]
        refine held_take 47 (oi := { dst := some 93, op := Op.move (Operand.tmp 92), type := 4, pos := "outright.go:59", after := #[{ on := 46, ground := Ground.data }, { on := 44, ground := Ground.chain }], guard := none }) (v := ?_) rfl (by kernel_rfl) (by kernel_rfl) (by kernel_rfl) (fun _ _ _ h => h) (by rfl) ?_ hHeld ?_
        rotate_left
        · intro w9 hS9; (try dsimp only at hS9); go_simp; try with_reducible rfl
        try simp only [Act.put, List.setIfInBounds_toArray, List.set_cons_zero, List.set_cons_succ]
        refine held_take 48 (oi := { dst := some 94, op := Op.load 29 (Operand.tmp 14), type := 29, pos := "outright.go:59", after := #[{ on := 47, ground := Ground.guard }], guard := some (47, false) }) (v := ?_) rfl (by kernel_rfl) (by kernel_rfl) (by kernel_rfl) (fun _ _ _ h => h) (by rfl) ?_ hHeld ?_
        rotate_left
        · intro w9 hS9; (try dsimp only at hS9); go_simp; try with_reducible rfl
        try simp only [Act.put, List.setIfInBounds_toArray, List.set_cons_zero, List.set_cons_succ]
        refine held_take 49 (oi := { dst := some 95, op := Op.load 29 (Operand.tmp 9), type := 29, pos := "outright.go:59", after := #[{ on := 47, ground := Ground.guard }], guard := some (47, false) }) (v := ?_) rfl (by kernel_rfl) (by kernel_rfl) (by kernel_rfl) (fun _ _ _ h => h) (by rfl) ?_ hHeld ?_
        rotate_left
        · intro w9 hS9; (try dsimp only at hS9); go_simp; try with_reducible rfl
        try simp only [Act.put, List.setIfInBounds_toArray, List.set_cons_zero, List.set_cons_succ]
        refine wpAnyH_ready (rs := [50]) (by kernel_rfl) (by simp) ?_
        refine AllReadyH.cons (o := { dst := some 96, op := Op.call { callee := Callee.value (Operand.func 10), args := #[Operand.tmp 94, Operand.tmp 95], argTypes := #[29, 29] }, type := 4, pos := "outright.go:59", after := #[{ on := 48, ground := Ground.data }, { on := 49, ground := Ground.data }, { on := 47, ground := Ground.chain }, { on := 47, ground := Ground.guard }], guard := some (47, false) }) rfl (fun K hK => ?_) AllReadyH.nil
        go_simp
        with_reducible refine (HW4.out _ (HOn8.out.get 0 rfl) (HOn8.out.get 3 rfl)).mono ?_
        rintro e wn9 ⟨rfl, b9⟩
        have HBn9 := Lib.hid (then_ HBn8.out b9)
        have HKn9 := Lib.hid (HKn8.out.later b9)
        have HOn9 := Lib.hid (HOn8.out.later b9)
        clear b9
        try go_wp2_with fail
        clear hHeld
        refine hK.out _ _ ?_ (fun hHeld => ?_)
        · exact cells5 HKn9.out
        clear hK K
        try simp only [Act.put, List.setIfInBounds_toArray, List.set_cons_zero, List.set_cons_succ]
        refine held_take 51 (oi := { dst := some 97, op := Op.unOp UnOp.not 4 (Operand.tmp 96), type := 4, pos := "outright.go:59", after := #[{ on := 50, ground := Ground.data }, { on := 47, ground := Ground.guard }], guard := some (47, false) }) (v := ?_) rfl (by kernel_rfl) (by kernel_rfl) (by kernel_rfl) (fun _ _ _ h => h) (by rfl) ?_ hHeld ?_
        rotate_left
        · intro w9 hS9; (try dsimp only at hS9); go_simp; try with_reducible rfl
        try simp only [Act.put, List.setIfInBounds_toArray, List.set_cons_zero, List.set_cons_succ]
        refine held_take 52 (oi := { dst := some 98, op := Op.pick (Operand.tmp 93) (Operand.const (Value.bool true)) (Operand.tmp 97), type := 4, pos := "outright.go:59", after := #[{ on := 47, ground := Ground.data }, { on := 51, ground := Ground.data }], guard := none }) (v := ?_) rfl (by kernel_rfl) (by kernel_rfl) (by kernel_rfl) (fun _ _ _ h => h) (by rfl) ?_ hHeld ?_
        rotate_left
        · intro w9 hS9; (try dsimp only at hS9); go_simp; try with_reducible rfl
        try simp only [Act.put, List.setIfInBounds_toArray, List.set_cons_zero, List.set_cons_succ]
        refine held_take 53 (oi := { dst := some 99, op := Op.move (Operand.tmp 98), type := 4, pos := "outright.go:59", after := #[{ on := 52, ground := Ground.data }, { on := 50, ground := Ground.chain }], guard := none }) (v := ?_) rfl (by kernel_rfl) (by kernel_rfl) (by kernel_rfl) (fun _ _ _ h => h) (by rfl) ?_ hHeld ?_
        rotate_left
        · intro w9 hS9; (try dsimp only at hS9); go_simp; try with_reducible rfl
        try simp only [Act.put, List.setIfInBounds_toArray, List.set_cons_zero, List.set_cons_succ]
        refine held_take 54 (oi := { dst := some 100, op := Op.load 29 (Operand.tmp 14), type := 29, pos := "outright.go:59", after := #[{ on := 53, ground := Ground.guard }], guard := some (53, false) }) (v := ?_) rfl (by kernel_rfl) (by kernel_rfl) (by kernel_rfl) (fun _ _ _ h => h) (by rfl) ?_ hHeld ?_
        rotate_left
        · intro w9 hS9; (try dsimp only at hS9); go_simp; try with_reducible rfl
        try simp only [Act.put, List.setIfInBounds_toArray, List.set_cons_zero, List.set_cons_succ]
        refine held_take 55 (oi := { dst := some 101, op := Op.load 29 (Operand.tmp 11), type := 29, pos := "outright.go:59", after := #[{ on := 53, ground := Ground.guard }], guard := some (53, false) }) (v := ?_) rfl (by kernel_rfl) (by kernel_rfl) (by kernel_rfl) (fun _ _ _ h => h) (by rfl) ?_ hHeld ?_
        rotate_left
        · intro w9 hS9; (try dsimp only at hS9); go_simp; try with_reducible rfl
        try simp only [Act.put, List.setIfInBounds_toArray, List.set_cons_zero, List.set_cons_succ]
        refine wpAnyH_ready (rs := [56]) (by kernel_rfl) (by simp) ?_
        refine AllReadyH.cons (o := { dst := some 102, op := Op.call { callee := Callee.value (Operand.func 7), args := #[Operand.tmp 100, Operand.tmp 101], argTypes := #[29, 29] }, type := 29, pos := "outright.go:59", after := #[{ on := 54, ground := Ground.data }, { on := 55, ground := Ground.data }, { on := 53, ground := Ground.chain }, { on := 53, ground := Ground.guard }], guard := some (53, false) }) rfl (fun K hK => ?_) AllReadyH.nil
        go_simp
        with_reducible refine (HAm.out _ (HOn9.out.get 0 rfl) (HOn9.out.get 2 rfl)).mono ?_
        rintro e wn10 ⟨km, rfl, hq9, b9⟩
        have hqm := Lib.hid hq9
        clear hq9
        have HBn10 := Lib.hid (then_ HBn9.out b9)
        have HKn10 := Lib.hid (HKn9.out.later b9)
        have HOn10 := Lib.hid (HOn9.out.later b9)
        clear b9
        try go_wp2_with fail
        clear hHeld
        refine hK.out _ _ ?_ (fun hHeld => ?_)
        · exact cells5 HKn10.out
        clear hK K
        try simp only [Act.put, List.setIfInBounds_toArray, List.set_cons_zero, List.set_cons_succ]
        refine wpAnyH_ready (rs := [57]) (by kernel_rfl) (by simp) ?_
        refine AllReadyH.cons (o := { dst := some 103, op := Op.call { callee := Callee.value (Operand.func 11), args := #[Operand.tmp 102], argTypes := #[29] }, type := 4, pos := "outright.go:59", after := #[{ on := 56, ground := Ground.data }, { on := 56, ground := Ground.chain }, { on := 53, ground := Ground.guard }], guard := some (53, false) }) rfl (fun K hK => ?_) AllReadyH.nil
        go_simp
        with_reducible refine (HEm.out _ _ hqm.out).mono ?_
        rintro e wn11 ⟨rfl, b9⟩
        have HBn11 := Lib.hid (then_ HBn10.out b9)
        have HKn11 := Lib.hid (HKn10.out.later b9)
        have HOn11 := Lib.hid (HOn10.out.later b9)
        clear b9
        try go_wp2_with fail
        clear hHeld
        refine hK.out _ _ ?_ (fun hHeld => ?_)
        · exact cells5 HKn11.out
        clear hK K
        try simp only [Act.put, List.setIfInBounds_toArray, List.set_cons_zero, List.set_cons_succ]
        refine held_take 58 (oi := { dst := some 104, op := Op.unOp UnOp.not 4 (Operand.tmp 103), type := 4, pos := "outright.go:59", after := #[{ on := 57, ground := Ground.data }, { on := 53, ground := Ground.guard }], guard := some (53, false) }) (v := ?_) rfl (by kernel_rfl) (by kernel_rfl) (by kernel_rfl) (fun _ _ _ h => h) (by rfl) ?_ hHeld ?_
        rotate_left
        · intro w9 hS9; (try dsimp only at hS9); go_simp; try with_reducible rfl
        try simp only [Act.put, List.setIfInBounds_toArray, List.set_cons_zero, List.set_cons_succ]
        refine held_take 59 (oi := { dst := some 105, op := Op.pick (Operand.tmp 99) (Operand.const (Value.bool true)) (Operand.tmp 104), type := 4, pos := "outright.go:59", after := #[{ on := 53, ground := Ground.data }, { on := 58, ground := Ground.data }], guard := none }) (v := ?_) rfl (by kernel_rfl) (by kernel_rfl) (by kernel_rfl) (fun _ _ _ h => h) (by rfl) ?_ hHeld ?_
        rotate_left
        · intro w9 hS9; (try dsimp only at hS9); go_simp; try with_reducible rfl
        try simp only [Act.put, List.setIfInBounds_toArray, List.set_cons_zero, List.set_cons_succ]
        refine wpAnyH_done (by kernel_rfl) ?_ _
        try go_wp2_with fail
        go_meet
        exact ⟨rfl, HBn11, HKn11, HOn11⟩
      · as_aux_lemma =>
        simp only [hr, Bool.false_and, Bool.true_and] at H9 H13 H14
        refine wp_region_held_drew (S := (fun w9 => w9.cell? ⟨J14, 0, none⟩ = some (.slice k14.p0 (minusR r s).a.length k14.c0) ∧ w9.cell? ⟨J14, 1, none⟩ = some (.slice k14.p1 (minusR r s).b.length k14.c1) ∧ w9.cell? ⟨J14, 2, none⟩ = some (.slice k14.p2 (minusR r s).c.length k14.c2) ∧ w9.cell? ⟨J14, 3, none⟩ = some (.bool (minusR r s).o) ∧ w9.cell? ⟨J13, 0, none⟩ = some (.slice k13.p0 (andR r s).a.length k13.c0) ∧ w9.cell? ⟨J13, 1, none⟩ = some (.slice k13.p1 (andR r s).b.length k13.c1) ∧ w9.cell? ⟨J13, 2, none⟩ = some (.slice k13.p2 (andR r s).c.length k13.c2) ∧ w9.cell? ⟨J13, 3, none⟩ = some (.bool (andR r s).o) ∧ w9.cell? ⟨g11, 0, none⟩ = some (.slice k11.p0 s.a.length k11.c0) ∧ w9.cell? ⟨g11, 1, none⟩ = some (.slice k11.p1 s.b.length k11.c1) ∧ w9.cell? ⟨g11, 2, none⟩ = some (.slice k11.p2 s.c.length k11.c2) ∧ w9.cell? ⟨g11, 3, none⟩ = some (.bool s.o) ∧ w9.cell? ⟨g9, 0, none⟩ = some (.slice k9.p0 r.a.length k9.c0) ∧ w9.cell? ⟨g9, 1, none⟩ = some (.slice k9.p1 r.b.length k9.c1) ∧ w9.cell? ⟨g9, 2, none⟩ = some (.slice k9.p2 r.c.length k9.c2) ∧ w9.cell? ⟨g9, 3, none⟩ = some (.bool r.o) ∧ w9.cell? ⟨w.heap.size, 0, none⟩ = some (.int .i64 x.k) ∧ w9.cell? ⟨w.heap.size, 1, none⟩ = some (.int .i64 x.n) ∧ w9.cell? ⟨w.heap.size, 2, none⟩ = some (.string x.s) ∧ w9.cell? ⟨w.heap.size, 3, none⟩ = some (.bool x.b))) (by kernel_rfl) ?_ (fun hHeld => ?_)
        · exact cells5 HK0.out
        refine held_take 0 (oi := { dst := some 46, op := Op.load 29 (Operand.tmp 13), type := 29, pos := "outright.go:59", after := #[], guard := none }) (v := ?_) rfl (by kernel_rfl) (by kernel_rfl) (by kernel_rfl) (fun _ _ _ h => h) (by rfl) ?_ hHeld ?_
        rotate_left
        · intro w9 hS9; (try dsimp only at hS9); go_simp; try with_reducible rfl
        try simp only [Act.put, List.setIfInBounds_toArray, List.set_cons_zero, List.set_cons_succ]
        refine held_take 1 (oi := { dst := some 47, op := Op.load 25 (Operand.tmp 7), type := 25, pos := "outright.go:59", after := #[], guard := none }) (v := ?_) rfl (by kernel_rfl) (by kernel_rfl) (by kernel_rfl) (fun _ _ _ h => h) (by rfl) ?_ hHeld ?_
        rotate_left
        · intro w9 hS9; (try dsimp only at hS9); go_simp; try with_reducible rfl
        try simp only [Act.put, List.setIfInBounds_toArray, List.set_cons_zero, List.set_cons_succ]
        refine held_take 3 (oi := { dst := some 49, op := Op.load 29 (Operand.tmp 9), type := 29, pos := "outright.go:59", after := #[], guard := none }) (v := ?_) rfl (by kernel_rfl) (by kernel_rfl) (by kernel_rfl) (fun _ _ _ h => h) (by rfl) ?_ hHeld ?_
        rotate_left
        · intro w9 hS9; (try dsimp only at hS9); go_simp; try with_reducible rfl
        try simp only [Act.put, List.setIfInBounds_toArray, List.set_cons_zero, List.set_cons_succ]
        refine held_take 4 (oi := { dst := some 50, op := Op.load 25 (Operand.tmp 7), type := 25, pos := "outright.go:59", after := #[], guard := none }) (v := ?_) rfl (by kernel_rfl) (by kernel_rfl) (by kernel_rfl) (fun _ _ _ h => h) (by rfl) ?_ hHeld ?_
        rotate_left
        · intro w9 hS9; (try dsimp only at hS9); go_simp; try with_reducible rfl
        try simp only [Act.put, List.setIfInBounds_toArray, List.set_cons_zero, List.set_cons_succ]
        refine wpAnyH_ready (rs := [2]) (by kernel_rfl) (by simp) ?_
        refine AllReadyH.cons (o := { dst := some 48, op := Op.call { callee := Callee.value (Operand.func 9), args := #[Operand.tmp 46, Operand.tmp 47], argTypes := #[29, 25] }, type := 4, pos := "outright.go:59", after := #[{ on := 0, ground := Ground.data }, { on := 1, ground := Ground.data }], guard := none }) rfl (fun K hK => ?_) AllReadyH.nil
        go_simp
        with_reducible refine (H13.out _ (HO0.out.get 1 rfl)).mono ?_
        rintro e wn1 ⟨rfl, b9⟩
        have HBn1 := Lib.hid (then_ HB0.out b9)
        have HKn1 := Lib.hid (HK0.out.later b9)
        have HOn1 := Lib.hid (HO0.out.later b9)
        clear b9
        try go_wp2_with fail
        clear hHeld
        refine hK.out _ _ ?_ (fun hHeld => ?_)
        · exact cells5 HKn1.out
        clear hK K
        try simp only [Act.put, List.setIfInBounds_toArray, List.set_cons_zero, List.set_cons_succ]
        refine wpAnyH_ready (rs := [5]) (by kernel_rfl) (by simp) ?_
        refine AllReadyH.cons (o := { dst := some 51, op := Op.call { callee := Callee.value (Operand.func 9), args := #[Operand.tmp 49, Operand.tmp 50], argTypes := #[29, 25] }, type := 4, pos := "outright.go:59", after := #[{ on := 3, ground := Ground.data }, { on := 4, ground := Ground.data }, { on := 2, ground := Ground.chain }], guard := none }) rfl (fun K hK => ?_) AllReadyH.nil
        go_simp
        with_reducible refine (H9.out _ (HOn1.out.get 3 rfl)).mono ?_
        rintro e wn2 ⟨rfl, b9⟩
        have HBn2 := Lib.hid (then_ HBn1.out b9)
        have HKn2 := Lib.hid (HKn1.out.later b9)
        have HOn2 := Lib.hid (HOn1.out.later b9)
        clear b9
        try go_wp2_with fail
        clear hHeld
        refine hK.out _ _ ?_ (fun hHeld => ?_)
        · exact cells5 HKn2.out
        clear hK K
        try simp only [Act.put, List.setIfInBounds_toArray, List.set_cons_zero, List.set_cons_succ]
        refine held_take 6 (oi := { dst := some 52, op := Op.move (Operand.tmp 51), type := 4, pos := "outright.go:59", after := #[{ on := 5, ground := Ground.data }, { on := 5, ground := Ground.chain }], guard := none }) (v := ?_) rfl (by kernel_rfl) (by kernel_rfl) (by kernel_rfl) (fun _ _ _ h => h) (by rfl) ?_ hHeld ?_
        rotate_left
        · intro w9 hS9; (try dsimp only at hS9); go_simp; try with_reducible rfl
        try simp only [Act.put, List.setIfInBounds_toArray, List.set_cons_zero, List.set_cons_succ]
        refine held_take 7 (oi := { dst := some 53, op := Op.load 29 (Operand.tmp 11), type := 29, pos := "outright.go:59", after := #[{ on := 6, ground := Ground.guard }], guard := some (6, true) }) (v := ?_) rfl (by kernel_rfl) (by kernel_rfl) (by kernel_rfl) (fun _ _ _ h => h) (by rfl) ?_ hHeld ?_
        rotate_left
        · intro w9 hS9; (try dsimp only at hS9); go_simp; try with_reducible rfl
        try simp only [Act.put, List.setIfInBounds_toArray, List.set_cons_zero, List.set_cons_succ]
        refine held_take 8 (oi := { dst := some 54, op := Op.load 25 (Operand.tmp 7), type := 25, pos := "outright.go:59", after := #[{ on := 6, ground := Ground.guard }], guard := some (6, true) }) (v := ?_) rfl (by kernel_rfl) (by kernel_rfl) (by kernel_rfl) (fun _ _ _ h => h) (by rfl) ?_ hHeld ?_
        rotate_left
        · intro w9 hS9; (try dsimp only at hS9); go_simp; try with_reducible rfl
        try simp only [Act.put, List.setIfInBounds_toArray, List.set_cons_zero, List.set_cons_succ]
        refine wpAnyH_ready (rs := [9]) (by kernel_rfl) (by simp) ?_
        refine AllReadyH.cons (o := { dst := some 55, op := Op.call { callee := Callee.value (Operand.func 9), args := #[Operand.tmp 53, Operand.tmp 54], argTypes := #[29, 25] }, type := 4, pos := "outright.go:59", after := #[{ on := 7, ground := Ground.data }, { on := 8, ground := Ground.data }, { on := 6, ground := Ground.chain }, { on := 6, ground := Ground.guard }], guard := some (6, true) }) rfl (fun K hK => ?_) AllReadyH.nil
        go_simp
        with_reducible refine (H11.out _ (HOn2.out.get 2 rfl)).mono ?_
        rintro e wn3 ⟨rfl, b9⟩
        have HBn3 := Lib.hid (then_ HBn2.out b9)
        have HKn3 := Lib.hid (HKn2.out.later b9)
        have HOn3 := Lib.hid (HOn2.out.later b9)
        clear b9
        try go_wp2_with fail
        clear hHeld
        refine hK.out _ _ ?_ (fun hHeld => ?_)
        · exact cells5 HKn3.out
        clear hK K
        try simp only [Act.put, List.setIfInBounds_toArray, List.set_cons_zero, List.set_cons_succ]
        refine held_take 10 (oi := { dst := some 56, op := Op.pick (Operand.tmp 52) (Operand.tmp 55) (Operand.const (Value.bool false)), type := 4, pos := "outright.go:59", after := #[{ on := 6, ground := Ground.data }, { on := 9, ground := Ground.data }], guard := none }) (v := ?_) rfl (by kernel_rfl) (by kernel_rfl) (by kernel_rfl) (fun _ _ _ h => h) (by rfl) ?_ hHeld ?_
        rotate_left
        · intro w9 hS9; (try dsimp only at hS9); go_simp; try with_reducible rfl
        try simp only [Act.put, List.setIfInBounds_toArray, List.set_cons_zero, List.set_cons_succ]
        refine held_take 11 (oi := { dst := some 57, op := Op.binOp BinOp.neq 4 (Operand.tmp 48) (Operand.tmp 56) 4, type := 4, pos := "outright.go:59", after := #[{ on := 2, ground := Ground.data }, { on := 10, ground := Ground.data }], guard := none }) (v := ?_) rfl (by kernel_rfl) (by kernel_rfl) (by kernel_rfl) (fun _ _ _ h => h) (by rfl) ?_ hHeld ?_
        rotate_left
        · intro w9 hS9; (try dsimp only at hS9); go_simp; try with_reducible rfl
        try simp only [Act.put, List.setIfInBounds_toArray, List.set_cons_zero, List.set_cons_succ]
        refine held_take 12 (oi := { dst := some 58, op := Op.move (Operand.tmp 57), type := 4, pos := "outright.go:59", after := #[{ on := 11, ground := Ground.data }, { on := 9, ground := Ground.chain }], guard := none }) (v := ?_) rfl (by kernel_rfl) (by kernel_rfl) (by kernel_rfl) (fun _ _ _ h => h) (by rfl) ?_ hHeld ?_
        rotate_left
        · intro w9 hS9; (try dsimp only at hS9); go_simp; try with_reducible rfl
        try simp only [Act.put, List.setIfInBounds_toArray, List.set_cons_zero, List.set_cons_succ]
        refine held_take 13 (oi := { dst := some 59, op := Op.load 29 (Operand.tmp 14), type := 29, pos := "outright.go:59", after := #[{ on := 12, ground := Ground.guard }], guard := some (12, false) }) (v := ?_) rfl (by kernel_rfl) (by kernel_rfl) (by kernel_rfl) (fun _ _ _ h => h) (by rfl) ?_ hHeld ?_
        rotate_left
        · intro w9 hS9; (try dsimp only at hS9); go_simp; try with_reducible rfl
        try simp only [Act.put, List.setIfInBounds_toArray, List.set_cons_zero, List.set_cons_succ]
        refine held_take 14 (oi := { dst := some 60, op := Op.load 25 (Operand.tmp 7), type := 25, pos := "outright.go:59", after := #[{ on := 12, ground := Ground.guard }], guard := some (12, false) }) (v := ?_) rfl (by kernel_rfl) (by kernel_rfl) (by kernel_rfl) (fun _ _ _ h => h) (by rfl) ?_ hHeld ?_
        rotate_left
        · intro w9 hS9; (try dsimp only at hS9); go_simp; try with_reducible rfl
        try simp only [Act.put, List.setIfInBounds_toArray, List.set_cons_zero, List.set_cons_succ]
        refine held_take 16 (oi := { dst := some 62, op := Op.load 29 (Operand.tmp 9), type := 29, pos := "outright.go:59", after := #[{ on := 12, ground := Ground.guard }], guard := some (12, false) }) (v := ?_) rfl (by kernel_rfl) (by kernel_rfl) (by kernel_rfl) (fun _ _ _ h => h) (by rfl) ?_ hHeld ?_
        rotate_left
        · intro w9 hS9; (try dsimp only at hS9); go_simp; try with_reducible rfl
        try simp only [Act.put, List.setIfInBounds_toArray, List.set_cons_zero, List.set_cons_succ]
        refine held_take 17 (oi := { dst := some 63, op := Op.load 25 (Operand.tmp 7), type := 25, pos := "outright.go:59", after := #[{ on := 12, ground := Ground.guard }], guard := some (12, false) }) (v := ?_) rfl (by kernel_rfl) (by kernel_rfl) (by kernel_rfl) (fun _ _ _ h => h) (by rfl) ?_ hHeld ?_
        rotate_left
        · intro w9 hS9; (try dsimp only at hS9); go_simp; try with_reducible rfl
        try simp only [Act.put, List.setIfInBounds_toArray, List.set_cons_zero, List.set_cons_succ]
        refine wpAnyH_ready (rs := [15]) (by kernel_rfl) (by simp) ?_
        refine AllReadyH.cons (o := { dst := some 61, op := Op.call { callee := Callee.value (Operand.func 9), args := #[Operand.tmp 59, Operand.tmp 60], argTypes := #[29, 25] }, type := 4, pos := "outright.go:59", after := #[{ on := 13, ground := Ground.data }, { on := 14, ground := Ground.data }, { on := 12, ground := Ground.chain }, { on := 12, ground := Ground.guard }], guard := some (12, false) }) rfl (fun K hK => ?_) AllReadyH.nil
        go_simp
        with_reducible refine (H14.out _ (HOn3.out.get 0 rfl)).mono ?_
        rintro e wn4 ⟨rfl, b9⟩
        have HBn4 := Lib.hid (then_ HBn3.out b9)
        have HKn4 := Lib.hid (HKn3.out.later b9)
        have HOn4 := Lib.hid (HOn3.out.later b9)
        clear b9
        try go_wp2_with fail
        clear hHeld
        refine hK.out _ _ ?_ (fun hHeld => ?_)
        · exact cells5 HKn4.out
        clear hK K
        try simp only [Act.put, List.setIfInBounds_toArray, List.set_cons_zero, List.set_cons_succ]
        refine wpAnyH_ready (rs := [18]) (by kernel_rfl) (by simp) ?_
        refine AllReadyH.cons (o := { dst := some 64, op := Op.call { callee := Callee.value (Operand.func 9), args := #[Operand.tmp 62, Operand.tmp 63], argTypes := #[29, 25] }, type := 4, pos := "outright.go:59", after := #[{ on := 16, ground := Ground.data }, { on := 17, ground := Ground.data }, { on := 15, ground := Ground.chain }, { on := 12, ground := Ground.guard }], guard := some (12, false) }) rfl (fun K hK => ?_) AllReadyH.nil
        go_simp
        with_reducible refine (H9.out _ (HOn4.out.get 3 rfl)).mono ?_
        rintro e wn5 ⟨rfl, b9⟩
        have HBn5 := Lib.hid (then_ HBn4.out b9)
        have HKn5 := Lib.hid (HKn4.out.later b9)
        have HOn5 := Lib.hid (HOn4.out.later b9)
        clear b9
        try go_wp2_with fail
        clear hHeld
        refine hK.out _ _ ?_ (fun hHeld => ?_)
        · exact cells5 HKn5.out
        clear hK K
        try simp only [Act.put, List.setIfInBounds_toArray, List.set_cons_zero, List.set_cons_succ]
        refine held_take 19 (oi := { dst := some 65, op := Op.move (Operand.tmp 64), type := 4, pos := "outright.go:59", after := #[{ on := 18, ground := Ground.data }, { on := 18, ground := Ground.chain }, { on := 12, ground := Ground.guard }], guard := some (12, false) }) (v := ?_) rfl (by kernel_rfl) (by kernel_rfl) (by kernel_rfl) (fun _ _ _ h => h) (by rfl) ?_ hHeld ?_
        rotate_left
        · intro w9 hS9; (try dsimp only at hS9); go_simp; try with_reducible rfl
        try simp only [Act.put, List.setIfInBounds_toArray, List.set_cons_zero, List.set_cons_succ]
        refine held_take 20 (oi := { dst := some 66, op := Op.load 29 (Operand.tmp 11), type := 29, pos := "outright.go:59", after := #[{ on := 19, ground := Ground.guard }], guard := some (19, true) }) (v := ?_) rfl (by kernel_rfl) (by kernel_rfl) (by kernel_rfl) (fun _ _ _ h => h) (by rfl) ?_ hHeld ?_
        rotate_left
        · intro w9 hS9; (try dsimp only at hS9); go_simp; try with_reducible rfl
        try simp only [Act.put, List.setIfInBounds_toArray, List.set_cons_zero, List.set_cons_succ]
        refine held_take 21 (oi := { dst := some 67, op := Op.load 25 (Operand.tmp 7), type := 25, pos := "outright.go:59", after := #[{ on := 19, ground := Ground.guard }], guard := some (19, true) }) (v := ?_) rfl (by kernel_rfl) (by kernel_rfl) (by kernel_rfl) (fun _ _ _ h => h) (by rfl) ?_ hHeld ?_
        rotate_left
        · intro w9 hS9; (try dsimp only at hS9); go_simp; try with_reducible rfl
        try simp only [Act.put, List.setIfInBounds_toArray, List.set_cons_zero, List.set_cons_succ]
        refine wpAnyH_ready (rs := [22]) (by kernel_rfl) (by simp) ?_
        refine AllReadyH.cons (o := { dst := some 68, op := Op.call { callee := Callee.value (Operand.func 9), args := #[Operand.tmp 66, Operand.tmp 67], argTypes := #[29, 25] }, type := 4, pos := "outright.go:59", after := #[{ on := 20, ground := Ground.data }, { on := 21, ground := Ground.data }, { on := 19, ground := Ground.chain }, { on := 19, ground := Ground.guard }], guard := some (19, true) }) rfl (fun K hK => ?_) AllReadyH.nil
        go_simp
        with_reducible refine (H11.out _ (HOn5.out.get 2 rfl)).mono ?_
        rintro e wn6 ⟨rfl, b9⟩
        have HBn6 := Lib.hid (then_ HBn5.out b9)
        have HKn6 := Lib.hid (HKn5.out.later b9)
        have HOn6 := Lib.hid (HOn5.out.later b9)
        clear b9
        try go_wp2_with fail
        clear hHeld
        refine hK.out _ _ ?_ (fun hHeld => ?_)
        · exact cells5 HKn6.out
        clear hK K
        try simp only [Act.put, List.setIfInBounds_toArray, List.set_cons_zero, List.set_cons_succ]
        refine held_take 23 (oi := { dst := some 69, op := Op.unOp UnOp.not 4 (Operand.tmp 68), type := 4, pos := "outright.go:59", after := #[{ on := 22, ground := Ground.data }, { on := 19, ground := Ground.guard }], guard := some (19, true) }) (v := ?_) rfl (by kernel_rfl) (by kernel_rfl) (by kernel_rfl) (fun _ _ _ h => h) (by rfl) ?_ hHeld ?_
        rotate_left
        · intro w9 hS9; (try dsimp only at hS9); go_simp; try with_reducible rfl
        try simp only [Act.put, List.setIfInBounds_toArray, List.set_cons_zero, List.set_cons_succ]
        refine held_take 24 (oi := { dst := some 70, op := Op.pick (Operand.tmp 65) (Operand.tmp 69) (Operand.const (Value.bool false)), type := 4, pos := "outright.go:59", after := #[{ on := 19, ground := Ground.data }, { on := 23, ground := Ground.data }, { on := 12, ground := Ground.guard }], guard := some (12, false) }) (v := ?_) rfl (by kernel_rfl) (by kernel_rfl) (by kernel_rfl) (fun _ _ _ h => h) (by rfl) ?_ hHeld ?_
        rotate_left
        · intro w9 hS9; (try dsimp only at hS9); go_simp; try with_reducible rfl
        try simp only [Act.put, List.setIfInBounds_toArray, List.set_cons_zero, List.set_cons_succ]
        refine held_take 25 (oi := { dst := some 71, op := Op.binOp BinOp.neq 4 (Operand.tmp 61) (Operand.tmp 70) 4, type := 4, pos := "outright.go:59", after := #[{ on := 15, ground := Ground.data }, { on := 24, ground := Ground.data }, { on := 12, ground := Ground.guard }], guard := some (12, false) }) (v := ?_) rfl (by kernel_rfl) (by kernel_rfl) (by kernel_rfl) (fun _ _ _ h => h) (by rfl) ?_ hHeld ?_
        rotate_left
        · intro w9 hS9; (try dsimp only at hS9); go_simp; try with_reducible rfl
        try simp only [Act.put, List.setIfInBounds_toArray, List.set_cons_zero, List.set_cons_succ]
        refine held_take 26 (oi := { dst := some 72, op := Op.pick (Operand.tmp 58) (Operand.const (Value.bool true)) (Operand.tmp 71), type := 4, pos := "outright.go:59", after := #[{ on := 12, ground := Ground.data }, { on := 25, ground := Ground.data }], guard := none }) (v := ?_) rfl (by kernel_rfl) (by kernel_rfl) (by kernel_rfl) (fun _ _ _ h => h) (by rfl) ?_ hHeld ?_
        rotate_left
        · intro w9 hS9; (try dsimp only at hS9); go_simp; try with_reducible rfl
        try simp only [Act.put, List.setIfInBounds_toArray, List.set_cons_zero, List.set_cons_succ]
        refine held_take 27 (oi := { dst := some 73, op := Op.move (Operand.tmp 72), type := 4, pos := "outright.go:59", after := #[{ on := 26, ground := Ground.data }, { on := 22, ground := Ground.chain }], guard := none }) (v := ?_) rfl (by kernel_rfl) (by kernel_rfl) (by kernel_rfl) (fun _ _ _ h => h) (by rfl) ?_ hHeld ?_
        rotate_left
        · intro w9 hS9; (try dsimp only at hS9); go_simp; try with_reducible rfl
        try simp only [Act.put, List.setIfInBounds_toArray, List.set_cons_zero, List.set_cons_succ]
        refine held_take 28 (oi := { dst := some 74, op := Op.load 29 (Operand.tmp 9), type := 29, pos := "outright.go:59", after := #[{ on := 27, ground := Ground.guard }], guard := some (27, false) }) (v := ?_) rfl (by kernel_rfl) (by kernel_rfl) (by kernel_rfl) (fun _ _ _ h => h) (by rfl) ?_ hHeld ?_
        rotate_left
        · intro w9 hS9; (try dsimp only at hS9); go_simp; try with_reducible rfl
        try simp only [Act.put, List.setIfInBounds_toArray, List.set_cons_zero, List.set_cons_succ]
        refine held_take 29 (oi := { dst := some 75, op := Op.load 29 (Operand.tmp 11), type := 29, pos := "outright.go:59", after := #[{ on := 27, ground := Ground.guard }], guard := some (27, false) }) (v := ?_) rfl (by kernel_rfl) (by kernel_rfl) (by kernel_rfl) (fun _ _ _ h => h) (by rfl) ?_ hHeld ?_
        rotate_left
        · intro w9 hS9; (try dsimp only at hS9); go_simp; try with_reducible rfl
        try simp only [Act.put, List.setIfInBounds_toArray, List.set_cons_zero, List.set_cons_succ]
        refine held_take 31 (oi := { dst := some 77, op := Op.load 29 (Operand.tmp 14), type := 29, pos := "outright.go:59", after := #[{ on := 27, ground := Ground.guard }], guard := some (27, false) }) (v := ?_) rfl (by kernel_rfl) (by kernel_rfl) (by kernel_rfl) (fun _ _ _ h => h) (by rfl) ?_ hHeld ?_
        rotate_left
        · intro w9 hS9; (try dsimp only at hS9); go_simp; try with_reducible rfl
        try simp only [Act.put, List.setIfInBounds_toArray, List.set_cons_zero, List.set_cons_succ]
        refine wpAnyH_ready (rs := [30]) (by kernel_rfl) (by simp) ?_
        refine AllReadyH.cons (o := { dst := some 76, op := Op.call { callee := Callee.value (Operand.func 10), args := #[Operand.tmp 74, Operand.tmp 75], argTypes := #[29, 29] }, type := 4, pos := "outright.go:59", after := #[{ on := 28, ground := Ground.data }, { on := 29, ground := Ground.data }, { on := 27, ground := Ground.chain }, { on := 27, ground := Ground.guard }], guard := some (27, false) }) rfl (fun K hK => ?_) AllReadyH.nil
        go_simp
        with_reducible refine (HW1.out _ (HOn6.out.get 3 rfl) (HOn6.out.get 2 rfl)).mono ?_
        rintro e wn7 ⟨rfl, b9⟩
        have HBn7 := Lib.hid (then_ HBn6.out b9)
        have HKn7 := Lib.hid (HKn6.out.later b9)
        have HOn7 := Lib.hid (HOn6.out.later b9)
        clear b9
        try go_wp2_with fail
        clear hHeld
        refine hK.out _ _ ?_ (fun hHeld => ?_)
        · exact cells5 HKn7.out
        clear hK K
        try simp only [Act.put, List.setIfInBounds_toArray, List.set_cons_zero, List.set_cons_succ]
        refine wpAnyH_ready (rs := [32]) (by kernel_rfl) (by simp) ?_
        refine AllReadyH.cons (o := { dst := some 78, op := Op.call { callee := Callee.value (Operand.func 11), args := #[Operand.tmp 77], argTypes := #[29] }, type := 4, pos := "outright.go:59", after := #[{ on := 31, ground := Ground.data }, { on := 30, ground := Ground.chain }, { on := 27, ground := Ground.guard }], guard := some (27, false) }) rfl (fun K hK => ?_) AllReadyH.nil
        go_simp
        with_reducible refine (HE.out _ (HOn7.out.get 0 rfl)).mono ?_
        rintro e wn8 ⟨rfl, b9⟩
        have HBn8 := Lib.hid (then_ HBn7.out b9)
        have HKn8 := Lib.hid (HKn7.out.later b9)
        have HOn8 := Lib.hid (HOn7.out.later b9)
        clear b9
        try go_wp2_with fail
        clear hHeld
        refine hK.out _ _ ?_ (fun hHeld => ?_)
        · exact cells5 HKn8.out
        clear hK K
        try simp only [Act.put, List.setIfInBounds_toArray, List.set_cons_zero, List.set_cons_succ]
        refine held_take 33 (oi := { dst := some 79, op := Op.binOp BinOp.neq 4 (Operand.tmp 76) (Operand.tmp 78) 4, type := 4, pos := "outright.go:59", after := #[{ on := 30, ground := Ground.data }, { on := 32, ground := Ground.data }, { on := 27, ground := Ground.guard }], guard := some (27, false) }) (v := ?_) rfl (by kernel_rfl) (by kernel_rfl) (by kernel_rfl) (fun _ _ _ h => h) (by rfl) ?_ hHeld ?_
        rotate_left
        · intro w9 hS9; (try dsimp only at hS9); go_simp; try with_reducible rfl
        try simp only [Act.put, List.setIfInBounds_toArray, List.set_cons_zero, List.set_cons_succ]
        refine held_take 34 (oi := { dst := some 80, op := Op.pick (Operand.tmp 73) (Operand.const (Value.bool true)) (Operand.tmp 79), type := 4, pos := "outright.go:59", after := #[{ on := 27, ground := Ground.data }, { on := 33, ground := Ground.data }], guard := none }) (v := ?_) rfl (by kernel_rfl) (by kernel_rfl) (by kernel_rfl) (fun _ _ _ h => h) (by rfl) ?_ hHeld ?_
        rotate_left
        · intro w9 hS9; (try dsimp only at hS9); go_simp; try with_reducible rfl
        try simp only [Act.put, List.setIfInBounds_toArray, List.set_cons_zero, List.set_cons_succ]
        refine held_take 35 (oi := { dst := some 81, op := Op.move (Operand.tmp 80), type := 4, pos := "outright.go:59", after := #[{ on := 34, ground := Ground.data }, { on := 32, ground := Ground.chain }], guard := none }) (v := ?_) rfl (by kernel_rfl) (by kernel_rfl) (by kernel_rfl) (fun _ _ _ h => h) (by rfl) ?_ hHeld ?_
        rotate_left
        · intro w9 hS9; (try dsimp only at hS9); go_simp; try with_reducible rfl
        try simp only [Act.put, List.setIfInBounds_toArray, List.set_cons_zero, List.set_cons_succ]
        refine held_take 36 (oi := { dst := some 82, op := Op.load 29 (Operand.tmp 13), type := 29, pos := "outright.go:59", after := #[{ on := 35, ground := Ground.guard }], guard := some (35, false) }) (v := ?_) rfl (by kernel_rfl) (by kernel_rfl) (by kernel_rfl) (fun _ _ _ h => h) (by rfl) ?_ hHeld ?_
        rotate_left
        · intro w9 hS9; (try dsimp only at hS9); go_simp; try with_reducible rfl
        try simp only [Act.put, List.setIfInBounds_toArray, List.set_cons_zero, List.set_cons_succ]
        refine held_take 37 (oi := { dst := some 83, op := Op.load 29 (Operand.tmp 9), type := 29, pos := "outright.go:59", after := #[{ on := 35, ground := Ground.guard }], guard := some (35, false) }) (v := ?_) rfl (by kernel_rfl) (by kernel_rfl) (by kernel_rfl) (fun _ _ _ h => h) (by rfl) ?_ hHeld ?_
        rotate_left
        · intro w9 hS9; (try dsimp only at hS9); go_simp; try with_reducible rfl
        try simp only [Act.put, List.setIfInBounds_toArray, List.set_cons_zero, List.set_cons_succ]
        refine wpAnyH_ready (rs := [38]) (by kernel_rfl) (by simp) ?_
        refine AllReadyH.cons (o := { dst := some 84, op := Op.call { callee := Callee.value (Operand.func 10), args := #[Operand.tmp 82, Operand.tmp 83], argTypes := #[29, 29] }, type := 4, pos := "outright.go:59", after := #[{ on := 36, ground := Ground.data }, { on := 37, ground := Ground.data }, { on := 35, ground := Ground.chain }, { on := 35, ground := Ground.guard }], guard := some (35, false) }) rfl (fun K hK => ?_) AllReadyH.nil
        go_simp
        with_reducible refine (HW2.out _ (HOn8.out.get 1 rfl) (HOn8.out.get 3 rfl)).mono ?_
        rintro e wn9 ⟨rfl, b9⟩
        have HBn9 := Lib.hid (then_ HBn8.out b9)
        have HKn9 := Lib.hid (HKn8.out.later b9)
        have HOn9 := Lib.hid (HOn8.out.later b9)
        clear b9
        try go_wp2_with fail
        clear hHeld
        refine hK.out _ _ ?_ (fun hHeld => ?_)
        · exact cells5 HKn9.out
        clear hK K
        try simp only [Act.put, List.setIfInBounds_toArray, List.set_cons_zero, List.set_cons_succ]
        refine held_take 39 (oi := { dst := some 85, op := Op.unOp UnOp.not 4 (Operand.tmp 84), type := 4, pos := "outright.go:59", after := #[{ on := 38, ground := Ground.data }, { on := 35, ground := Ground.guard }], guard := some (35, false) }) (v := ?_) rfl (by kernel_rfl) (by kernel_rfl) (by kernel_rfl) (fun _ _ _ h => h) (by rfl) ?_ hHeld ?_
        rotate_left
        · intro w9 hS9; (try dsimp only at hS9); go_simp; try with_reducible rfl
        try simp only [Act.put, List.setIfInBounds_toArray, List.set_cons_zero, List.set_cons_succ]
        refine held_take 40 (oi := { dst := some 86, op := Op.pick (Operand.tmp 81) (Operand.const (Value.bool true)) (Operand.tmp 85), type := 4, pos := "outright.go:59", after := #[{ on := 35, ground := Ground.data }, { on := 39, ground := Ground.data }], guard := none }) (v := ?_) rfl (by kernel_rfl) (by kernel_rfl) (by kernel_rfl) (fun _ _ _ h => h) (by rfl) ?_ hHeld ?_
        rotate_left
        · intro w9 hS9; (try dsimp only at hS9); go_simp; try with_reducible rfl
        try simp only [Act.put, List.setIfInBounds_toArray, List.set_cons_zero, List.set_cons_succ]
        refine held_take 41 (oi := { dst := some 87, op := Op.move (Operand.tmp 86), type := 4, pos := "outright.go:59", after := #[{ on := 40, ground := Ground.data }, { on := 38, ground := Ground.chain }], guard := none }) (v := ?_) rfl (by kernel_rfl) (by kernel_rfl) (by kernel_rfl) (fun _ _ _ h => h) (by rfl) ?_ hHeld ?_
        rotate_left
        · intro w9 hS9; (try dsimp only at hS9); go_simp; try with_reducible rfl
        try simp only [Act.put, List.setIfInBounds_toArray, List.set_cons_zero, List.set_cons_succ]
        refine held_take 42 (oi := { dst := some 88, op := Op.load 29 (Operand.tmp 13), type := 29, pos := "outright.go:59", after := #[{ on := 41, ground := Ground.guard }], guard := some (41, false) }) (v := ?_) rfl (by kernel_rfl) (by kernel_rfl) (by kernel_rfl) (fun _ _ _ h => h) (by rfl) ?_ hHeld ?_
        rotate_left
        · intro w9 hS9; (try dsimp only at hS9); go_simp; try with_reducible rfl
        try simp only [Act.put, List.setIfInBounds_toArray, List.set_cons_zero, List.set_cons_succ]
        refine held_take 43 (oi := { dst := some 89, op := Op.load 29 (Operand.tmp 11), type := 29, pos := "outright.go:59", after := #[{ on := 41, ground := Ground.guard }], guard := some (41, false) }) (v := ?_) rfl (by kernel_rfl) (by kernel_rfl) (by kernel_rfl) (fun _ _ _ h => h) (by rfl) ?_ hHeld ?_
        rotate_left
        · intro w9 hS9; (try dsimp only at hS9); go_simp; try with_reducible rfl
        try simp only [Act.put, List.setIfInBounds_toArray, List.set_cons_zero, List.set_cons_succ]
        refine wpAnyH_ready (rs := [44]) (by kernel_rfl) (by simp) ?_
        refine AllReadyH.cons (o := { dst := some 90, op := Op.call { callee := Callee.value (Operand.func 10), args := #[Operand.tmp 88, Operand.tmp 89], argTypes := #[29, 29] }, type := 4, pos := "outright.go:59", after := #[{ on := 42, ground := Ground.data }, { on := 43, ground := Ground.data }, { on := 41, ground := Ground.chain }, { on := 41, ground := Ground.guard }], guard := some (41, false) }) rfl (fun K hK => ?_) AllReadyH.nil
        go_simp
        with_reducible refine (HW3.out _ (HOn9.out.get 1 rfl) (HOn9.out.get 2 rfl)).mono ?_
        rintro e wn10 ⟨rfl, b9⟩
        have HBn10 := Lib.hid (then_ HBn9.out b9)
        have HKn10 := Lib.hid (HKn9.out.later b9)
        have HOn10 := Lib.hid (HOn9.out.later b9)
        clear b9
        try go_wp2_with fail
        clear hHeld
        refine hK.out _ _ ?_ (fun hHeld => ?_)
        · exact cells5 HKn10.out
        clear hK K
        try simp only [Act.put, List.setIfInBounds_toArray, List.set_cons_zero, List.set_cons_succ]
        refine held_take 45 (oi := { dst := some 91, op := Op.unOp UnOp.not 4 (Operand.tmp 90), type := 4, pos := "outright.go:59", after := #[{ on := 44, ground := Ground.data }, { on := 41, ground := Ground.guard }], guard := some (41, false) }) (v := ?_) rfl (by kernel_rfl) (by kernel_rfl) (by kernel_rfl) (fun _ _ _ h => h) (by rfl) ?_ hHeld ?_
        rotate_left
        · intro w9 hS9; (try dsimp only at hS9); go_simp; try with_reducible rfl
        try simp only [Act.put, List.setIfInBounds_toArray, List.set_cons_zero, List.set_cons_succ]
        refine held_take 46 (oi := { dst := some 92, op := Op.pick (Operand.tmp 87) (Operand.const (Value.bool true)) (Operand.tmp 91), type := 4, pos := "outright.go:59", after := #[{ on := 41, ground := Ground.data }, { on := 45, ground := Ground.data }], guard := none }) (v := ?_) rfl (by kernel_rfl) (by kernel_rfl) (by kernel_rfl) (fun _ _ _ h => h) (by rfl) ?_ hHeld ?_
        rotate_left
        · intro w9 hS9; (try dsimp only at hS9); go_simp; try with_reducible rfl
        try simp only [Act.put, List.setIfInBounds_toArray, List.set_cons_zero, List.set_cons_succ]
        refine held_take 47 (oi := { dst := some 93, op := Op.move (Operand.tmp 92), type := 4, pos := "outright.go:59", after := #[{ on := 46, ground := Ground.data }, { on := 44, ground := Ground.chain }], guard := none }) (v := ?_) rfl (by kernel_rfl) (by kernel_rfl) (by kernel_rfl) (fun _ _ _ h => h) (by rfl) ?_ hHeld ?_
        rotate_left
        · intro w9 hS9; (try dsimp only at hS9); go_simp; try with_reducible rfl
        try simp only [Act.put, List.setIfInBounds_toArray, List.set_cons_zero, List.set_cons_succ]
        refine held_take 48 (oi := { dst := some 94, op := Op.load 29 (Operand.tmp 14), type := 29, pos := "outright.go:59", after := #[{ on := 47, ground := Ground.guard }], guard := some (47, false) }) (v := ?_) rfl (by kernel_rfl) (by kernel_rfl) (by kernel_rfl) (fun _ _ _ h => h) (by rfl) ?_ hHeld ?_
        rotate_left
        · intro w9 hS9; (try dsimp only at hS9); go_simp; try with_reducible rfl
        try simp only [Act.put, List.setIfInBounds_toArray, List.set_cons_zero, List.set_cons_succ]
        refine held_take 49 (oi := { dst := some 95, op := Op.load 29 (Operand.tmp 9), type := 29, pos := "outright.go:59", after := #[{ on := 47, ground := Ground.guard }], guard := some (47, false) }) (v := ?_) rfl (by kernel_rfl) (by kernel_rfl) (by kernel_rfl) (fun _ _ _ h => h) (by rfl) ?_ hHeld ?_
        rotate_left
        · intro w9 hS9; (try dsimp only at hS9); go_simp; try with_reducible rfl
        try simp only [Act.put, List.setIfInBounds_toArray, List.set_cons_zero, List.set_cons_succ]
        refine wpAnyH_ready (rs := [50]) (by kernel_rfl) (by simp) ?_
        refine AllReadyH.cons (o := { dst := some 96, op := Op.call { callee := Callee.value (Operand.func 10), args := #[Operand.tmp 94, Operand.tmp 95], argTypes := #[29, 29] }, type := 4, pos := "outright.go:59", after := #[{ on := 48, ground := Ground.data }, { on := 49, ground := Ground.data }, { on := 47, ground := Ground.chain }, { on := 47, ground := Ground.guard }], guard := some (47, false) }) rfl (fun K hK => ?_) AllReadyH.nil
        go_simp
        with_reducible refine (HW4.out _ (HOn10.out.get 0 rfl) (HOn10.out.get 3 rfl)).mono ?_
        rintro e wn11 ⟨rfl, b9⟩
        have HBn11 := Lib.hid (then_ HBn10.out b9)
        have HKn11 := Lib.hid (HKn10.out.later b9)
        have HOn11 := Lib.hid (HOn10.out.later b9)
        clear b9
        try go_wp2_with fail
        clear hHeld
        refine hK.out _ _ ?_ (fun hHeld => ?_)
        · exact cells5 HKn11.out
        clear hK K
        try simp only [Act.put, List.setIfInBounds_toArray, List.set_cons_zero, List.set_cons_succ]
        refine held_take 51 (oi := { dst := some 97, op := Op.unOp UnOp.not 4 (Operand.tmp 96), type := 4, pos := "outright.go:59", after := #[{ on := 50, ground := Ground.data }, { on := 47, ground := Ground.guard }], guard := some (47, false) }) (v := ?_) rfl (by kernel_rfl) (by kernel_rfl) (by kernel_rfl) (fun _ _ _ h => h) (by rfl) ?_ hHeld ?_
        rotate_left
        · intro w9 hS9; (try dsimp only at hS9); go_simp; try with_reducible rfl
        try simp only [Act.put, List.setIfInBounds_toArray, List.set_cons_zero, List.set_cons_succ]
        refine held_take 52 (oi := { dst := some 98, op := Op.pick (Operand.tmp 93) (Operand.const (Value.bool true)) (Operand.tmp 97), type := 4, pos := "outright.go:59", after := #[{ on := 47, ground := Ground.data }, { on := 51, ground := Ground.data }], guard := none }) (v := ?_) rfl (by kernel_rfl) (by kernel_rfl) (by kernel_rfl) (fun _ _ _ h => h) (by rfl) ?_ hHeld ?_
        rotate_left
        · intro w9 hS9; (try dsimp only at hS9); go_simp; try with_reducible rfl
        try simp only [Act.put, List.setIfInBounds_toArray, List.set_cons_zero, List.set_cons_succ]
        refine held_take 53 (oi := { dst := some 99, op := Op.move (Operand.tmp 98), type := 4, pos := "outright.go:59", after := #[{ on := 52, ground := Ground.data }, { on := 50, ground := Ground.chain }], guard := none }) (v := ?_) rfl (by kernel_rfl) (by kernel_rfl) (by kernel_rfl) (fun _ _ _ h => h) (by rfl) ?_ hHeld ?_
        rotate_left
        · intro w9 hS9; (try dsimp only at hS9); go_simp; try with_reducible rfl
        try simp only [Act.put, List.setIfInBounds_toArray, List.set_cons_zero, List.set_cons_succ]
        refine held_take 54 (oi := { dst := some 100, op := Op.load 29 (Operand.tmp 14), type := 29, pos := "outright.go:59", after := #[{ on := 53, ground := Ground.guard }], guard := some (53, false) }) (v := ?_) rfl (by kernel_rfl) (by kernel_rfl) (by kernel_rfl) (fun _ _ _ h => h) (by rfl) ?_ hHeld ?_
        rotate_left
        · intro w9 hS9; (try dsimp only at hS9); go_simp; try with_reducible rfl
        try simp only [Act.put, List.setIfInBounds_toArray, List.set_cons_zero, List.set_cons_succ]
        refine held_take 55 (oi := { dst := some 101, op := Op.load 29 (Operand.tmp 11), type := 29, pos := "outright.go:59", after := #[{ on := 53, ground := Ground.guard }], guard := some (53, false) }) (v := ?_) rfl (by kernel_rfl) (by kernel_rfl) (by kernel_rfl) (fun _ _ _ h => h) (by rfl) ?_ hHeld ?_
        rotate_left
        · intro w9 hS9; (try dsimp only at hS9); go_simp; try with_reducible rfl
        try simp only [Act.put, List.setIfInBounds_toArray, List.set_cons_zero, List.set_cons_succ]
        refine wpAnyH_ready (rs := [56]) (by kernel_rfl) (by simp) ?_
        refine AllReadyH.cons (o := { dst := some 102, op := Op.call { callee := Callee.value (Operand.func 7), args := #[Operand.tmp 100, Operand.tmp 101], argTypes := #[29, 29] }, type := 29, pos := "outright.go:59", after := #[{ on := 54, ground := Ground.data }, { on := 55, ground := Ground.data }, { on := 53, ground := Ground.chain }, { on := 53, ground := Ground.guard }], guard := some (53, false) }) rfl (fun K hK => ?_) AllReadyH.nil
        go_simp
        with_reducible refine (HAm.out _ (HOn11.out.get 0 rfl) (HOn11.out.get 2 rfl)).mono ?_
        rintro e wn12 ⟨km, rfl, hq9, b9⟩
        have hqm := Lib.hid hq9
        clear hq9
        have HBn12 := Lib.hid (then_ HBn11.out b9)
        have HKn12 := Lib.hid (HKn11.out.later b9)
        have HOn12 := Lib.hid (HOn11.out.later b9)
        clear b9
        try go_wp2_with fail
        clear hHeld
        refine hK.out _ _ ?_ (fun hHeld => ?_)
        · exact cells5 HKn12.out
        clear hK K
        try simp only [Act.put, List.setIfInBounds_toArray, List.set_cons_zero, List.set_cons_succ]
        refine wpAnyH_ready (rs := [57]) (by kernel_rfl) (by simp) ?_
        refine AllReadyH.cons (o := { dst := some 103, op := Op.call { callee := Callee.value (Operand.func 11), args := #[Operand.tmp 102], argTypes := #[29] }, type := 4, pos := "outright.go:59", after := #[{ on := 56, ground := Ground.data }, { on := 56, ground := Ground.chain }, { on := 53, ground := Ground.guard }], guard := some (53, false) }) rfl (fun K hK => ?_) AllReadyH.nil
        go_simp
        with_reducible refine (HEm.out _ _ hqm.out).mono ?_
        rintro e wn13 ⟨rfl, b9⟩
        have HBn13 := Lib.hid (then_ HBn12.out b9)
        have HKn13 := Lib.hid (HKn12.out.later b9)
        have HOn13 := Lib.hid (HOn12.out.later b9)
        clear b9
        try go_wp2_with fail
        clear hHeld
        refine hK.out _ _ ?_ (fun hHeld => ?_)
        · exact cells5 HKn13.out
        clear hK K
        try simp only [Act.put, List.setIfInBounds_toArray, List.set_cons_zero, List.set_cons_succ]
        refine held_take 58 (oi := { dst := some 104, op := Op.unOp UnOp.not 4 (Operand.tmp 103), type := 4, pos := "outright.go:59", after := #[{ on := 57, ground := Ground.data }, { on := 53, ground := Ground.guard }], guard := some (53, false) }) (v := ?_) rfl (by kernel_rfl) (by kernel_rfl) (by kernel_rfl) (fun _ _ _ h => h) (by rfl) ?_ hHeld ?_
        rotate_left
        · intro w9 hS9; (try dsimp only at hS9); go_simp; try with_reducible rfl
        try simp only [Act.put, List.setIfInBounds_toArray, List.set_cons_zero, List.set_cons_succ]
        refine held_take 59 (oi := { dst := some 105, op := Op.pick (Operand.tmp 99) (Operand.const (Value.bool true)) (Operand.tmp 104), type := 4, pos := "outright.go:59", after := #[{ on := 53, ground := Ground.data }, { on := 58, ground := Ground.data }], guard := none }) (v := ?_) rfl (by kernel_rfl) (by kernel_rfl) (by kernel_rfl) (fun _ _ _ h => h) (by rfl) ?_ hHeld ?_
        rotate_left
        · intro w9 hS9; (try dsimp only at hS9); go_simp; try with_reducible rfl
        try simp only [Act.put, List.setIfInBounds_toArray, List.set_cons_zero, List.set_cons_succ]
        refine wpAnyH_done (by kernel_rfl) ?_ _
        try go_wp2_with fail
        go_meet
        exact ⟨rfl, HBn13, HKn13, HOn13⟩
    case rest =>
      obtain ⟨rfl, HB, HK, HO⟩ := hcut
      obtain ⟨q0, q1, q2, q3, q4, q5, q6, q7, q8, q9, q10, q11, q12, q13, q14, q15, q16, q17, q18, q19⟩ := cells5 HK.out
      clear HW1 HE HW2 HW3 HW4 HAm HEm H9 H11 H13 H14
      have HS := Lib.hid (fun W (a : OwnR W k14 (minusR r s)) => some_any k14 (minusR r s) W (a.rg HLm.out (by omega)))
      have HT := Lib.hid (fun W (a : OwnR W k13 (andR r s)) => some_any k13 (andR r s) W (a.rg HLa.out (by omega)))
      have HE14 := Lib.hid (fun W (a : OwnR W k14 (minusR r s)) => empty_any k14 (minusR r s) W (a.rg HLm.out (by omega)))
      have HE13 := Lib.hid (fun W (a : OwnR W k13 (andR r s)) => empty_any k13 (andR r s) W (a.rg HLa.out (by omega)))
      rw [show emptyR (minusR r s) = !(someR (minusR r s)).2 from rfl] at HE14
      rw [show emptyR (andR r s) = !(someR (andR r s)).2 from rfl] at HE13
      have Hy : (someR (minusR r s)).2 = true → hasR r (someR (minusR r s)).1 = true ∧ hasR s (someR (minusR r s)).1 = false := fun h => by
        obtain ⟨a, b⟩ := some_has HWm.out h
        rw [has_minus HWr.out HWs.out b] at a
        simpa using a
      have Hz : (someR (andR r s)).2 = true → hasR r (someR (andR r s)).1 = true ∧ hasR s (someR (andR r s)).1 = true := fun h => by
        obtain ⟨a, b⟩ := some_has HWa.out h
        rw [has_and HWr.out HWs.out] at a
        simpa using a
      generalize (someR (minusR r s)).1 = y at HS Hy
      generalize (someR (andR r s)).1 = z at HT Hz
      have HRy := Lib.hid (fun W (a : OwnR W k9 r) => has_any k9 r y W (a.rg HLr.out (by omega)))
      have HSy := Lib.hid (fun W (a : OwnR W k11 s) => has_any k11 s y W (a.rg HLs.out (by omega)))
      have HRz := Lib.hid (fun W (a : OwnR W k9 r) => has_any k9 r z W (a.rg HLr.out (by omega)))
      have HSz := Lib.hid (fun W (a : OwnR W k11 s) => has_any k11 s z W (a.rg HLs.out (by omega)))
      generalize (someR (minusR r s)).2 = b1 at HS Hy HE14
      generalize (someR (andR r s)).2 = b2 at HT Hz HE13
      go_wp2_with fail
      refine (HS.out _ (HO.out.get 0 rfl)).mono ?_; rintro e ws1 ⟨rfl, b9⟩
      have HBs1 : Hid (Below w.heap.size w (ws1.alloc (.cells (vlc y) 25))) := Lib.hid (bAl (then_ HB.out b9) _)
      have HKs1 : Hid (Bks (ws1.alloc (.cells (vlc y) 25)) ((ws1.heap.size, 25, vlc y) :: _)) := Lib.hid ((HK.out.later b9).push (below_one _ _) (Blk.new _ _ _))
      have HOs1 : Hid (Ows (ws1.alloc (.cells (vlc y) 25)) _) := Lib.hid ((HO.out.later b9).al _)
      clear b9 HB HK HO
      clear q0 q1 q2 q3 q4 q5 q6 q7 q8 q9 q10 q11 q12 q13 q14 q15 q16 q17 q18 q19
      obtain ⟨q0, q1, q2, q3, q4, q5, q6, q7, q8, q9, q10, q11, q12, q13, q14, q15, q16, q17, q18, q19⟩ := cells5 HKs1.out.tail
      have v00 := (HKs1.out.get 0 rfl).cell 0 rfl; have v01 := (HKs1.out.get 0 rfl).cell 1 rfl; have v02 := (HKs1.out.get 0 rfl).cell 2 rfl; have v03 := (HKs1.out.get 0 rfl).cell 3 rfl
      go_upto_region 9 with fail
      clear q0 q1 q2 q3 q4 q5 q6 q7 q8 q9 q10 q11 q12 q13 q14 q15 q16 q17 q18 q19
      go_cut [128] from 111 to 128 (fun t wq => t = .bool false ∧ Hid (Below w.heap.size w wq) ∧ Hid (Bks wq [(J14, 29, rgc k14 (minusR r s)), (J13, 29, rgc k13 (andR r s)), (g11, 29, rgc k11 s), (g9, 29, rgc k9 r), (w.heap.size, 25, vlc x)]) ∧ Hid (Ows wq [(k14, minusR r s), (k13, andR r s), (k11, s), (k9, r)]))
      case first =>
        cases b1
        · clear Hy HRy HSy
          as_aux_lemma =>
            obtain ⟨q0, q1, q2, q3, q4, q5, q6, q7, q8, q9, q10, q11, q12, q13, q14, q15, q16, q17, q18, q19⟩ := cells5 HKs1.out.tail
            have v00 := (HKs1.out.get 0 rfl).cell 0 rfl; have v01 := (HKs1.out.get 0 rfl).cell 1 rfl; have v02 := (HKs1.out.get 0 rfl).cell 2 rfl; have v03 := (HKs1.out.get 0 rfl).cell 3 rfl
            go_wp2_with fail
            clear q0 q1 q2 q3 q4 q5 q6 q7 q8 q9 q10 q11 q12 q13 q14 q15 q16 q17 q18 q19
            refine (HE14.out _ (HOs1.out.get 0 rfl)).mono ?_; rintro e ws1a ⟨rfl, b9⟩
            have HBs1a := Lib.hid (then_ HBs1.out b9)
            have HKs1a := Lib.hid (HKs1.out.later b9)
            have HOs1a := Lib.hid (HOs1.out.later b9)
            clear b9 HBs1 HKs1 HOs1
            obtain ⟨q0, q1, q2, q3, q4, q5, q6, q7, q8, q9, q10, q11, q12, q13, q14, q15, q16, q17, q18, q19⟩ := cells5 HKs1a.out.tail
            have v00 := (HKs1a.out.get 0 rfl).cell 0 rfl; have v01 := (HKs1a.out.get 0 rfl).cell 1 rfl; have v02 := (HKs1a.out.get 0 rfl).cell 2 rfl; have v03 := (HKs1a.out.get 0 rfl).cell 3 rfl
            go_wp2_with fail
            go_meet
            exact ⟨rfl, HBs1a, Lib.hid HKs1a.out.tail, HOs1a⟩
        · obtain ⟨y1, y2⟩ := Hy rfl; rw [y1] at HRy; rw [y2] at HSy; clear y1 y2 Hy
          as_aux_lemma =>
            obtain ⟨q0, q1, q2, q3, q4, q5, q6, q7, q8, q9, q10, q11, q12, q13, q14, q15, q16, q17, q18, q19⟩ := cells5 HKs1.out.tail
            have v00 := (HKs1.out.get 0 rfl).cell 0 rfl; have v01 := (HKs1.out.get 0 rfl).cell 1 rfl; have v02 := (HKs1.out.get 0 rfl).cell 2 rfl; have v03 := (HKs1.out.get 0 rfl).cell 3 rfl
            go_wp2_with fail
            clear q0 q1 q2 q3 q4 q5 q6 q7 q8 q9 q10 q11 q12 q13 q14 q15 q16 q17 q18 q19
            refine (HE14.out _ (HOs1.out.get 0 rfl)).mono ?_; rintro e ws1a ⟨rfl, b9⟩
            have HBs1a := Lib.hid (then_ HBs1.out b9)
            have HKs1a := Lib.hid (HKs1.out.later b9)
            have HOs1a := Lib.hid (HOs1.out.later b9)
            clear b9 HBs1 HKs1 HOs1
            obtain ⟨q0, q1, q2, q3, q4, q5, q6, q7, q8, q9, q10, q11, q12, q13, q14, q15, q16, q17, q18, q19⟩ := cells5 HKs1a.out.tail
            have v00 := (HKs1a.out.get 0 rfl).cell 0 rfl; have v01 := (HKs1a.out.get 0 rfl).cell 1 rfl; have v02 := (HKs1a.out.get 0 rfl).cell 2 rfl; have v03 := (HKs1a.out.get 0 rfl).cell 3 rfl
            go_wp2_with fail
            clear q0 q1 q2 q3 q4 q5 q6 q7 q8 q9 q10 q11 q12 q13 q14 q15 q16 q17 q18 q19
            refine (HRy.out _ (HOs1a.out.get 3 rfl)).mono ?_; rintro e ws1b ⟨rfl, b9⟩
            have HBs1b := Lib.hid (then_ HBs1a.out b9)
            have HKs1b := Lib.hid (HKs1a.out.later b9)
            have HOs1b := Lib.hid (HOs1a.out.later b9)
            clear b9 HBs1a HKs1a HOs1a
            obtain ⟨q0, q1, q2, q3, q4, q5, q6, q7, q8, q9, q10, q11, q12, q13, q14, q15, q16, q17, q18, q19⟩ := cells5 HKs1b.out.tail
            have v00 := (HKs1b.out.get 0 rfl).cell 0 rfl; have v01 := (HKs1b.out.get 0 rfl).cell 1 rfl; have v02 := (HKs1b.out.get 0 rfl).cell 2 rfl; have v03 := (HKs1b.out.get 0 rfl).cell 3 rfl
            go_wp2_with fail
            clear q0 q1 q2 q3 q4 q5 q6 q7 q8 q9 q10 q11 q12 q13 q14 q15 q16 q17 q18 q19
            refine (HSy.out _ (HOs1b.out.get 2 rfl)).mono ?_; rintro e ws1c ⟨rfl, b9⟩
            have HBs1c := Lib.hid (then_ HBs1b.out b9)
            have HKs1c := Lib.hid (HKs1b.out.later b9)
            have HOs1c := Lib.hid (HOs1b.out.later b9)
            clear b9 HBs1b HKs1b HOs1b
            obtain ⟨q0, q1, q2, q3, q4, q5, q6, q7, q8, q9, q10, q11, q12, q13, q14, q15, q16, q17, q18, q19⟩ := cells5 HKs1c.out.tail
            have v00 := (HKs1c.out.get 0 rfl).cell 0 rfl; have v01 := (HKs1c.out.get 0 rfl).cell 1 rfl; have v02 := (HKs1c.out.get 0 rfl).cell 2 rfl; have v03 := (HKs1c.out.get 0 rfl).cell 3 rfl
            go_wp2_with fail
            go_meet
            exact ⟨rfl, HBs1c, Lib.hid HKs1c.out.tail, HOs1c⟩
      case rest =>
        obtain ⟨rfl, HB, HK, HO⟩ := hcut
        obtain ⟨wp, hwp⟩ := nameW HB
        subst hwp
        clear Hy HRy HSy HS HE14
        obtain ⟨q0, q1, q2, q3, q4, q5, q6, q7, q8, q9, q10, q11, q12, q13, q14, q15, q16, q17, q18, q19⟩ := cells5 HK.out
        go_wp2_with fail
        refine (HT.out _ (HO.out.get 1 rfl)).mono ?_; rintro e ws5 ⟨rfl, b9⟩
        have HBs5 : Hid (Below w.heap.size w (ws5.alloc (.cells (vlc z) 25))) := Lib.hid (bAl (then_ HB.out b9) _)
        have HKs5 : Hid (Bks (ws5.alloc (.cells (vlc z) 25)) ((ws5.heap.size, 25, vlc z) :: _)) := Lib.hid ((HK.out.later b9).push (below_one _ _) (Blk.new _ _ _))
        have HOs5 : Hid (Ows (ws5.alloc (.cells (vlc z) 25)) _) := Lib.hid ((HO.out.later b9).al _)
        clear b9 HB HK HO
        clear q0 q1 q2 q3 q4 q5 q6 q7 q8 q9 q10 q11 q12 q13 q14 q15 q16 q17 q18 q19
        obtain ⟨q0, q1, q2, q3, q4, q5, q6, q7, q8, q9, q10, q11, q12, q13, q14, q15, q16, q17, q18, q19⟩ := cells5 HKs5.out.tail
        have v00 := (HKs5.out.get 0 rfl).cell 0 rfl; have v01 := (HKs5.out.get 0 rfl).cell 1 rfl; have v02 := (HKs5.out.get 0 rfl).cell 2 rfl; have v03 := (HKs5.out.get 0 rfl).cell 3 rfl
        go_upto_region 12 with fail
        clear q0 q1 q2 q3 q4 q5 q6 q7 q8 q9 q10 q11 q12 q13 q14 q15 q16 q17 q18 q19
        go_cut [152] from 134 to 152 (fun t wq => t = .bool false ∧ Hid (Below w.heap.size w wq) ∧ Hid (Bks wq [(J14, 29, rgc k14 (minusR r s)), (J13, 29, rgc k13 (andR r s)), (g11, 29, rgc k11 s), (g9, 29, rgc k9 r), (w.heap.size, 25, vlc x)]) ∧ Hid (Ows wq [(k14, minusR r s), (k13, andR r s), (k11, s), (k9, r)]))
        case first =>
          cases b2
          · clear Hz HRz HSz
            as_aux_lemma =>
              obtain ⟨q0, q1, q2, q3, q4, q5, q6, q7, q8, q9, q10, q11, q12, q13, q14, q15, q16, q17, q18, q19⟩ := cells5 HKs5.out.tail
              have v00 := (HKs5.out.get 0 rfl).cell 0 rfl; have v01 := (HKs5.out.get 0 rfl).cell 1 rfl; have v02 := (HKs5.out.get 0 rfl).cell 2 rfl; have v03 := (HKs5.out.get 0 rfl).cell 3 rfl
              go_wp2_with fail
              clear q0 q1 q2 q3 q4 q5 q6 q7 q8 q9 q10 q11 q12 q13 q14 q15 q16 q17 q18 q19
              refine (HE13.out _ (HOs5.out.get 1 rfl)).mono ?_; rintro e ws5a ⟨rfl, b9⟩
              have HBs5a := Lib.hid (then_ HBs5.out b9)
              have HKs5a := Lib.hid (HKs5.out.later b9)
              have HOs5a := Lib.hid (HOs5.out.later b9)
              clear b9 HBs5 HKs5 HOs5
              obtain ⟨q0, q1, q2, q3, q4, q5, q6, q7, q8, q9, q10, q11, q12, q13, q14, q15, q16, q17, q18, q19⟩ := cells5 HKs5a.out.tail
              have v00 := (HKs5a.out.get 0 rfl).cell 0 rfl; have v01 := (HKs5a.out.get 0 rfl).cell 1 rfl; have v02 := (HKs5a.out.get 0 rfl).cell 2 rfl; have v03 := (HKs5a.out.get 0 rfl).cell 3 rfl
              go_wp2_with fail
              go_meet
              exact ⟨rfl, HBs5a, Lib.hid HKs5a.out.tail, HOs5a⟩
          · obtain ⟨z1, z2⟩ := Hz rfl; rw [z1] at HRz; rw [z2] at HSz; clear z1 z2 Hz
            as_aux_lemma =>
              obtain ⟨q0, q1, q2, q3, q4, q5, q6, q7, q8, q9, q10, q11, q12, q13, q14, q15, q16, q17, q18, q19⟩ := cells5 HKs5.out.tail
              have v00 := (HKs5.out.get 0 rfl).cell 0 rfl; have v01 := (HKs5.out.get 0 rfl).cell 1 rfl; have v02 := (HKs5.out.get 0 rfl).cell 2 rfl; have v03 := (HKs5.out.get 0 rfl).cell 3 rfl
              go_wp2_with fail
              clear q0 q1 q2 q3 q4 q5 q6 q7 q8 q9 q10 q11 q12 q13 q14 q15 q16 q17 q18 q19
              refine (HE13.out _ (HOs5.out.get 1 rfl)).mono ?_; rintro e ws5a ⟨rfl, b9⟩
              have HBs5a := Lib.hid (then_ HBs5.out b9)
              have HKs5a := Lib.hid (HKs5.out.later b9)
              have HOs5a := Lib.hid (HOs5.out.later b9)
              clear b9 HBs5 HKs5 HOs5
              obtain ⟨q0, q1, q2, q3, q4, q5, q6, q7, q8, q9, q10, q11, q12, q13, q14, q15, q16, q17, q18, q19⟩ := cells5 HKs5a.out.tail
              have v00 := (HKs5a.out.get 0 rfl).cell 0 rfl; have v01 := (HKs5a.out.get 0 rfl).cell 1 rfl; have v02 := (HKs5a.out.get 0 rfl).cell 2 rfl; have v03 := (HKs5a.out.get 0 rfl).cell 3 rfl
              go_wp2_with fail
              clear q0 q1 q2 q3 q4 q5 q6 q7 q8 q9 q10 q11 q12 q13 q14 q15 q16 q17 q18 q19
              refine (HRz.out _ (HOs5a.out.get 3 rfl)).mono ?_; rintro e ws5b ⟨rfl, b9⟩
              have HBs5b := Lib.hid (then_ HBs5a.out b9)
              have HKs5b := Lib.hid (HKs5a.out.later b9)
              have HOs5b := Lib.hid (HOs5a.out.later b9)
              clear b9 HBs5a HKs5a HOs5a
              obtain ⟨q0, q1, q2, q3, q4, q5, q6, q7, q8, q9, q10, q11, q12, q13, q14, q15, q16, q17, q18, q19⟩ := cells5 HKs5b.out.tail
              have v00 := (HKs5b.out.get 0 rfl).cell 0 rfl; have v01 := (HKs5b.out.get 0 rfl).cell 1 rfl; have v02 := (HKs5b.out.get 0 rfl).cell 2 rfl; have v03 := (HKs5b.out.get 0 rfl).cell 3 rfl
              go_wp2_with fail
              clear q0 q1 q2 q3 q4 q5 q6 q7 q8 q9 q10 q11 q12 q13 q14 q15 q16 q17 q18 q19
              refine (HSz.out _ (HOs5b.out.get 2 rfl)).mono ?_; rintro e ws5c ⟨rfl, b9⟩
              have HBs5c := Lib.hid (then_ HBs5b.out b9)
              have HKs5c := Lib.hid (HKs5b.out.later b9)
              have HOs5c := Lib.hid (HOs5b.out.later b9)
              clear b9 HBs5b HKs5b HOs5b
              obtain ⟨q0, q1, q2, q3, q4, q5, q6, q7, q8, q9, q10, q11, q12, q13, q14, q15, q16, q17, q18, q19⟩ := cells5 HKs5c.out.tail
              have v00 := (HKs5c.out.get 0 rfl).cell 0 rfl; have v01 := (HKs5c.out.get 0 rfl).cell 1 rfl; have v02 := (HKs5c.out.get 0 rfl).cell 2 rfl; have v03 := (HKs5c.out.get 0 rfl).cell 3 rfl
              go_wp2_with fail
              go_meet
              exact ⟨rfl, HBs5c, Lib.hid HKs5c.out.tail, HOs5c⟩
        case rest =>
          obtain ⟨rfl, HB, HK, HO⟩ := hcut
          obtain ⟨ws8, hws8⟩ := nameW HB
          subst hws8
          clear Hz HRz HSz HT HE13
          obtain ⟨q0, q1, q2, q3, q4, q5, q6, q7, q8, q9, q10, q11, q12, q13, q14, q15, q16, q17, q18, q19⟩ := cells5 HK.out
          go_wp2_with fail
          have HBs8 := HB
          have HKs8 := HK
          have HOs8 := HO
          clear HB HK HO
          as_aux_lemma =>
            have HPb : Hid (Below w.heap.size w ws8) := HBs8
            have HPk : Hid (Bks ws8 [(J14, 29, rgc k14 (minusR r s)), (J13, 29, rgc k13 (andR r s)), (g11, 29, rgc k11 s), (g9, 29, rgc k9 r), (w.heap.size, 25, vlc x)]) := Lib.hid HKs8.out
            have HPo : Hid (Ows ws8 [(k14, minusR r s), (k13, andR r s), (k11, s), (k9, r)]) := HOs8
            clear HBs8 HKs8 HOs8
            clear q0 q1 q2 q3 q4 q5 q6 q7 q8 q9 q10 q11 q12 q13 q14 q15 q16 q17 q18 q19
            go_cut [19] from 153 to 157 (fun t wq => ∃ J k, t = .pointer (some ⟨J, 0, none⟩) ∧ Hid (Below w.heap.size w wq) ∧ Hid (Blk wq J 29 (rgc k (minusR (andR (andR r s) s) (minusR r s)))) ∧ Hid (Bks wq [(J14, 29, rgc k14 (minusR r s)), (J13, 29, rgc k13 (andR r s)), (g11, 29, rgc k11 s), (g9, 29, rgc k9 r), (w.heap.size, 25, vlc x)]) ∧ Hid (Ows wq [(k, minusR (andR (andR r s) s) (minusR r s)), (k14, minusR r s), (k13, andR r s), (k11, s), (k9, r)]))
            case first =>
              have HAnd := Lib.hid (fun W (a : OwnR W k13 (andR r s)) (b : OwnR W k11 s) => and_o k13 k11 (andR r s) s _ 145 W a b HLa.out HLs.out (by omega))
              have HMin := Lib.hid (fun W k (a : OwnR W k (andR (andR r s) s)) (b : OwnR W k14 (minusR r s)) => minus_o k k14 (andR (andR r s) s) (minusR r s) _ _ W a b (HLa.out.and HLs.out) HLm.out (by omega))
              have HBd : Hid (Below w.heap.size w ws8.drew) := Lib.hid HPb.out.drew
              have HKd : Hid (Bks ws8.drew _) := Lib.hid (HPk.out.later (Below.refl _ ws8).drew)
              have HOd : Hid (Ows ws8.drew _) := Lib.hid (HPo.out.later (Below.refl _ ws8).drew)
              have HBda : Hid (Below w.heap.size w ((ws8.alloc (.cells zRg 29)).drew)) := Lib.hid (HPb.out.alloc HPb.out.size _).drew
              have HKda : Hid (Bks ((ws8.alloc (.cells zRg 29)).drew) _) := Lib.hid (HPk.out.later (below_one ws8 (.cells zRg 29)).drew)
              have HOda : Hid (Ows ((ws8.alloc (.cells zRg 29)).drew) _) := Lib.hid (HPo.out.later (below_one ws8 (.cells zRg 29)).drew)
              have HJda : Hid (Blk ((ws8.alloc (.cells zRg 29)).drew) ws8.heap.size 29 zRg) := Lib.hid (Blk.new ws8 _ _)
              go_region_held3 (fun w9 => w9.cell? ⟨J14, 0, none⟩ = some (.slice k14.p0 (minusR r s).a.length k14.c0) ∧ w9.cell? ⟨J14, 1, none⟩ = some (.slice k14.p1 (minusR r s).b.length k14.c1) ∧ w9.cell? ⟨J14, 2, none⟩ = some (.slice k14.p2 (minusR r s).c.length k14.c2) ∧ w9.cell? ⟨J14, 3, none⟩ = some (.bool (minusR r s).o) ∧ w9.cell? ⟨J13, 0, none⟩ = some (.slice k13.p0 (andR r s).a.length k13.c0) ∧ w9.cell? ⟨J13, 1, none⟩ = some (.slice k13.p1 (andR r s).b.length k13.c1) ∧ w9.cell? ⟨J13, 2, none⟩ = some (.slice k13.p2 (andR r s).c.length k13.c2) ∧ w9.cell? ⟨J13, 3, none⟩ = some (.bool (andR r s).o) ∧ w9.cell? ⟨g11, 0, none⟩ = some (.slice k11.p0 s.a.length k11.c0) ∧ w9.cell? ⟨g11, 1, none⟩ = some (.slice k11.p1 s.b.length k11.c1) ∧ w9.cell? ⟨g11, 2, none⟩ = some (.slice k11.p2 s.c.length k11.c2) ∧ w9.cell? ⟨g11, 3, none⟩ = some (.bool s.o) ∧ w9.cell? ⟨g9, 0, none⟩ = some (.slice k9.p0 r.a.length k9.c0) ∧ w9.cell? ⟨g9, 1, none⟩ = some (.slice k9.p1 r.b.length k9.c1) ∧ w9.cell? ⟨g9, 2, none⟩ = some (.slice k9.p2 r.c.length k9.c2) ∧ w9.cell? ⟨g9, 3, none⟩ = some (.bool r.o) ∧ w9.cell? ⟨w.heap.size, 0, none⟩ = some (.int .i64 x.k) ∧ w9.cell? ⟨w.heap.size, 1, none⟩ = some (.int .i64 x.n) ∧ w9.cell? ⟨w.heap.size, 2, none⟩ = some (.string x.s) ∧ w9.cell? ⟨w.heap.size, 3, none⟩ = some (.bool x.b)) (first | (with_reducible exact cells5 HKM.out) | (with_reducible exact cells5 HKAa.out) | (with_reducible exact cells5 HKA.out) | (with_reducible exact cells5 HKda.out) | (with_reducible exact cells5 HKd.out) | ((with_reducible refine cells5 ?_); (repeat (first | (with_reducible exact HKM.out) | (with_reducible refine Bks.al ?_ _) | (with_reducible refine Bks.putN ?_ HPk.out _ _ (by omega)))); done)) (first | (go_at_call 7; (with_reducible refine (HAnd.out _ (HOd.out.get 1 rfl) (HOd.out.get 2 rfl)).mono ?_); rintro e wA ⟨kA, rfl, hq, bq⟩; have HBA := Lib.hid (then_ HBd.out bq); have HKA := Lib.hid (HKd.out.later bq); have HOA := Lib.hid (HOd.out.push bq hq); have hsA := bq.size; (try simp at hsA); have HBAa : Hid (Below w.heap.size w (wA.alloc (.cells zRg 29))) := Lib.hid (bAl HBA.out _); have HKAa : Hid (Bks (wA.alloc (.cells zRg 29)) _) := Lib.hid (HKA.out.al _); have HOAa : Hid (Ows (wA.alloc (.cells zRg 29)) _) := Lib.hid (HOA.out.al _); have HJAa : Hid (Blk (wA.alloc (.cells zRg 29)) wA.heap.size 29 zRg) := Lib.hid (Blk.new wA _ _); clear bq hq; skip) | (go_at_call 7; (with_reducible refine (HAnd.out _ (HOda.out.get 1 rfl) (HOda.out.get 2 rfl)).mono ?_); rintro e wA ⟨kA, rfl, hq, bq⟩; have HBA := Lib.hid (then_ HBda.out bq); have HKA := Lib.hid (HKda.out.later bq); have HOA := Lib.hid (HOda.out.push bq hq); have hsA := bq.size; (try simp at hsA); have HJA := Lib.hid (HJda.out.later bq); have HBAa : Hid (Below w.heap.size w (wA.alloc (.cells zRg 29))) := Lib.hid (bAl HBA.out _); have HKAa : Hid (Bks (wA.alloc (.cells zRg 29)) _) := Lib.hid (HKA.out.al _); have HOAa : Hid (Ows (wA.alloc (.cells zRg 29)) _) := Lib.hid (HOA.out.al _); have HJAa : Hid (Blk (wA.alloc (.cells zRg 29)) wA.heap.size 29 zRg) := Lib.hid (Blk.new wA _ _); clear bq hq; skip) | (go_at_call 8; (with_reducible refine (HMin.out _ _ (HOA.out.get 0 rfl) (HOA.out.get 1 rfl)).mono ?_); rintro e wM ⟨kM, rfl, hq, bq⟩; have HBM := Lib.hid (then_ HBA.out bq); have HKM := Lib.hid (HKA.out.later bq); have HOM := Lib.hid (HOA.out.push bq hq); have hsM := bq.size; (try simp at hsM); (try (have HJM := Lib.hid (HJA.out.later bq); have y0 := HJM.out.cell 0 rfl; have y1 := HJM.out.cell 1 rfl; have y2 := HJM.out.cell 2 rfl; have y3 := HJM.out.cell 3 rfl; have e0 := HJM.out.free 0; have e1 := HJM.out.free 1; have e2 := HJM.out.free 2; have e3 := HJM.out.free 3)); clear bq hq; skip) | (go_at_call 8; (with_reducible refine (HMin.out _ _ (HOAa.out.get 0 rfl) (HOAa.out.get 1 rfl)).mono ?_); rintro e wM ⟨kM, rfl, hq, bq⟩; have HBM := Lib.hid (then_ HBAa.out bq); have HKM := Lib.hid (HKAa.out.later bq); have HOM := Lib.hid (HOAa.out.push bq hq); have hsM := bq.size; (try simp at hsM); have HJM := Lib.hid (HJAa.out.later bq); have y0 := HJM.out.cell 0 rfl; have y1 := HJM.out.cell 1 rfl; have y2 := HJM.out.cell 2 rfl; have y3 := HJM.out.cell 3 rfl; have e0 := HJM.out.free 0; have e1 := HJM.out.free 1; have e2 := HJM.out.free 2; have e3 := HJM.out.free 3; clear bq hq; skip))
              all_goals (try go_wp2_with fail)
              all_goals go_meet
              all_goals refine ⟨_, kM, rfl, Lib.hid ?_, Lib.hid ?_, Lib.hid ?_, Lib.hid ?_⟩
              all_goals (repeat' first
                | (with_reducible exact HBM.out)
                | (with_reducible exact HKM.out)
                | (with_reducible exact HOM.out.drop2)
                | (with_reducible exact HJM.out)
                | (with_reducible exact Blk.new _ _ _)
                | (with_reducible refine bAl ?_ _)
                | (with_reducible refine bPut ?_ _ _ (by have := HPb.out.size; omega))
                | (with_reducible refine Bks.al ?_ _)
                | (with_reducible refine Bks.putN ?_ HPk.out _ _ (by omega))
                | (with_reducible refine Ows.al ?_ _)
                | (with_reducible refine Ows.put ?_ (cs := zRg) ?_ _ _)
                | (with_reducible refine blkC ?_ _ _)
                | (with_reducible refine Blk.alloc ?_ _)
                | fail)
            case rest =>
              obtain ⟨J19, k19, rfl, HB, HJ, HK, HO⟩ := hcut
              obtain ⟨Wq, hWq⟩ := nameW HB
              subst hWq
              have HLt := Lib.hid ((HLa.out.and HLs.out).minus HLm.out)
              have HWt := Lib.hid ((HWa.out.and HWs.out).minus HWm.out)
              have hT : ∀ y, Okv y → hasR (minusR (andR (andR r s) s) (minusR r s)) y = (hasR r y && hasR s y) := fun y hy => by rw [has_minus (HWa.out.and HWs.out) HWm.out hy, has_and HWa.out HWs.out, has_and HWr.out HWs.out, has_minus HWr.out HWs.out hy]; cases hasR r y <;> cases hasR s y <;> rfl
              have HW1 := Lib.hid (fun W (a : OwnR W k19 (minusR (andR (andR r s) s) (minusR r s))) (b : OwnR W k13 (andR r s)) => within_any k19 k13 (minusR (andR (andR r s) s) (minusR r s)) (andR r s) _ _ W (a.rg HLt.out (by omega)) (b.rg HLa.out (by omega)) HLt.out HLa.out (by omega))
              rw [(within_iff HWt.out HWa.out).2 (fun y hy h => by rw [hT y hy] at h; rw [has_and HWr.out HWs.out]; exact h)] at HW1
              have HW2 := Lib.hid (fun W (a : OwnR W k13 (andR r s)) (b : OwnR W k19 (minusR (andR (andR r s) s) (minusR r s))) => within_any k13 k19 (andR r s) (minusR (andR (andR r s) s) (minusR r s)) _ _ W (a.rg HLa.out (by omega)) (b.rg HLt.out (by omega)) HLa.out HLt.out (by omega))
              rw [(within_iff HWa.out HWt.out).2 (fun y hy h => by rw [hT y hy]; rw [has_and HWr.out HWs.out] at h; exact h)] at HW2
              have HEz : Hid (∀ W, Calls Try.prog 11 #[.agg #[.slice none 0 0, .slice none 0 0, .slice none 0 0, .bool false]] W (Gives (.bool true) W)) := Lib.hid (fun W => empty_any ⟨none, 0, none, 0, none, 0⟩ zeroR W (rg_zero W))
              have HHz : Hid (∀ W, Calls Try.prog 9 #[.agg #[.slice none 0 0, .slice none 0 0, .slice none 0 0, .bool false], vv x] W (Gives (.bool false) W)) := Lib.hid (fun W => by have h := has_any ⟨none, 0, none, 0, none, 0⟩ zeroR x W (rg_zero W); rw [has_zero] at h; exact h)
              have HAl := Lib.hid (fun W => all_r W)
              have HHa := Lib.hid (fun W k (a : OwnR W k allR) => has_any k allR x W (a.rg LeR.all (by omega)))
              rw [has_all HX.out.ok] at HHa
              have HW3 := Lib.hid (fun W k (a : OwnR W k9 r) (b : OwnR W k allR) => within_any k9 k r allR 145 1 W (a.rg HLr.out (by omega)) (b.rg LeR.all (by omega)) HLr.out LeR.all (by omega))
              rw [(within_iff HWr.out WfR.all).2 (fun y hy _ => has_all hy)] at HW3
              have HMa := Lib.hid (fun W k (a : OwnR W k9 r) (b : OwnR W k allR) => minus_o k9 k r allR 145 1 W a b HLr.out LeR.all (by omega))
              have HEm := Lib.hid (fun W k (a : OwnR W k (minusR r allR)) => empty_any k (minusR r allR) W (a.rg (HLr.out.minus LeR.all) (by omega)))
              rw [(empty_iff (HWr.out.minus WfR.all)).2 (fun y hy => by rw [has_minus HWr.out WfR.all hy, has_all hy]; cases hasR r y <;> rfl)] at HEm
              have HWk := Lib.hid (fun W => wakes_any W)
              have HBu0 := Lib.hid (bAl HB.out (.cells zRg 29)).drew
              have HKu : Hid (Bks (Wq.alloc (.cells zRg 29)) [(Wq.heap.size, 29, zRg), (J19, 29, rgc k19 (minusR (andR (andR r s) s) (minusR r s))), (J14, 29, rgc k14 (minusR r s)), (J13, 29, rgc k13 (andR r s)), (g11, 29, rgc k11 s), (g9, 29, rgc k9 r), (w.heap.size, 25, vlc x)]) := Lib.hid (((Bks.cons HJ.out HK.out).push (below_one Wq (.cells zRg 29)) (Blk.new _ _ _)))
              have HKu0 : Hid (Bks (Wq.alloc (.cells zRg 29)).drew _) := Lib.hid (HKu.out.later (Below.refl _ _).drew)
              have HOu0 : Hid (Ows (Wq.alloc (.cells zRg 29)).drew _) := Lib.hid ((HO.out.al (.cells zRg 29)).later (Below.refl _ _).drew)
              clear HB HJ HK HO HKu
              go_wp2_with fail
              refine wp_region_held_drew (S := (fun w9 => w9.cell? ⟨Wq.heap.size, 0, none⟩ = some (.slice none 0 0) ∧ w9.cell? ⟨Wq.heap.size, 1, none⟩ = some (.slice none 0 0) ∧ w9.cell? ⟨Wq.heap.size, 2, none⟩ = some (.slice none 0 0) ∧ w9.cell? ⟨Wq.heap.size, 3, none⟩ = some (.bool false) ∧ w9.cell? ⟨J19, 0, none⟩ = some (.slice k19.p0 (minusR (andR (andR r s) s) (minusR r s)).a.length k19.c0) ∧ w9.cell? ⟨J19, 1, none⟩ = some (.slice k19.p1 (minusR (andR (andR r s) s) (minusR r s)).b.length k19.c1) ∧ w9.cell? ⟨J19, 2, none⟩ = some (.slice k19.p2 (minusR (andR (andR r s) s) (minusR r s)).c.length k19.c2) ∧ w9.cell? ⟨J19, 3, none⟩ = some (.bool (minusR (andR (andR r s) s) (minusR r s)).o) ∧ w9.cell? ⟨J13, 0, none⟩ = some (.slice k13.p0 (andR r s).a.length k13.c0) ∧ w9.cell? ⟨J13, 1, none⟩ = some (.slice k13.p1 (andR r s).b.length k13.c1) ∧ w9.cell? ⟨J13, 2, none⟩ = some (.slice k13.p2 (andR r s).c.length k13.c2) ∧ w9.cell? ⟨J13, 3, none⟩ = some (.bool (andR r s).o) ∧ w9.cell? ⟨g9, 0, none⟩ = some (.slice k9.p0 r.a.length k9.c0) ∧ w9.cell? ⟨g9, 1, none⟩ = some (.slice k9.p1 r.b.length k9.c1) ∧ w9.cell? ⟨g9, 2, none⟩ = some (.slice k9.p2 r.c.length k9.c2) ∧ w9.cell? ⟨g9, 3, none⟩ = some (.bool r.o) ∧ w9.cell? ⟨w.heap.size, 0, none⟩ = some (.int .i64 x.k) ∧ w9.cell? ⟨w.heap.size, 1, none⟩ = some (.int .i64 x.n) ∧ w9.cell? ⟨w.heap.size, 2, none⟩ = some (.string x.s) ∧ w9.cell? ⟨w.heap.size, 3, none⟩ = some (.bool x.b))) (by kernel_rfl) ?_ (fun hHeld => ?_)
              · exact cellsU HKu0.out
              refine held_take 0 (oi := { dst := some 158, op := Op.load 29 (Operand.tmp 19), type := 29, pos := "outright.go:72", after := #[], guard := none }) (v := ?_) rfl (by kernel_rfl) (by kernel_rfl) (by kernel_rfl) (fun _ _ _ h => h) (by rfl) ?_ hHeld ?_
              rotate_left
              · intro w9 hS9; (try dsimp only at hS9); go_simp; try with_reducible rfl
              try simp only [Act.put, List.setIfInBounds_toArray, List.set_cons_zero, List.set_cons_succ]
              refine held_take 1 (oi := { dst := some 159, op := Op.load 29 (Operand.tmp 13), type := 29, pos := "outright.go:72", after := #[], guard := none }) (v := ?_) rfl (by kernel_rfl) (by kernel_rfl) (by kernel_rfl) (fun _ _ _ h => h) (by rfl) ?_ hHeld ?_
              rotate_left
              · intro w9 hS9; (try dsimp only at hS9); go_simp; try with_reducible rfl
              try simp only [Act.put, List.setIfInBounds_toArray, List.set_cons_zero, List.set_cons_succ]
              refine wpAnyH_ready (rs := [2]) (by kernel_rfl) (by simp) ?_
              refine AllReadyH.cons (o := { dst := some 160, op := Op.call { callee := Callee.value (Operand.func 10), args := #[Operand.tmp 158, Operand.tmp 159], argTypes := #[29, 29] }, type := 4, pos := "outright.go:72", after := #[{ on := 0, ground := Ground.data }, { on := 1, ground := Ground.data }], guard := none }) rfl (fun K hK => ?_) AllReadyH.nil
              go_simp
              with_reducible refine (HW1.out _ (HOu0.out.get 0 rfl) (HOu0.out.get 2 rfl)).mono ?_
              rintro e wu1 ⟨rfl, b9⟩
              have HBu1 := Lib.hid (then_ HBu0.out b9)
              have HKu1 := Lib.hid (HKu0.out.later b9)
              have HOu1 := Lib.hid (HOu0.out.later b9)
              clear b9
              try go_wp2_with fail
              clear hHeld
              refine hK.out _ _ ?_ (fun hHeld => ?_)
              · exact cellsU HKu1.out
              clear hK K
              try simp only [Act.put, List.setIfInBounds_toArray, List.set_cons_zero, List.set_cons_succ]
              refine held_take 3 (oi := { dst := some 161, op := Op.move (Operand.tmp 160), type := 4, pos := "outright.go:72", after := #[{ on := 2, ground := Ground.data }, { on := 2, ground := Ground.chain }], guard := none }) (v := ?_) rfl (by kernel_rfl) (by kernel_rfl) (by kernel_rfl) (fun _ _ _ h => h) (by rfl) ?_ hHeld ?_
              rotate_left
              · intro w9 hS9; (try dsimp only at hS9); go_simp; try with_reducible rfl
              try simp only [Act.put, List.setIfInBounds_toArray, List.set_cons_zero, List.set_cons_succ]
              refine held_take 4 (oi := { dst := some 162, op := Op.load 29 (Operand.tmp 13), type := 29, pos := "outright.go:72", after := #[{ on := 3, ground := Ground.guard }], guard := some (3, true) }) (v := ?_) rfl (by kernel_rfl) (by kernel_rfl) (by kernel_rfl) (fun _ _ _ h => h) (by rfl) ?_ hHeld ?_
              rotate_left
              · intro w9 hS9; (try dsimp only at hS9); go_simp; try with_reducible rfl
              try simp only [Act.put, List.setIfInBounds_toArray, List.set_cons_zero, List.set_cons_succ]
              refine held_take 5 (oi := { dst := some 163, op := Op.load 29 (Operand.tmp 19), type := 29, pos := "outright.go:72", after := #[{ on := 3, ground := Ground.guard }], guard := some (3, true) }) (v := ?_) rfl (by kernel_rfl) (by kernel_rfl) (by kernel_rfl) (fun _ _ _ h => h) (by rfl) ?_ hHeld ?_
              rotate_left
              · intro w9 hS9; (try dsimp only at hS9); go_simp; try with_reducible rfl
              try simp only [Act.put, List.setIfInBounds_toArray, List.set_cons_zero, List.set_cons_succ]
              refine wpAnyH_ready (rs := [6]) (by kernel_rfl) (by simp) ?_
              refine AllReadyH.cons (o := { dst := some 164, op := Op.call { callee := Callee.value (Operand.func 10), args := #[Operand.tmp 162, Operand.tmp 163], argTypes := #[29, 29] }, type := 4, pos := "outright.go:72", after := #[{ on := 4, ground := Ground.data }, { on := 5, ground := Ground.data }, { on := 3, ground := Ground.chain }, { on := 3, ground := Ground.guard }], guard := some (3, true) }) rfl (fun K hK => ?_) AllReadyH.nil
              go_simp
              with_reducible refine (HW2.out _ (HOu1.out.get 2 rfl) (HOu1.out.get 0 rfl)).mono ?_
              rintro e wu2 ⟨rfl, b9⟩
              have HBu2 := Lib.hid (then_ HBu1.out b9)
              have HKu2 := Lib.hid (HKu1.out.later b9)
              have HOu2 := Lib.hid (HOu1.out.later b9)
              clear b9
              try go_wp2_with fail
              clear hHeld
              refine hK.out _ _ ?_ (fun hHeld => ?_)
              · exact cellsU HKu2.out
              clear hK K
              try simp only [Act.put, List.setIfInBounds_toArray, List.set_cons_zero, List.set_cons_succ]
              refine held_take 7 (oi := { dst := some 165, op := Op.pick (Operand.tmp 161) (Operand.tmp 164) (Operand.const (Value.bool false)), type := 4, pos := "outright.go:72", after := #[{ on := 3, ground := Ground.data }, { on := 6, ground := Ground.data }], guard := none }) (v := ?_) rfl (by kernel_rfl) (by kernel_rfl) (by kernel_rfl) (fun _ _ _ h => h) (by rfl) ?_ hHeld ?_
              rotate_left
              · intro w9 hS9; (try dsimp only at hS9); go_simp; try with_reducible rfl
              try simp only [Act.put, List.setIfInBounds_toArray, List.set_cons_zero, List.set_cons_succ]
              refine held_take 8 (oi := { dst := some 166, op := Op.move (Operand.tmp 165), type := 4, pos := "outright.go:72", after := #[{ on := 7, ground := Ground.data }, { on := 6, ground := Ground.chain }], guard := none }) (v := ?_) rfl (by kernel_rfl) (by kernel_rfl) (by kernel_rfl) (fun _ _ _ h => h) (by rfl) ?_ hHeld ?_
              rotate_left
              · intro w9 hS9; (try dsimp only at hS9); go_simp; try with_reducible rfl
              try simp only [Act.put, List.setIfInBounds_toArray, List.set_cons_zero, List.set_cons_succ]
              refine held_take 9 (oi := { dst := some 167, op := Op.load 29 (Operand.tmp 20), type := 29, pos := "outright.go:72", after := #[{ on := 8, ground := Ground.guard }], guard := some (8, true) }) (v := ?_) rfl (by kernel_rfl) (by kernel_rfl) (by kernel_rfl) (fun _ _ _ h => h) (by rfl) ?_ hHeld ?_
              rotate_left
              · intro w9 hS9; (try dsimp only at hS9); go_simp; try with_reducible rfl
              try simp only [Act.put, List.setIfInBounds_toArray, List.set_cons_zero, List.set_cons_succ]
              refine wpAnyH_ready (rs := [10]) (by kernel_rfl) (by simp) ?_
              refine AllReadyH.cons (o := { dst := some 168, op := Op.call { callee := Callee.value (Operand.func 11), args := #[Operand.tmp 167], argTypes := #[29] }, type := 4, pos := "outright.go:72", after := #[{ on := 9, ground := Ground.data }, { on := 8, ground := Ground.chain }, { on := 8, ground := Ground.guard }], guard := some (8, true) }) rfl (fun K hK => ?_) AllReadyH.nil
              go_simp
              with_reducible refine (HEz.out _).mono ?_
              rintro e wu3 ⟨rfl, b9⟩
              have HBu3 := Lib.hid (then_ HBu2.out b9)
              have HKu3 := Lib.hid (HKu2.out.later b9)
              have HOu3 := Lib.hid (HOu2.out.later b9)
              clear b9
              try go_wp2_with fail
              clear hHeld
              refine hK.out _ _ ?_ (fun hHeld => ?_)
              · exact cellsU HKu3.out
              clear hK K
              try simp only [Act.put, List.setIfInBounds_toArray, List.set_cons_zero, List.set_cons_succ]
              refine held_take 11 (oi := { dst := some 169, op := Op.pick (Operand.tmp 166) (Operand.tmp 168) (Operand.const (Value.bool false)), type := 4, pos := "outright.go:72", after := #[{ on := 8, ground := Ground.data }, { on := 10, ground := Ground.data }], guard := none }) (v := ?_) rfl (by kernel_rfl) (by kernel_rfl) (by kernel_rfl) (fun _ _ _ h => h) (by rfl) ?_ hHeld ?_
              rotate_left
              · intro w9 hS9; (try dsimp only at hS9); go_simp; try with_reducible rfl
              try simp only [Act.put, List.setIfInBounds_toArray, List.set_cons_zero, List.set_cons_succ]
              refine held_take 12 (oi := { dst := some 170, op := Op.move (Operand.tmp 169), type := 4, pos := "outright.go:72", after := #[{ on := 11, ground := Ground.data }, { on := 10, ground := Ground.chain }], guard := none }) (v := ?_) rfl (by kernel_rfl) (by kernel_rfl) (by kernel_rfl) (fun _ _ _ h => h) (by rfl) ?_ hHeld ?_
              rotate_left
              · intro w9 hS9; (try dsimp only at hS9); go_simp; try with_reducible rfl
              try simp only [Act.put, List.setIfInBounds_toArray, List.set_cons_zero, List.set_cons_succ]
              refine held_take 13 (oi := { dst := some 171, op := Op.load 29 (Operand.tmp 20), type := 29, pos := "outright.go:72", after := #[{ on := 12, ground := Ground.guard }], guard := some (12, true) }) (v := ?_) rfl (by kernel_rfl) (by kernel_rfl) (by kernel_rfl) (fun _ _ _ h => h) (by rfl) ?_ hHeld ?_
              rotate_left
              · intro w9 hS9; (try dsimp only at hS9); go_simp; try with_reducible rfl
              try simp only [Act.put, List.setIfInBounds_toArray, List.set_cons_zero, List.set_cons_succ]
              refine held_take 14 (oi := { dst := some 172, op := Op.load 25 (Operand.tmp 7), type := 25, pos := "outright.go:72", after := #[{ on := 12, ground := Ground.guard }], guard := some (12, true) }) (v := ?_) rfl (by kernel_rfl) (by kernel_rfl) (by kernel_rfl) (fun _ _ _ h => h) (by rfl) ?_ hHeld ?_
              rotate_left
              · intro w9 hS9; (try dsimp only at hS9); go_simp; try with_reducible rfl
              try simp only [Act.put, List.setIfInBounds_toArray, List.set_cons_zero, List.set_cons_succ]
              refine wpAnyH_ready (rs := [15]) (by kernel_rfl) (by simp) ?_
              refine AllReadyH.cons (o := { dst := some 173, op := Op.call { callee := Callee.value (Operand.func 9), args := #[Operand.tmp 171, Operand.tmp 172], argTypes := #[29, 25] }, type := 4, pos := "outright.go:72", after := #[{ on := 13, ground := Ground.data }, { on := 14, ground := Ground.data }, { on := 12, ground := Ground.chain }, { on := 12, ground := Ground.guard }], guard := some (12, true) }) rfl (fun K hK => ?_) AllReadyH.nil
              go_simp
              with_reducible refine (HHz.out _).mono ?_
              rintro e wu4 ⟨rfl, b9⟩
              have HBu4 := Lib.hid (then_ HBu3.out b9)
              have HKu4 := Lib.hid (HKu3.out.later b9)
              have HOu4 := Lib.hid (HOu3.out.later b9)
              clear b9
              try go_wp2_with fail
              clear hHeld
              refine hK.out _ _ ?_ (fun hHeld => ?_)
              · exact cellsU HKu4.out
              clear hK K
              try simp only [Act.put, List.setIfInBounds_toArray, List.set_cons_zero, List.set_cons_succ]
              refine held_take 16 (oi := { dst := some 174, op := Op.unOp UnOp.not 4 (Operand.tmp 173), type := 4, pos := "outright.go:72", after := #[{ on := 15, ground := Ground.data }, { on := 12, ground := Ground.guard }], guard := some (12, true) }) (v := ?_) rfl (by kernel_rfl) (by kernel_rfl) (by kernel_rfl) (fun _ _ _ h => h) (by rfl) ?_ hHeld ?_
              rotate_left
              · intro w9 hS9; (try dsimp only at hS9); go_simp; try with_reducible rfl
              try simp only [Act.put, List.setIfInBounds_toArray, List.set_cons_zero, List.set_cons_succ]
              refine held_take 17 (oi := { dst := some 175, op := Op.pick (Operand.tmp 170) (Operand.tmp 174) (Operand.const (Value.bool false)), type := 4, pos := "outright.go:72", after := #[{ on := 12, ground := Ground.data }, { on := 16, ground := Ground.data }], guard := none }) (v := ?_) rfl (by kernel_rfl) (by kernel_rfl) (by kernel_rfl) (fun _ _ _ h => h) (by rfl) ?_ hHeld ?_
              rotate_left
              · intro w9 hS9; (try dsimp only at hS9); go_simp; try with_reducible rfl
              try simp only [Act.put, List.setIfInBounds_toArray, List.set_cons_zero, List.set_cons_succ]
              refine held_take 18 (oi := { dst := some 176, op := Op.move (Operand.tmp 175), type := 4, pos := "outright.go:72", after := #[{ on := 17, ground := Ground.data }, { on := 15, ground := Ground.chain }], guard := none }) (v := ?_) rfl (by kernel_rfl) (by kernel_rfl) (by kernel_rfl) (fun _ _ _ h => h) (by rfl) ?_ hHeld ?_
              rotate_left
              · intro w9 hS9; (try dsimp only at hS9); go_simp; try with_reducible rfl
              try simp only [Act.put, List.setIfInBounds_toArray, List.set_cons_zero, List.set_cons_succ]
              refine held_take 20 (oi := { dst := some 178, op := Op.load 25 (Operand.tmp 7), type := 25, pos := "outright.go:72", after := #[{ on := 18, ground := Ground.guard }], guard := some (18, true) }) (v := ?_) rfl (by kernel_rfl) (by kernel_rfl) (by kernel_rfl) (fun _ _ _ h => h) (by rfl) ?_ hHeld ?_
              rotate_left
              · intro w9 hS9; (try dsimp only at hS9); go_simp; try with_reducible rfl
              try simp only [Act.put, List.setIfInBounds_toArray, List.set_cons_zero, List.set_cons_succ]
              refine wpAnyH_ready (rs := [19]) (by kernel_rfl) (by simp) ?_
              refine AllReadyH.cons (o := { dst := some 177, op := Op.call { callee := Callee.value (Operand.func 13), args := #[], argTypes := #[] }, type := 29, pos := "outright.go:72", after := #[{ on := 18, ground := Ground.chain }, { on := 18, ground := Ground.guard }], guard := some (18, true) }) rfl (fun K hK => ?_) AllReadyH.nil
              go_simp
              with_reducible refine (HAl.out _).mono ?_
              rintro e wu5 ⟨ka19, rfl, hq9, b9⟩
              have hqA := Lib.hid hq9
              clear hq9
              have HBu5 := Lib.hid (then_ HBu4.out b9)
              have HKu5 := Lib.hid (HKu4.out.later b9)
              have HOu5 := Lib.hid (HOu4.out.later b9)
              clear b9
              try go_wp2_with fail
              clear hHeld
              refine hK.out _ _ ?_ (fun hHeld => ?_)
              · exact cellsU HKu5.out
              clear hK K
              try simp only [Act.put, List.setIfInBounds_toArray, List.set_cons_zero, List.set_cons_succ]
              refine wpAnyH_ready (rs := [21]) (by kernel_rfl) (by simp) ?_
              refine AllReadyH.cons (o := { dst := some 179, op := Op.call { callee := Callee.value (Operand.func 9), args := #[Operand.tmp 177, Operand.tmp 178], argTypes := #[29, 25] }, type := 4, pos := "outright.go:72", after := #[{ on := 19, ground := Ground.data }, { on := 20, ground := Ground.data }, { on := 19, ground := Ground.chain }, { on := 18, ground := Ground.guard }], guard := some (18, true) }) rfl (fun K hK => ?_) AllReadyH.nil
              go_simp
              with_reducible refine (HHa.out _ _ hqA.out).mono ?_
              rintro e wu6 ⟨rfl, b9⟩
              have HBu6 := Lib.hid (then_ HBu5.out b9)
              have HKu6 := Lib.hid (HKu5.out.later b9)
              have HOu6 := Lib.hid (HOu5.out.later b9)
              clear b9
              try go_wp2_with fail
              clear hHeld
              refine hK.out _ _ ?_ (fun hHeld => ?_)
              · exact cellsU HKu6.out
              clear hK K
              try simp only [Act.put, List.setIfInBounds_toArray, List.set_cons_zero, List.set_cons_succ]
              refine held_take 22 (oi := { dst := some 180, op := Op.pick (Operand.tmp 176) (Operand.tmp 179) (Operand.const (Value.bool false)), type := 4, pos := "outright.go:72", after := #[{ on := 18, ground := Ground.data }, { on := 21, ground := Ground.data }], guard := none }) (v := ?_) rfl (by kernel_rfl) (by kernel_rfl) (by kernel_rfl) (fun _ _ _ h => h) (by rfl) ?_ hHeld ?_
              rotate_left
              · intro w9 hS9; (try dsimp only at hS9); go_simp; try with_reducible rfl
              try simp only [Act.put, List.setIfInBounds_toArray, List.set_cons_zero, List.set_cons_succ]
              refine held_take 23 (oi := { dst := some 181, op := Op.move (Operand.tmp 180), type := 4, pos := "outright.go:72", after := #[{ on := 22, ground := Ground.data }, { on := 21, ground := Ground.chain }], guard := none }) (v := ?_) rfl (by kernel_rfl) (by kernel_rfl) (by kernel_rfl) (fun _ _ _ h => h) (by rfl) ?_ hHeld ?_
              rotate_left
              · intro w9 hS9; (try dsimp only at hS9); go_simp; try with_reducible rfl
              try simp only [Act.put, List.setIfInBounds_toArray, List.set_cons_zero, List.set_cons_succ]
              refine held_take 24 (oi := { dst := some 182, op := Op.load 29 (Operand.tmp 9), type := 29, pos := "outright.go:72", after := #[{ on := 23, ground := Ground.guard }], guard := some (23, true) }) (v := ?_) rfl (by kernel_rfl) (by kernel_rfl) (by kernel_rfl) (fun _ _ _ h => h) (by rfl) ?_ hHeld ?_
              rotate_left
              · intro w9 hS9; (try dsimp only at hS9); go_simp; try with_reducible rfl
              try simp only [Act.put, List.setIfInBounds_toArray, List.set_cons_zero, List.set_cons_succ]
              refine wpAnyH_ready (rs := [25]) (by kernel_rfl) (by simp) ?_
              refine AllReadyH.cons (o := { dst := some 183, op := Op.call { callee := Callee.value (Operand.func 13), args := #[], argTypes := #[] }, type := 29, pos := "outright.go:72", after := #[{ on := 23, ground := Ground.chain }, { on := 23, ground := Ground.guard }], guard := some (23, true) }) rfl (fun K hK => ?_) AllReadyH.nil
              go_simp
              with_reducible refine (HAl.out _).mono ?_
              rintro e wu7 ⟨ka25, rfl, hq9, b9⟩
              have hqA := Lib.hid hq9
              clear hq9
              have HBu7 := Lib.hid (then_ HBu6.out b9)
              have HKu7 := Lib.hid (HKu6.out.later b9)
              have HOu7 := Lib.hid (HOu6.out.later b9)
              clear b9
              try go_wp2_with fail
              clear hHeld
              refine hK.out _ _ ?_ (fun hHeld => ?_)
              · exact cellsU HKu7.out
              clear hK K
              try simp only [Act.put, List.setIfInBounds_toArray, List.set_cons_zero, List.set_cons_succ]
              refine wpAnyH_ready (rs := [26]) (by kernel_rfl) (by simp) ?_
              refine AllReadyH.cons (o := { dst := some 184, op := Op.call { callee := Callee.value (Operand.func 10), args := #[Operand.tmp 182, Operand.tmp 183], argTypes := #[29, 29] }, type := 4, pos := "outright.go:72", after := #[{ on := 24, ground := Ground.data }, { on := 25, ground := Ground.data }, { on := 25, ground := Ground.chain }, { on := 23, ground := Ground.guard }], guard := some (23, true) }) rfl (fun K hK => ?_) AllReadyH.nil
              go_simp
              with_reducible refine (HW3.out _ _ (HOu7.out.get 4 rfl) hqA.out).mono ?_
              rintro e wu8 ⟨rfl, b9⟩
              have HBu8 := Lib.hid (then_ HBu7.out b9)
              have HKu8 := Lib.hid (HKu7.out.later b9)
              have HOu8 := Lib.hid (HOu7.out.later b9)
              clear b9
              try go_wp2_with fail
              clear hHeld
              refine hK.out _ _ ?_ (fun hHeld => ?_)
              · exact cellsU HKu8.out
              clear hK K
              try simp only [Act.put, List.setIfInBounds_toArray, List.set_cons_zero, List.set_cons_succ]
              refine held_take 27 (oi := { dst := some 185, op := Op.pick (Operand.tmp 181) (Operand.tmp 184) (Operand.const (Value.bool false)), type := 4, pos := "outright.go:72", after := #[{ on := 23, ground := Ground.data }, { on := 26, ground := Ground.data }], guard := none }) (v := ?_) rfl (by kernel_rfl) (by kernel_rfl) (by kernel_rfl) (fun _ _ _ h => h) (by rfl) ?_ hHeld ?_
              rotate_left
              · intro w9 hS9; (try dsimp only at hS9); go_simp; try with_reducible rfl
              try simp only [Act.put, List.setIfInBounds_toArray, List.set_cons_zero, List.set_cons_succ]
              refine held_take 28 (oi := { dst := some 186, op := Op.move (Operand.tmp 185), type := 4, pos := "outright.go:72", after := #[{ on := 27, ground := Ground.data }, { on := 26, ground := Ground.chain }], guard := none }) (v := ?_) rfl (by kernel_rfl) (by kernel_rfl) (by kernel_rfl) (fun _ _ _ h => h) (by rfl) ?_ hHeld ?_
              rotate_left
              · intro w9 hS9; (try dsimp only at hS9); go_simp; try with_reducible rfl
              try simp only [Act.put, List.setIfInBounds_toArray, List.set_cons_zero, List.set_cons_succ]
              refine held_take 29 (oi := { dst := some 187, op := Op.load 29 (Operand.tmp 9), type := 29, pos := "outright.go:72", after := #[{ on := 28, ground := Ground.guard }], guard := some (28, true) }) (v := ?_) rfl (by kernel_rfl) (by kernel_rfl) (by kernel_rfl) (fun _ _ _ h => h) (by rfl) ?_ hHeld ?_
              rotate_left
              · intro w9 hS9; (try dsimp only at hS9); go_simp; try with_reducible rfl
              try simp only [Act.put, List.setIfInBounds_toArray, List.set_cons_zero, List.set_cons_succ]
              refine wpAnyH_ready (rs := [30]) (by kernel_rfl) (by simp) ?_
              refine AllReadyH.cons (o := { dst := some 188, op := Op.call { callee := Callee.value (Operand.func 13), args := #[], argTypes := #[] }, type := 29, pos := "outright.go:72", after := #[{ on := 28, ground := Ground.chain }, { on := 28, ground := Ground.guard }], guard := some (28, true) }) rfl (fun K hK => ?_) AllReadyH.nil
              go_simp
              with_reducible refine (HAl.out _).mono ?_
              rintro e wu9 ⟨ka30, rfl, hq9, b9⟩
              have hqA := Lib.hid hq9
              clear hq9
              have HBu9 := Lib.hid (then_ HBu8.out b9)
              have HKu9 := Lib.hid (HKu8.out.later b9)
              have HOu9 := Lib.hid (HOu8.out.later b9)
              clear b9
              try go_wp2_with fail
              clear hHeld
              refine hK.out _ _ ?_ (fun hHeld => ?_)
              · exact cellsU HKu9.out
              clear hK K
              try simp only [Act.put, List.setIfInBounds_toArray, List.set_cons_zero, List.set_cons_succ]
              refine wpAnyH_ready (rs := [31]) (by kernel_rfl) (by simp) ?_
              refine AllReadyH.cons (o := { dst := some 189, op := Op.call { callee := Callee.value (Operand.func 8), args := #[Operand.tmp 187, Operand.tmp 188], argTypes := #[29, 29] }, type := 29, pos := "outright.go:72", after := #[{ on := 29, ground := Ground.data }, { on := 30, ground := Ground.data }, { on := 30, ground := Ground.chain }, { on := 28, ground := Ground.guard }], guard := some (28, true) }) rfl (fun K hK => ?_) AllReadyH.nil
              go_simp
              with_reducible refine (HMa.out _ _ (HOu9.out.get 4 rfl) hqA.out).mono ?_
              rintro e wu10 ⟨ka31, rfl, hq9, b9⟩
              have hqA := Lib.hid hq9
              clear hq9
              have HBu10 := Lib.hid (then_ HBu9.out b9)
              have HKu10 := Lib.hid (HKu9.out.later b9)
              have HOu10 := Lib.hid (HOu9.out.later b9)
              clear b9
              try go_wp2_with fail
              clear hHeld
              refine hK.out _ _ ?_ (fun hHeld => ?_)
              · exact cellsU HKu10.out
              clear hK K
              try simp only [Act.put, List.setIfInBounds_toArray, List.set_cons_zero, List.set_cons_succ]
              refine wpAnyH_ready (rs := [32]) (by kernel_rfl) (by simp) ?_
              refine AllReadyH.cons (o := { dst := some 190, op := Op.call { callee := Callee.value (Operand.func 11), args := #[Operand.tmp 189], argTypes := #[29] }, type := 4, pos := "outright.go:72", after := #[{ on := 31, ground := Ground.data }, { on := 31, ground := Ground.chain }, { on := 28, ground := Ground.guard }], guard := some (28, true) }) rfl (fun K hK => ?_) AllReadyH.nil
              go_simp
              with_reducible refine (HEm.out _ _ hqA.out).mono ?_
              rintro e wu11 ⟨rfl, b9⟩
              have HBu11 := Lib.hid (then_ HBu10.out b9)
              have HKu11 := Lib.hid (HKu10.out.later b9)
              have HOu11 := Lib.hid (HOu10.out.later b9)
              clear b9
              try go_wp2_with fail
              clear hHeld
              refine hK.out _ _ ?_ (fun hHeld => ?_)
              · exact cellsU HKu11.out
              clear hK K
              try simp only [Act.put, List.setIfInBounds_toArray, List.set_cons_zero, List.set_cons_succ]
              refine held_take 33 (oi := { dst := some 191, op := Op.pick (Operand.tmp 186) (Operand.tmp 190) (Operand.const (Value.bool false)), type := 4, pos := "outright.go:72", after := #[{ on := 28, ground := Ground.data }, { on := 32, ground := Ground.data }], guard := none }) (v := ?_) rfl (by kernel_rfl) (by kernel_rfl) (by kernel_rfl) (fun _ _ _ h => h) (by rfl) ?_ hHeld ?_
              rotate_left
              · intro w9 hS9; (try dsimp only at hS9); go_simp; try with_reducible rfl
              try simp only [Act.put, List.setIfInBounds_toArray, List.set_cons_zero, List.set_cons_succ]
              refine held_take 34 (oi := { dst := some 192, op := Op.move (Operand.tmp 191), type := 4, pos := "outright.go:72", after := #[{ on := 33, ground := Ground.data }, { on := 32, ground := Ground.chain }], guard := none }) (v := ?_) rfl (by kernel_rfl) (by kernel_rfl) (by kernel_rfl) (fun _ _ _ h => h) (by rfl) ?_ hHeld ?_
              rotate_left
              · intro w9 hS9; (try dsimp only at hS9); go_simp; try with_reducible rfl
              try simp only [Act.put, List.setIfInBounds_toArray, List.set_cons_zero, List.set_cons_succ]
              refine wpAnyH_ready (rs := [35]) (by kernel_rfl) (by simp) ?_
              refine AllReadyH.cons (o := { dst := some 193, op := Op.call { callee := Callee.value (Operand.func 6), args := #[], argTypes := #[] }, type := 4, pos := "outright.go:72", after := #[{ on := 34, ground := Ground.chain }, { on := 34, ground := Ground.guard }], guard := some (34, true) }) rfl (fun K hK => ?_) AllReadyH.nil
              go_simp
              with_reducible refine (HWk.out _).mono ?_
              rintro e wu12 ⟨rfl, b9⟩
              have HBu12 := Lib.hid (then_ HBu11.out b9)
              have HKu12 := Lib.hid (HKu11.out.later b9)
              have HOu12 := Lib.hid (HOu11.out.later b9)
              clear b9
              try go_wp2_with fail
              clear hHeld
              refine hK.out _ _ ?_ (fun hHeld => ?_)
              · exact cellsU HKu12.out
              clear hK K
              try simp only [Act.put, List.setIfInBounds_toArray, List.set_cons_zero, List.set_cons_succ]
              refine held_take 36 (oi := { dst := some 194, op := Op.pick (Operand.tmp 192) (Operand.tmp 193) (Operand.const (Value.bool false)), type := 4, pos := "outright.go:72", after := #[{ on := 34, ground := Ground.data }, { on := 35, ground := Ground.data }], guard := none }) (v := ?_) rfl (by kernel_rfl) (by kernel_rfl) (by kernel_rfl) (fun _ _ _ h => h) (by rfl) ?_ hHeld ?_
              rotate_left
              · intro w9 hS9; (try dsimp only at hS9); go_simp; try with_reducible rfl
              try simp only [Act.put, List.setIfInBounds_toArray, List.set_cons_zero, List.set_cons_succ]
              refine held_take 37 (oi := { dst := some 8, op := Op.assign (Operand.tmp 194), type := 4, pos := "outright.go:72", after := #[{ on := 36, ground := Ground.data }, { on := 35, ground := Ground.chain }, { on := 0, ground := Ground.phase }, { on := 1, ground := Ground.phase }, { on := 2, ground := Ground.phase }, { on := 3, ground := Ground.phase }, { on := 4, ground := Ground.phase }, { on := 5, ground := Ground.phase }, { on := 6, ground := Ground.phase }, { on := 7, ground := Ground.phase }, { on := 8, ground := Ground.phase }, { on := 9, ground := Ground.phase }, { on := 10, ground := Ground.phase }, { on := 11, ground := Ground.phase }, { on := 12, ground := Ground.phase }, { on := 13, ground := Ground.phase }, { on := 14, ground := Ground.phase }, { on := 15, ground := Ground.phase }, { on := 16, ground := Ground.phase }, { on := 17, ground := Ground.phase }, { on := 18, ground := Ground.phase }, { on := 19, ground := Ground.phase }, { on := 20, ground := Ground.phase }, { on := 21, ground := Ground.phase }, { on := 22, ground := Ground.phase }, { on := 23, ground := Ground.phase }, { on := 24, ground := Ground.phase }, { on := 25, ground := Ground.phase }, { on := 26, ground := Ground.phase }, { on := 27, ground := Ground.phase }, { on := 28, ground := Ground.phase }, { on := 29, ground := Ground.phase }, { on := 30, ground := Ground.phase }, { on := 31, ground := Ground.phase }, { on := 32, ground := Ground.phase }, { on := 33, ground := Ground.phase }, { on := 34, ground := Ground.phase }, { on := 35, ground := Ground.phase }, { on := 36, ground := Ground.phase }], guard := none }) (v := ?_) rfl (by kernel_rfl) (by kernel_rfl) (by kernel_rfl) (fun _ _ _ h => h) (by rfl) ?_ hHeld ?_
              rotate_left
              · intro w9 hS9; (try dsimp only at hS9); go_simp; try with_reducible rfl
              try simp only [Act.put, List.setIfInBounds_toArray, List.set_cons_zero, List.set_cons_succ]
              refine wpAnyH_done (by kernel_rfl) ?_ _
              try go_wp2_with fail
              try go_ret
              exact ⟨rfl, HBu12.out⟩
end Go.Proofs.Ytfjfdajachcnjaa.Gm
