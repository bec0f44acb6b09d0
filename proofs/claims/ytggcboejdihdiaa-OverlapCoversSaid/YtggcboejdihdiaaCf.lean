/- Regions in memory; the contract of Region.And. -/
import Derived.Test.YtggcboejdihdiaaCe
set_option linter.unusedSimpArgs false
set_option linter.unusedVariables false
namespace Go.Proofs.Ytggcboejdihdiaa.Gm
open Go Go.RowKit
attribute [local go_sem ↓] Go.wp_at_zero Go.wp_at_succ

/-- Where the spans of a region lie. -/
structure Rm where
  p0 : Option Addr
  c0 : Nat
  p1 : Option Addr
  c1 : Nat
  p2 : Option Addr
  c2 : Nat
abbrev rgv (m : Rm) (r : Rg) : Value := .agg #[.slice m.p0 r.a.length m.c0, .slice m.p1 r.b.length m.c1, .slice m.p2 r.c.length m.c2, .bool r.o]
abbrev rgc (m : Rm) (r : Rg) : Array Value := #[.slice m.p0 r.a.length m.c0, .slice m.p1 r.b.length m.c1, .slice m.p2 r.c.length m.c2, .bool r.o]
/-- A region in memory. -/
def RgIn (w : World) (m : Rm) (r : Rg) : Prop := Ss w (.slice m.p0 r.a.length m.c0) r.a ∧ Ss w (.slice m.p1 r.b.length m.c1) r.b ∧ Ss w (.slice m.p2 r.c.length m.c2) r.c
theorem RgIn.later {w w' : World} {m : Rm} {r : Rg} (h : RgIn w m r) (hb : Below w.heap.size w w') : RgIn w' m r := ⟨h.1.later hb, h.2.1.later hb, h.2.2.later hb⟩
theorem RowS.mk {l : List Sp} {w w' : World} {e : Ending} (h : RowS l w e w') (hl : l.length ≤ 1048576) : ∃ p c, e = .returned (.slice p l.length c) ∧ Ss w' (.slice p l.length c) l ∧ Below w.heap.size w w' := by
  obtain ⟨p, c, h1, h2, h3⟩ := h
  exact ⟨p, c, h1, h2.ss hl, h3⟩
theorem blk4 {w : World} {g : Nat} {t : TypeId} {a b c d : Value} (h : Blk w g t #[a, b, c, d]) (u : Value) : Blk (w.setCell ⟨g, 0, none⟩ u) g t #[u, b, c, d] ∧ Blk (w.setCell ⟨g, 1, none⟩ u) g t #[a, u, c, d] ∧ Blk (w.setCell ⟨g, 2, none⟩ u) g t #[a, b, u, d] ∧ Blk (w.setCell ⟨g, 3, none⟩ u) g t #[a, b, c, u] :=
  ⟨blk_set h 0 u, blk_set h 1 u, blk_set h 2 u, blk_set h 3 u⟩
/-- What common leaves, as rows in memory. -/
theorem common_ss (va vb : Value) (a b : List Sp) (w : World) (hA : Ss w va a) (hB : Ss w vb b) (hl : a.length + b.length ≤ 1000000) : Calls Try.prog 26 #[va, vb] w fun e w' => ∃ p c, e = .returned (.slice p (com a b).length c) ∧ Ss w' (.slice p (com a b).length c) (com a b) ∧ Below w.heap.size w w' :=
  (common_any va vb a b w hA hB hl).mono fun e w' h => h.mk (by have := com_length a b; omega)
/-- What And has made when it has gone through k Kinds. -/
def andAt (k : Nat) (A B C : List Sp) (o : Bool) : Rg := ⟨if 0 < k then A else [], if 1 < k then B else [], if 2 < k then C else [], o⟩
/-- The four cells of a region are written. -/
def put4 (w : World) (g : Nat) (m : Rm) (r : Rg) : World := (((w.setCell ⟨g, 0, none⟩ (.slice m.p0 r.a.length m.c0)).setCell ⟨g, 1, none⟩ (.slice m.p1 r.b.length m.c1)).setCell ⟨g, 2, none⟩ (.slice m.p2 r.c.length m.c2)).setCell ⟨g, 3, none⟩ (.bool r.o)
theorem same4 (w : World) (g : Nat) (m : Rm) (r : Rg) : Same g w (put4 w g m r) := ((((Same.refl g w).set _ _).set _ _).set _ _).set _ _
theorem blkR {w : World} {g : Nat} {t : TypeId} {a b c d : Value} (h : Blk w g t #[a, b, c, d]) (m : Rm) (r : Rg) : Blk (put4 w g m r) g t (rgc m r) := blk_set (blk_set (blk_set (blk_set h 0 _) 1 _) 2 _) 3 _
theorem post_rg {P : Program} {fn : Func} {a : Act} {w1 : World} {g : Nat} {t : TypeId} {x y z u : Value} {m : Rm} {r : Rg} {R : Ending → World → Prop} (hK : Blk w1 g t #[x, y, z, u]) (hr : ∀ W, Blk W g t (rgc m r) → (results fn a.tmps).run P W = .ok (rgv m r) W) (hd : a.defers = []) (hR : R (.returned (rgv m r)) (put4 w1 g m r)) : bodyPost P fn R .ret a (put4 w1 g m r) :=
  bodyPost_ret (hr _ (blkR hK m r)) hd hR
/-- What common leaves, as rows of the call's own. -/
theorem common_own (va vb : Value) (a b : List Sp) (w : World) (hA : Ss w va a) (hB : Ss w vb b) (hl : a.length + b.length ≤ 1000000) : Calls Try.prog 26 #[va, vb] w fun e w' => ∃ p c, e = .returned (.slice p (com a b).length c) ∧ OwnS w' 0 (.slice p (com a b).length c) (com a b) ∧ Below w.heap.size w w' :=
  (common_any va vb a b w hA hB hl).mono fun e w' ⟨p, c, h1, h2, h3⟩ => ⟨p, c, h1, own_base h2 (Nat.zero_le _), h3⟩
/-- A region whose rows the call owns. -/
def OwnR (w : World) (q : Rm) (x : Rg) : Prop := OwnS w 0 (.slice q.p0 x.a.length q.c0) x.a ∧ OwnS w 0 (.slice q.p1 x.b.length q.c1) x.b ∧ OwnS w 0 (.slice q.p2 x.c.length q.c2) x.c
theorem OwnR.later {w w' : World} {q : Rm} {x : Rg} (h : OwnR w q x) (hb : Below w.heap.size w w') : OwnR w' q x := ⟨own_later h.1 hb, own_later h.2.1 hb, own_later h.2.2 hb⟩
/-- What a call leaves that returns a region, and writes nothing that was there. -/
def RetR (r : Rg) (w : World) (e : Ending) (w' : World) : Prop := ∃ m, e = .returned (rgv m r) ∧ OwnR w' m r ∧ Below w.heap.size w w'
theorem OwnR.rg {w : World} {q : Rm} {x : Rg} {n : Nat} (h : OwnR w q x) (k : LeR x n) (hn : n ≤ 1048576) : RgIn w q x := ⟨h.1.ss (Nat.le_trans k.1 hn), h.2.1.ss (Nat.le_trans k.2.1 hn), h.2.2.ss (Nat.le_trans k.2.2 hn)⟩
theorem OwnR.put4 {w : World} {q m : Rm} {x r : Rg} {g : Nat} {cs : Array Value} (h : OwnR w q x) (hK : Blk w g 39 cs) : OwnR (put4 w g m r) q x :=
  ⟨(same4 w g m r).own h.1 (hK.apart h.1 (by decide)), (same4 w g m r).own h.2.1 (hK.apart h.2.1 (by decide)), (same4 w g m r).own h.2.2 (hK.apart h.2.2 (by decide))⟩
theorem four (w : World) (t : TypeId) (a b c d : Array Value) : Blk ((((w.alloc (.cells a t)).alloc (.cells b t)).alloc (.cells c t)).alloc (.cells d t)) w.heap.size t a ∧ Blk ((((w.alloc (.cells a t)).alloc (.cells b t)).alloc (.cells c t)).alloc (.cells d t)) (w.heap.size + 1) t b ∧ Blk ((((w.alloc (.cells a t)).alloc (.cells b t)).alloc (.cells c t)).alloc (.cells d t)) (w.heap.size + 2) t c ∧ Blk ((((w.alloc (.cells a t)).alloc (.cells b t)).alloc (.cells c t)).alloc (.cells d t)) (w.heap.size + 3) t d ∧ Below w.heap.size w ((((w.alloc (.cells a t)).alloc (.cells b t)).alloc (.cells c t)).alloc (.cells d t)) := by
  have h1 := Blk.new w t a
  have h2 := Blk.new (w.alloc (.cells a t)) t b
  have h3 := Blk.new ((w.alloc (.cells a t)).alloc (.cells b t)) t c
  have h4 := Blk.new (((w.alloc (.cells a t)).alloc (.cells b t)).alloc (.cells c t)) t d
  refine ⟨((h1.alloc _).alloc _).alloc _, ?_, ?_, ?_, ((below_two w _ _).alloc (by simp; omega) _).alloc (by simp; omega) _⟩
  · have := (h2.alloc (.cells c t)).alloc (.cells d t); simpa using this
  · have := h3.alloc (.cells d t); simpa using this
  · simpa using h4
set_option maxHeartbeats 16000000 in
set_option maxRecDepth 100000 in
theorem and_any (m m' : Rm) (r s : Rg) (n n' : Nat) (w : World) (hR : RgIn w m r) (hS : RgIn w m' s) (hr : LeR r n) (hs : LeR s n') (hn : n + n' ≤ 1000000) : Calls Try.prog 14 #[rgv m r, rgv m' s] w (RetR (andR r s) w) := by
  obtain ⟨p0, c0, p1, c1, p2, c2⟩ := m
  obtain ⟨q0, d0, q1, d1, q2, d2⟩ := m'
  have HC0 := Lib.hid (fun W (h : Below w.heap.size w W) => common_own _ _ r.a s.a W (hR.1.later h) (hS.1.later h) (by have := hr.1; have := hs.1; omega))
  have HC1 := Lib.hid (fun W (h : Below w.heap.size w W) => common_own _ _ r.b s.b W (hR.2.1.later h) (hS.2.1.later h) (by have := hr.2.1; have := hs.2.1; omega))
  have HC2 := Lib.hid (fun W (h : Below w.heap.size w W) => common_own _ _ r.c s.c W (hR.2.2.later h) (hS.2.2.later h) (by have := hr.2.2; have := hs.2.2; omega))
  have HL : Hid (LeR (andR r s) (n + n')) := Lib.hid (hr.and hs)
  have HN : Hid (n + n' ≤ 1000000) := Lib.hid hn
  clear hR hS hr hs hn
  obtain ⟨a, b, c, o⟩ := r
  obtain ⟨a', b', c', o'⟩ := s
  have HE : Hid (andR ⟨a, b, c, o⟩ ⟨a', b', c', o'⟩ = ⟨com a a', com b b', com c c', o && o'⟩) := Lib.hid rfl
  rw [HE.out] at HL
  rw [HE.out]
  clear HE
  simp only at HC0 HC1 HC2
  generalize com a a' = A at HC0 HL ⊢
  generalize com b b' = B at HC1 HL ⊢
  generalize com c c' = C at HC2 HL ⊢
  go_enter Try.func14, Try.ntmps14
  cases o
  · have H4 := Lib.hid (four w 39 #[.slice p0 a.length c0, .slice p1 b.length c1, .slice p2 c.length c2, .bool false] #[.slice q0 a'.length d0, .slice q1 b'.length d1, .slice q2 c'.length d2, .bool o'] #[.slice none 0 0, .slice none 0 0, .slice none 0 0, .bool false] #[.slice none 0 0, .slice none 0 0, .slice none 0 0, .bool false])
    go_wp2
    go_loopw [14] (fun i wr => ∃ (k : Nat) (q : Rm), k ≤ 3 ∧ i = .int .i64 k ∧ Hid (Blk wr w.heap.size 39 #[.slice p0 a.length c0, .slice p1 b.length c1, .slice p2 c.length c2, .bool false]) ∧ Hid (Blk wr (w.heap.size + 1) 39 #[.slice q0 a'.length d0, .slice q1 b'.length d1, .slice q2 c'.length d2, .bool o']) ∧ Hid (Blk wr (w.heap.size + 2) 39 #[.slice none 0 0, .slice none 0 0, .slice none 0 0, .bool false]) ∧ Hid (Blk wr (w.heap.size + 3) 39 (rgc q (andAt k A B C false))) ∧ Hid (OwnR wr q (andAt k A B C false)) ∧ Hid (Below w.heap.size w wr)) (fun i _ => 3 - (intOf i).toNat)
    case atStart => exact ⟨0, ⟨none, 0, none, 0, none, 0⟩, by omega, rfl, Lib.hid H4.out.1, Lib.hid H4.out.2.1, Lib.hid H4.out.2.2.1, Lib.hid H4.out.2.2.2.1, Lib.hid ⟨OwnS.nil _ _, OwnS.nil _ _, OwnS.nil _ _⟩, Lib.hid H4.out.2.2.2.2⟩
    case round =>
      obtain ⟨k, q, hk, rfl, HP, HQ, HZ, HK, HR, HBel⟩ := hrel
      obtain rfl | rfl | rfl | rfl : k = 0 ∨ k = 1 ∨ k = 2 ∨ k = 3 := by omega
      · have a0 := HP.out.cell 0 rfl
        have a1 := HQ.out.cell 0 rfl
        have k0 := HK.out.cell 0 rfl
        have k1 := HK.out.free 0
        have hz := HBel.out.size
        go_wp2_with fail
        go_region_law (first | (go_simp; go_at_call 26; refine (HC0.out _ (show Below w.heap.size w wr.drew from ⟨HBel.out.os, HBel.out.tape, HBel.out.output, HBel.out.size, HBel.out.block⟩)).mono ?_; rintro e w1 ⟨p9, c9, rfl, hs9, b1⟩; have HS9 := Lib.hid hs9; have HB1 := Lib.hid (show Below wr.heap.size wr w1 from ⟨b1.os, b1.tape, b1.output, b1.size, b1.block⟩); have HK1 := Lib.hid ((show Blk wr.drew _ _ _ from HK.out).later b1); have m0 := HK1.out.cell 0 rfl; have m1 := HK1.out.free 0; clear b1 hs9; try go_wp2_with fail))
        all_goals (try go_wp2_with fail)
        all_goals (try go_roundw)
        all_goals (try refine And.intro ?_ ?_)
        all_goals first
          | (simp [intOf]; done)
          | (have S : Same (w.heap.size + 3) w1 (w1.setCell ⟨w.heap.size + 3, 0, none⟩ (.slice p9 A.length c9)) := (Same.refl _ _).set _ _
             have hp := HP.out.lt
             have hq := HQ.out.lt
             have hz1 := HZ.out.lt
             exact ⟨1, ⟨p9, c9, q.p1, q.c1, q.p2, q.c2⟩, by omega, by simp, Lib.hid (S.blk (HP.out.later HB1.out) (by omega)), Lib.hid (S.blk (HQ.out.later HB1.out) (by omega)), Lib.hid (S.blk (HZ.out.later HB1.out) (by omega)), Lib.hid (blk4 HK1.out (.slice p9 A.length c9)).1, Lib.hid ⟨own_base (Same.own S HS9.out (HK1.out.apart HS9.out (by decide))) (Nat.zero_le _), Same.own S (own_later HR.out.2.1 HB1.out) (HK1.out.apart (own_later HR.out.2.1 HB1.out) (by decide)), Same.own S (own_later HR.out.2.2 HB1.out) (HK1.out.apart (own_later HR.out.2.2 HB1.out) (by decide))⟩, Lib.hid (S.below (HBel.out.trans (HB1.out.mono hz)) (by have := HB1.out.size; omega) (by omega))⟩)
      · have a0 := HP.out.cell 1 rfl
        have a1 := HQ.out.cell 1 rfl
        have k0 := HK.out.cell 1 rfl
        have k1 := HK.out.free 1
        have hz := HBel.out.size
        go_wp2_with fail
        go_region_law (first | (go_simp; go_at_call 26; refine (HC1.out _ (show Below w.heap.size w wr.drew from ⟨HBel.out.os, HBel.out.tape, HBel.out.output, HBel.out.size, HBel.out.block⟩)).mono ?_; rintro e w1 ⟨p9, c9, rfl, hs9, b1⟩; have HS9 := Lib.hid hs9; have HB1 := Lib.hid (show Below wr.heap.size wr w1 from ⟨b1.os, b1.tape, b1.output, b1.size, b1.block⟩); have HK1 := Lib.hid ((show Blk wr.drew _ _ _ from HK.out).later b1); have m0 := HK1.out.cell 1 rfl; have m1 := HK1.out.free 1; clear b1 hs9; try go_wp2_with fail))
        all_goals (try go_wp2_with fail)
        all_goals (try go_roundw)
        all_goals (try refine And.intro ?_ ?_)
        all_goals first
          | (simp [intOf]; done)
          | (have S : Same (w.heap.size + 3) w1 (w1.setCell ⟨w.heap.size + 3, 1, none⟩ (.slice p9 B.length c9)) := (Same.refl _ _).set _ _
             have hp := HP.out.lt
             have hq := HQ.out.lt
             have hz1 := HZ.out.lt
             exact ⟨2, ⟨q.p0, q.c0, p9, c9, q.p2, q.c2⟩, by omega, by simp, Lib.hid (S.blk (HP.out.later HB1.out) (by omega)), Lib.hid (S.blk (HQ.out.later HB1.out) (by omega)), Lib.hid (S.blk (HZ.out.later HB1.out) (by omega)), Lib.hid (blk4 HK1.out (.slice p9 B.length c9)).2.1, Lib.hid ⟨Same.own S (own_later HR.out.1 HB1.out) (HK1.out.apart (own_later HR.out.1 HB1.out) (by decide)), own_base (Same.own S HS9.out (HK1.out.apart HS9.out (by decide))) (Nat.zero_le _), Same.own S (own_later HR.out.2.2 HB1.out) (HK1.out.apart (own_later HR.out.2.2 HB1.out) (by decide))⟩, Lib.hid (S.below (HBel.out.trans (HB1.out.mono hz)) (by have := HB1.out.size; omega) (by omega))⟩)
      · have a0 := HP.out.cell 2 rfl
        have a1 := HQ.out.cell 2 rfl
        have k0 := HK.out.cell 2 rfl
        have k1 := HK.out.free 2
        have hz := HBel.out.size
        go_wp2_with fail
        go_region_law (first | (go_simp; go_at_call 26; refine (HC2.out _ (show Below w.heap.size w wr.drew from ⟨HBel.out.os, HBel.out.tape, HBel.out.output, HBel.out.size, HBel.out.block⟩)).mono ?_; rintro e w1 ⟨p9, c9, rfl, hs9, b1⟩; have HS9 := Lib.hid hs9; have HB1 := Lib.hid (show Below wr.heap.size wr w1 from ⟨b1.os, b1.tape, b1.output, b1.size, b1.block⟩); have HK1 := Lib.hid ((show Blk wr.drew _ _ _ from HK.out).later b1); have m0 := HK1.out.cell 2 rfl; have m1 := HK1.out.free 2; clear b1 hs9; try go_wp2_with fail))
        all_goals (try go_wp2_with fail)
        all_goals (try go_roundw)
        all_goals (try refine And.intro ?_ ?_)
        all_goals first
          | (simp [intOf]; done)
          | (have S : Same (w.heap.size + 3) w1 (w1.setCell ⟨w.heap.size + 3, 2, none⟩ (.slice p9 C.length c9)) := (Same.refl _ _).set _ _
             have hp := HP.out.lt
             have hq := HQ.out.lt
             have hz1 := HZ.out.lt
             exact ⟨3, ⟨q.p0, q.c0, q.p1, q.c1, p9, c9⟩, by omega, by simp, Lib.hid (S.blk (HP.out.later HB1.out) (by omega)), Lib.hid (S.blk (HQ.out.later HB1.out) (by omega)), Lib.hid (S.blk (HZ.out.later HB1.out) (by omega)), Lib.hid (blk4 HK1.out (.slice p9 C.length c9)).2.2.1, Lib.hid ⟨Same.own S (own_later HR.out.1 HB1.out) (HK1.out.apart (own_later HR.out.1 HB1.out) (by decide)), Same.own S (own_later HR.out.2.1 HB1.out) (HK1.out.apart (own_later HR.out.2.1 HB1.out) (by decide)), own_base (Same.own S HS9.out (HK1.out.apart HS9.out (by decide))) (Nat.zero_le _)⟩, Lib.hid (S.below (HBel.out.trans (HB1.out.mono hz)) (by have := HB1.out.size; omega) (by omega))⟩)
      · have k0 := HK.out.cell 0 rfl
        have k1 := HK.out.cell 1 rfl
        have k2 := HK.out.cell 2 rfl
        have k3 := HK.out.cell 3 rfl
        have z0 := HZ.out.cell 0 rfl
        have z1 := HZ.out.cell 1 rfl
        have z2 := HZ.out.cell 2 rfl
        have z3 := HZ.out.cell 3 rfl
        have f0 := HZ.out.free 0
        have f1 := HZ.out.free 1
        have f2 := HZ.out.free 2
        have f3 := HZ.out.free 3
        go_wp2_with fail
        exact post_rg (m := q) (r := andAt 3 A B C false) HZ.out (fun W hW => by have e0 := hW.cell 0 rfl; have e1 := hW.cell 1 rfl; have e2 := hW.cell 2 rfl; have e3 := hW.cell 3 rfl; clear HK HZ HP HQ HR HBel HC0 HC1 HC2 HL HN k0 k1 k2 k3 z0 z1 z2 z3 f0 f1 f2 f3; simp [results, Try.results14, go_sem, e0, e1, e2, e3]) rfl ⟨q, rfl, OwnR.put4 HR.out HZ.out, (same4 _ _ _ _).below HBel.out HBel.out.size (by omega)⟩
  · have H4 := Lib.hid (four w 39 #[.slice p0 a.length c0, .slice p1 b.length c1, .slice p2 c.length c2, .bool true] #[.slice q0 a'.length d0, .slice q1 b'.length d1, .slice q2 c'.length d2, .bool o'] #[.slice none 0 0, .slice none 0 0, .slice none 0 0, .bool false] #[.slice none 0 0, .slice none 0 0, .slice none 0 0, .bool o'])
    go_wp2
    go_loopw [14] (fun i wr => ∃ (k : Nat) (q : Rm), k ≤ 3 ∧ i = .int .i64 k ∧ Hid (Blk wr w.heap.size 39 #[.slice p0 a.length c0, .slice p1 b.length c1, .slice p2 c.length c2, .bool true]) ∧ Hid (Blk wr (w.heap.size + 1) 39 #[.slice q0 a'.length d0, .slice q1 b'.length d1, .slice q2 c'.length d2, .bool o']) ∧ Hid (Blk wr (w.heap.size + 2) 39 #[.slice none 0 0, .slice none 0 0, .slice none 0 0, .bool false]) ∧ Hid (Blk wr (w.heap.size + 3) 39 (rgc q (andAt k A B C o'))) ∧ Hid (OwnR wr q (andAt k A B C o')) ∧ Hid (Below w.heap.size w wr)) (fun i _ => 3 - (intOf i).toNat)
    case atStart => exact ⟨0, ⟨none, 0, none, 0, none, 0⟩, by omega, rfl, Lib.hid H4.out.1, Lib.hid H4.out.2.1, Lib.hid H4.out.2.2.1, Lib.hid H4.out.2.2.2.1, Lib.hid ⟨OwnS.nil _ _, OwnS.nil _ _, OwnS.nil _ _⟩, Lib.hid H4.out.2.2.2.2⟩
    case round =>
      obtain ⟨k, q, hk, rfl, HP, HQ, HZ, HK, HR, HBel⟩ := hrel
      obtain rfl | rfl | rfl | rfl : k = 0 ∨ k = 1 ∨ k = 2 ∨ k = 3 := by omega
      · have a0 := HP.out.cell 0 rfl
        have a1 := HQ.out.cell 0 rfl
        have k0 := HK.out.cell 0 rfl
        have k1 := HK.out.free 0
        have hz := HBel.out.size
        go_wp2_with fail
        go_region_law (first | (go_simp; go_at_call 26; refine (HC0.out _ (show Below w.heap.size w wr.drew from ⟨HBel.out.os, HBel.out.tape, HBel.out.output, HBel.out.size, HBel.out.block⟩)).mono ?_; rintro e w1 ⟨p9, c9, rfl, hs9, b1⟩; have HS9 := Lib.hid hs9; have HB1 := Lib.hid (show Below wr.heap.size wr w1 from ⟨b1.os, b1.tape, b1.output, b1.size, b1.block⟩); have HK1 := Lib.hid ((show Blk wr.drew _ _ _ from HK.out).later b1); have m0 := HK1.out.cell 0 rfl; have m1 := HK1.out.free 0; clear b1 hs9; try go_wp2_with fail))
        all_goals (try go_wp2_with fail)
        all_goals (try go_roundw)
        all_goals (try refine And.intro ?_ ?_)
        all_goals first
          | (simp [intOf]; done)
          | (have S : Same (w.heap.size + 3) w1 (w1.setCell ⟨w.heap.size + 3, 0, none⟩ (.slice p9 A.length c9)) := (Same.refl _ _).set _ _
             have hp := HP.out.lt
             have hq := HQ.out.lt
             have hz1 := HZ.out.lt
             exact ⟨1, ⟨p9, c9, q.p1, q.c1, q.p2, q.c2⟩, by omega, by simp, Lib.hid (S.blk (HP.out.later HB1.out) (by omega)), Lib.hid (S.blk (HQ.out.later HB1.out) (by omega)), Lib.hid (S.blk (HZ.out.later HB1.out) (by omega)), Lib.hid (blk4 HK1.out (.slice p9 A.length c9)).1, Lib.hid ⟨own_base (Same.own S HS9.out (HK1.out.apart HS9.out (by decide))) (Nat.zero_le _), Same.own S (own_later HR.out.2.1 HB1.out) (HK1.out.apart (own_later HR.out.2.1 HB1.out) (by decide)), Same.own S (own_later HR.out.2.2 HB1.out) (HK1.out.apart (own_later HR.out.2.2 HB1.out) (by decide))⟩, Lib.hid (S.below (HBel.out.trans (HB1.out.mono hz)) (by have := HB1.out.size; omega) (by omega))⟩)
      · have a0 := HP.out.cell 1 rfl
        have a1 := HQ.out.cell 1 rfl
        have k0 := HK.out.cell 1 rfl
        have k1 := HK.out.free 1
        have hz := HBel.out.size
        go_wp2_with fail
        go_region_law (first | (go_simp; go_at_call 26; refine (HC1.out _ (show Below w.heap.size w wr.drew from ⟨HBel.out.os, HBel.out.tape, HBel.out.output, HBel.out.size, HBel.out.block⟩)).mono ?_; rintro e w1 ⟨p9, c9, rfl, hs9, b1⟩; have HS9 := Lib.hid hs9; have HB1 := Lib.hid (show Below wr.heap.size wr w1 from ⟨b1.os, b1.tape, b1.output, b1.size, b1.block⟩); have HK1 := Lib.hid ((show Blk wr.drew _ _ _ from HK.out).later b1); have m0 := HK1.out.cell 1 rfl; have m1 := HK1.out.free 1; clear b1 hs9; try go_wp2_with fail))
        all_goals (try go_wp2_with fail)
        all_goals (try go_roundw)
        all_goals (try refine And.intro ?_ ?_)
        all_goals first
          | (simp [intOf]; done)
          | (have S : Same (w.heap.size + 3) w1 (w1.setCell ⟨w.heap.size + 3, 1, none⟩ (.slice p9 B.length c9)) := (Same.refl _ _).set _ _
             have hp := HP.out.lt
             have hq := HQ.out.lt
             have hz1 := HZ.out.lt
             exact ⟨2, ⟨q.p0, q.c0, p9, c9, q.p2, q.c2⟩, by omega, by simp, Lib.hid (S.blk (HP.out.later HB1.out) (by omega)), Lib.hid (S.blk (HQ.out.later HB1.out) (by omega)), Lib.hid (S.blk (HZ.out.later HB1.out) (by omega)), Lib.hid (blk4 HK1.out (.slice p9 B.length c9)).2.1, Lib.hid ⟨Same.own S (own_later HR.out.1 HB1.out) (HK1.out.apart (own_later HR.out.1 HB1.out) (by decide)), own_base (Same.own S HS9.out (HK1.out.apart HS9.out (by decide))) (Nat.zero_le _), Same.own S (own_later HR.out.2.2 HB1.out) (HK1.out.apart (own_later HR.out.2.2 HB1.out) (by decide))⟩, Lib.hid (S.below (HBel.out.trans (HB1.out.mono hz)) (by have := HB1.out.size; omega) (by omega))⟩)
      · have a0 := HP.out.cell 2 rfl
        have a1 := HQ.out.cell 2 rfl
        have k0 := HK.out.cell 2 rfl
        have k1 := HK.out.free 2
        have hz := HBel.out.size
        go_wp2_with fail
        go_region_law (first | (go_simp; go_at_call 26; refine (HC2.out _ (show Below w.heap.size w wr.drew from ⟨HBel.out.os, HBel.out.tape, HBel.out.output, HBel.out.size, HBel.out.block⟩)).mono ?_; rintro e w1 ⟨p9, c9, rfl, hs9, b1⟩; have HS9 := Lib.hid hs9; have HB1 := Lib.hid (show Below wr.heap.size wr w1 from ⟨b1.os, b1.tape, b1.output, b1.size, b1.block⟩); have HK1 := Lib.hid ((show Blk wr.drew _ _ _ from HK.out).later b1); have m0 := HK1.out.cell 2 rfl; have m1 := HK1.out.free 2; clear b1 hs9; try go_wp2_with fail))
        all_goals (try go_wp2_with fail)
        all_goals (try go_roundw)
        all_goals (try refine And.intro ?_ ?_)
        all_goals first
          | (simp [intOf]; done)
          | (have S : Same (w.heap.size + 3) w1 (w1.setCell ⟨w.heap.size + 3, 2, none⟩ (.slice p9 C.length c9)) := (Same.refl _ _).set _ _
             have hp := HP.out.lt
             have hq := HQ.out.lt
             have hz1 := HZ.out.lt
             exact ⟨3, ⟨q.p0, q.c0, q.p1, q.c1, p9, c9⟩, by omega, by simp, Lib.hid (S.blk (HP.out.later HB1.out) (by omega)), Lib.hid (S.blk (HQ.out.later HB1.out) (by omega)), Lib.hid (S.blk (HZ.out.later HB1.out) (by omega)), Lib.hid (blk4 HK1.out (.slice p9 C.length c9)).2.2.1, Lib.hid ⟨Same.own S (own_later HR.out.1 HB1.out) (HK1.out.apart (own_later HR.out.1 HB1.out) (by decide)), Same.own S (own_later HR.out.2.1 HB1.out) (HK1.out.apart (own_later HR.out.2.1 HB1.out) (by decide)), own_base (Same.own S HS9.out (HK1.out.apart HS9.out (by decide))) (Nat.zero_le _)⟩, Lib.hid (S.below (HBel.out.trans (HB1.out.mono hz)) (by have := HB1.out.size; omega) (by omega))⟩)
      · have k0 := HK.out.cell 0 rfl
        have k1 := HK.out.cell 1 rfl
        have k2 := HK.out.cell 2 rfl
        have k3 := HK.out.cell 3 rfl
        have z0 := HZ.out.cell 0 rfl
        have z1 := HZ.out.cell 1 rfl
        have z2 := HZ.out.cell 2 rfl
        have z3 := HZ.out.cell 3 rfl
        have f0 := HZ.out.free 0
        have f1 := HZ.out.free 1
        have f2 := HZ.out.free 2
        have f3 := HZ.out.free 3
        go_wp2_with fail
        exact post_rg (m := q) (r := andAt 3 A B C o') HZ.out (fun W hW => by have e0 := hW.cell 0 rfl; have e1 := hW.cell 1 rfl; have e2 := hW.cell 2 rfl; have e3 := hW.cell 3 rfl; clear HK HZ HP HQ HR HBel HC0 HC1 HC2 HL HN k0 k1 k2 k3 z0 z1 z2 z3 f0 f1 f2 f3; simp [results, Try.results14, go_sem, e0, e1, e2, e3]) rfl ⟨q, rfl, OwnR.put4 HR.out HZ.out, (same4 _ _ _ _).below HBel.out HBel.out.size (by omega)⟩
end Go.Proofs.Ytggcboejdihdiaa.Gm
