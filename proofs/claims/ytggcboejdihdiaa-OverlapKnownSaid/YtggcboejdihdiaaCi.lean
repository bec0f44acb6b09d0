/- The contracts of Region.Some, Empty, Within. -/
import Derived.Test.YtggcboejdihdiaaCh
set_option linter.unusedSimpArgs false
set_option linter.unusedVariables false
namespace Go.Proofs.Ytggcboejdihdiaa.Gm
open Go Go.RowKit
attribute [local go_sem ↓] Go.wp_at_zero Go.wp_at_succ

abbrev zVl : Array Value := #[.int .i64 0, .int .i64 0, .string ⟨#[]⟩, .bool false]
theorem four_put {w : World} {g : Nat} {t : TypeId} {a b c d : Value} (h : Blk w g t #[a, b, c, d]) (x y z u : Value) : Blk ((((w.setCell ⟨g, 0, none⟩ x).setCell ⟨g, 1, none⟩ y).setCell ⟨g, 2, none⟩ z).setCell ⟨g, 3, none⟩ u) g t #[x, y, z, u] := blk_set (blk_set (blk_set (blk_set h 0 x) 1 y) 2 z) 3 u
theorem four_same (w : World) (g : Nat) (x y z u : Value) : Same g w ((((w.setCell ⟨g, 0, none⟩ x).setCell ⟨g, 1, none⟩ y).setCell ⟨g, 2, none⟩ z).setCell ⟨g, 3, none⟩ u) := ((((Same.refl g w).set _ _).set _ _).set _ _).set _ _
abbrev smv (v : Vl) (b : Bool) : Value := .tuple #[.agg #[.int .i64 v.k, .int .i64 v.n, .string v.s, .bool v.b], .bool b]
theorem zero_vl : (default : Vl) = ⟨0, 0, ⟨#[]⟩, false⟩ := rfl
theorem two (w : World) (t t' : TypeId) (a b : Array Value) : Blk ((w.alloc (.cells a t)).alloc (.cells b t')) w.heap.size t a ∧ Blk ((w.alloc (.cells a t)).alloc (.cells b t')) (w.heap.size + 1) t' b ∧ Below w.heap.size w ((w.alloc (.cells a t)).alloc (.cells b t')) := by
  refine ⟨(Blk.new w t a).alloc _, ?_, below_two w _ _⟩
  simpa using Blk.new (w.alloc (.cells a t)) t' b
/-- The first k lists are empty. -/
def emptyTo (k : Nat) (a b c : List Sp) : Prop := (0 < k → a = []) ∧ (1 < k → b = []) ∧ (2 < k → c = [])
theorem someR_a (x : Sp) (a b c : List Sp) (o : Bool) : someR ⟨x :: a, b, c, o⟩ = (x.f.v, true) := rfl
theorem someR_b (x : Sp) (b c : List Sp) (o : Bool) : someR ⟨[], x :: b, c, o⟩ = (x.f.v, true) := rfl
theorem someR_c (x : Sp) (c : List Sp) (o : Bool) : someR ⟨[], [], x :: c, o⟩ = (x.f.v, true) := rfl
theorem someR_o (o : Bool) : someR ⟨[], [], [], o⟩ = (default, o) := rfl
set_option maxHeartbeats 16000000 in
set_option maxRecDepth 100000 in
theorem some_any (m : Rm) (r : Rg) (w : World) (hR : RgIn w m r) : Calls Try.prog 27 #[rgv m r] w (Gives (smv (someR r).1 (someR r).2) w) := by
  obtain ⟨p0, c0, p1, c1, p2, c2⟩ := m
  obtain ⟨a, b, c, o⟩ := r
  have HA := Lib.hid hR.1
  have HB := Lib.hid hR.2.1
  have HC := Lib.hid hR.2.2
  clear hR
  simp only at HA HB HC
  have H2 := Lib.hid (two w 39 31 #[.slice p0 a.length c0, .slice p1 b.length c1, .slice p2 c.length c2, .bool o] zVl)
  go_enter Try.func27, Try.ntmps27
  go_wp2
  go_loopw [8] (fun i wr => ∃ (k : Nat), k ≤ 3 ∧ i = .int .i64 k ∧ Hid (emptyTo k a b c) ∧ Hid (Blk wr w.heap.size 39 #[.slice p0 a.length c0, .slice p1 b.length c1, .slice p2 c.length c2, .bool o]) ∧ Hid (Blk wr (w.heap.size + 1) 31 zVl) ∧ Hid (Below w.heap.size w wr)) (fun i _ => 3 - (intOf i).toNat)
  case atStart => exact ⟨0, by omega, rfl, Lib.hid ⟨fun h => by omega, fun h => by omega, fun h => by omega⟩, Lib.hid H2.out.1, Lib.hid H2.out.2.1, Lib.hid H2.out.2.2⟩
  case round =>
    obtain ⟨k, hk, rfl, HEm, HP, HZ, HBel⟩ := hrel
    obtain rfl | rfl | rfl | rfl : k = 0 ∨ k = 1 ∨ k = 2 ∨ k = 3 := by omega
    · cases a with
      | nil =>
        have hix := idx_a0 p0 p1 p2 0 b.length c.length c0 c1 c2
        go_wp2_with fail
        go_roundw
        case rel => exact ⟨1, by omega, by simp, Lib.hid ⟨fun _ => rfl, fun h => by omega, fun h => by omega⟩, HP, HZ, HBel⟩
        case measure => simp [intOf]
      | cons x l =>
        obtain ⟨n, hn⟩ : ∃ n, (x :: l).length = n := ⟨_, rfl⟩
        have h0n : 0 < n := by rw [← hn]; simp
        rw [hn] at HA ⊢
        obtain ⟨b9, o9, hp9, hb9, hc9, hx9⟩ := ten_head hn (HA.out.1.later HBel.out)
        have hia := idx_s0 p0 b9 o9 n c0 hp9 h0n
        have hix := idx_a0 p0 p1 p2 n b.length c.length c0 c1 c2
        have q0 := hx9.1
        have q1 := hx9.2.1
        have q2 := hx9.2.2.1
        have q3 := hx9.2.2.2.1
        have HS := Lib.hid hn
        clear hn hx9 hp9
        have f0 := HZ.out.free 0
        have f1 := HZ.out.free 1
        have f2 := HZ.out.free 2
        have f3 := HZ.out.free 3
        have z0 := HZ.out.cell 0 rfl
        have z1 := HZ.out.cell 1 rfl
        have z2 := HZ.out.cell 2 rfl
        have z3 := HZ.out.cell 3 rfl
        have hz := HBel.out.size
        have HBF := Lib.hid (four_put HZ.out (.int .i64 x.f.v.k) (.int .i64 x.f.v.n) (.string x.f.v.s) (.bool x.f.v.b))
        go_wp2_with fail
        refine bodyPost_ret (v := smv x.f.v true) ?_ rfl ⟨?_, (four_same _ _ _ _ _ _).below HBel.out HBel.out.size (by omega)⟩
        · have e0 := HBF.out.cell 0 rfl
          have e1 := HBF.out.cell 1 rfl
          have e2 := HBF.out.cell 2 rfl
          have e3 := HBF.out.cell 3 rfl
          clear HA HB HC HP HZ HBel HBF HS z0 z1 z2 z3 f0 f1 f2 f3 q0 q1 q2 q3 hia hix
          simp [results, Try.results27, go_sem, e0, e1, e2, e3]
        · rw [someR_a]
    · obtain rfl := HEm.out.1 (by omega)
      clear HEm
      cases b with
      | nil =>
        have hix := idx_a1 p0 p1 p2 0 0 c.length c0 c1 c2
        go_wp2_with fail
        go_roundw
        case rel => exact ⟨2, by omega, by simp, Lib.hid ⟨fun _ => rfl, fun _ => rfl, fun h => by omega⟩, HP, HZ, HBel⟩
        case measure => simp [intOf]
      | cons x l =>
        obtain ⟨n, hn⟩ : ∃ n, (x :: l).length = n := ⟨_, rfl⟩
        have h0n : 0 < n := by rw [← hn]; simp
        rw [hn] at HB ⊢
        obtain ⟨b9, o9, hp9, hb9, hc9, hx9⟩ := ten_head hn (HB.out.1.later HBel.out)
        have hia := idx_s0 p1 b9 o9 n c1 hp9 h0n
        have hix := idx_a1 p0 p1 p2 0 n c.length c0 c1 c2
        have q0 := hx9.1
        have q1 := hx9.2.1
        have q2 := hx9.2.2.1
        have q3 := hx9.2.2.2.1
        have HS := Lib.hid hn
        clear hn hx9 hp9
        have f0 := HZ.out.free 0
        have f1 := HZ.out.free 1
        have f2 := HZ.out.free 2
        have f3 := HZ.out.free 3
        have z0 := HZ.out.cell 0 rfl
        have z1 := HZ.out.cell 1 rfl
        have z2 := HZ.out.cell 2 rfl
        have z3 := HZ.out.cell 3 rfl
        have hz := HBel.out.size
        have HBF := Lib.hid (four_put HZ.out (.int .i64 x.f.v.k) (.int .i64 x.f.v.n) (.string x.f.v.s) (.bool x.f.v.b))
        go_wp2_with fail
        refine bodyPost_ret (v := smv x.f.v true) ?_ rfl ⟨?_, (four_same _ _ _ _ _ _).below HBel.out HBel.out.size (by omega)⟩
        · have e0 := HBF.out.cell 0 rfl
          have e1 := HBF.out.cell 1 rfl
          have e2 := HBF.out.cell 2 rfl
          have e3 := HBF.out.cell 3 rfl
          clear HA HB HC HP HZ HBel HBF HS z0 z1 z2 z3 f0 f1 f2 f3 q0 q1 q2 q3 hia hix
          simp [results, Try.results27, go_sem, e0, e1, e2, e3]
        · rw [someR_b]
    · obtain rfl := HEm.out.1 (by omega)
      obtain rfl := HEm.out.2.1 (by omega)
      clear HEm
      cases c with
      | nil =>
        have hix := idx_a2 p0 p1 p2 0 0 0 c0 c1 c2
        go_wp2_with fail
        go_roundw
        case rel => exact ⟨3, by omega, by simp, Lib.hid ⟨fun _ => rfl, fun _ => rfl, fun _ => rfl⟩, HP, HZ, HBel⟩
        case measure => simp [intOf]
      | cons x l =>
        obtain ⟨n, hn⟩ : ∃ n, (x :: l).length = n := ⟨_, rfl⟩
        have h0n : 0 < n := by rw [← hn]; simp
        rw [hn] at HC ⊢
        obtain ⟨b9, o9, hp9, hb9, hc9, hx9⟩ := ten_head hn (HC.out.1.later HBel.out)
        have hia := idx_s0 p2 b9 o9 n c2 hp9 h0n
        have hix := idx_a2 p0 p1 p2 0 0 n c0 c1 c2
        have q0 := hx9.1
        have q1 := hx9.2.1
        have q2 := hx9.2.2.1
        have q3 := hx9.2.2.2.1
        have HS := Lib.hid hn
        clear hn hx9 hp9
        have f0 := HZ.out.free 0
        have f1 := HZ.out.free 1
        have f2 := HZ.out.free 2
        have f3 := HZ.out.free 3
        have z0 := HZ.out.cell 0 rfl
        have z1 := HZ.out.cell 1 rfl
        have z2 := HZ.out.cell 2 rfl
        have z3 := HZ.out.cell 3 rfl
        have hz := HBel.out.size
        have HBF := Lib.hid (four_put HZ.out (.int .i64 x.f.v.k) (.int .i64 x.f.v.n) (.string x.f.v.s) (.bool x.f.v.b))
        go_wp2_with fail
        refine bodyPost_ret (v := smv x.f.v true) ?_ rfl ⟨?_, (four_same _ _ _ _ _ _).below HBel.out HBel.out.size (by omega)⟩
        · have e0 := HBF.out.cell 0 rfl
          have e1 := HBF.out.cell 1 rfl
          have e2 := HBF.out.cell 2 rfl
          have e3 := HBF.out.cell 3 rfl
          clear HA HB HC HP HZ HBel HBF HS z0 z1 z2 z3 f0 f1 f2 f3 q0 q1 q2 q3 hia hix
          simp [results, Try.results27, go_sem, e0, e1, e2, e3]
        · rw [someR_c]
    · obtain rfl := HEm.out.1 (by omega)
      obtain rfl := HEm.out.2.1 (by omega)
      obtain rfl := HEm.out.2.2 (by omega)
      clear HEm
      have e9 := HP.out.cell 3 rfl
      have f0 := HZ.out.free 0
      have f1 := HZ.out.free 1
      have f2 := HZ.out.free 2
      have f3 := HZ.out.free 3
      have z0 := HZ.out.cell 0 rfl
      have z1 := HZ.out.cell 1 rfl
      have z2 := HZ.out.cell 2 rfl
      have z3 := HZ.out.cell 3 rfl
      have HBF := Lib.hid (four_put HZ.out (.int .i64 0) (.int .i64 0) (.string ⟨#[]⟩) (.bool false))
      go_wp2_with fail
      go_region
      all_goals (try go_wp2_with fail)
      refine bodyPost_ret (v := smv default o) ?_ rfl ⟨?_, ((four_same _ _ _ _ _ _).below HBel.out HBel.out.size (by omega)).drew⟩
      · have e0 := HBF.out.cell 0 rfl
        have e1 := HBF.out.cell 1 rfl
        have e2 := HBF.out.cell 2 rfl
        have e3 := HBF.out.cell 3 rfl
        clear HA HB HC HP HZ HBel HBF e9 z0 z1 z2 z3 f0 f1 f2 f3
        simp [results, Try.results27, go_sem, e0, e1, e2, e3, zero_vl]
      · rw [someR_o]
set_option maxHeartbeats 4000000 in
set_option maxRecDepth 20000 in
theorem empty_any (m : Rm) (r : Rg) (w : World) (hR : RgIn w m r) : Calls Try.prog 15 #[rgv m r] w (Gives (.bool (emptyR r)) w) := by
  have HC := Lib.hid (fun W (h : Below w.heap.size w W) => some_any m r W (hR.later h))
  have HE : Hid (emptyR r = !(someR r).2) := Lib.hid rfl
  have HB0 := Lib.hid (below_one w (.cells (rgc m r) 39))
  clear hR
  generalize someR r = z at HC HE
  obtain ⟨v1, v2⟩ := z
  have HE1 : Hid (emptyR r = !v2) := HE
  rw [HE1.out]
  clear HE1
  clear HE
  go_enter Try.func15, Try.ntmps15
  go_wp2_with fail
  refine (HC.out _ HB0.out).mono ?_
  rintro e w1 ⟨rfl, b1⟩
  have HB1 := Lib.hid (then_ HB0.out b1)
  have hz := b1.size
  clear b1
  go_wp2_with fail
  go_ret
  exact ⟨rfl, then_ HB1.out (below_one _ _)⟩
set_option maxHeartbeats 4000000 in
set_option maxRecDepth 20000 in
theorem within_any (m m' : Rm) (r s : Rg) (n n' : Nat) (w : World) (hR : RgIn w m r) (hS : RgIn w m' s) (hr : LeR r n) (hs : LeR s n') (hn : n + (n' + 1) ≤ 1000000) : Calls Try.prog 35 #[rgv m r, rgv m' s] w (Gives (.bool (withinR r s)) w) := by
  have HC := Lib.hid (fun W (h : Below w.heap.size w W) => minus_r m m' r s n n' W (hR.later h) (hS.later h) hr hs hn)
  have HE := Lib.hid (fun W q (ho : OwnR W q (minusR r s)) => empty_any q (minusR r s) W (ho.rg (hr.minus hs) (by omega)))
  have HW : Hid (withinR r s = emptyR (minusR r s)) := Lib.hid rfl
  have HB0 := Lib.hid (below_two w (.cells (rgc m r) 39) (.cells (rgc m' s) 39))
  clear hR hS hr hs hn
  rw [HW.out]
  clear HW
  generalize minusR r s = u at HC HE ⊢
  generalize emptyR u = v at HE ⊢
  go_enter Try.func35, Try.ntmps35
  go_wp2_with fail
  refine (HC.out _ HB0.out).mono ?_
  rintro e w1 ⟨q, rfl, ho, b1⟩
  have HB1 := Lib.hid (then_ HB0.out b1)
  have HO := Lib.hid ho
  clear b1 ho
  go_wp2_with fail
  refine (HE.out _ _ HO.out).mono ?_
  rintro e w2 ⟨rfl, b2⟩
  have HB2 := Lib.hid (then_ HB1.out b2)
  clear b2
  go_wp2_with fail
  go_ret
  exact ⟨rfl, HB2.out⟩
abbrev vlc (x : Vl) : Array Value := #[.int .i64 x.k, .int .i64 x.n, .string x.s, .bool x.b]
/-- What a search leaves: an index, not below 0 just if there is one. -/
def Finds (r : Bool) (w : World) (e : Ending) (w' : World) : Prop := ∃ i : Int, e = .returned (.int .i64 i) ∧ decide (0 ≤ i) = r ∧ Below w.heap.size w w'
theorem any_at {α : Type} [Inhabited α] {f : α → Bool} {l : List α} {k : Nat} (hk : k < l.length) (h : f (l.getD k default) = true) : l.any f = true := by
  rw [List.any_eq_true]
  exact ⟨l[k], List.getElem_mem hk, by simpa [List.getD_eq_getElem?_getD, hk] using h⟩
theorem any_none {α : Type} [Inhabited α] {f : α → Bool} {l : List α} (h : ∀ j, j < l.length → f (l.getD j default) = false) : l.any f = false := by
  rw [List.any_eq_false]
  intro x hx
  obtain ⟨j, hj, rfl⟩ := List.getElem_of_mem hx
  have := h j hj
  simpa [List.getD_eq_getElem?_getD, hj] using this
end Go.Proofs.Ytggcboejdihdiaa.Gm
