/- Layer 12: rows of records that are read; Same, walked. -/
import Derived.Test.YtelocbohiddpgaaGreatDoorGd
import Derived.Test.YtelocbohiddpgaaGreatDoorSgg
/- bytes.Equal. -/
set_option linter.unusedSimpArgs false
set_option linter.unusedVariables false
namespace Go.Proofs.YtelocbohiddpgaaGreatDoor.Gm
open Go Go.RowKit
attribute [local go_sem ↓] Go.wp_at_zero Go.wp_at_succ

theorem equal_any (v u : Value) (L S : List UInt8) (w : World) (hB : Bs w v L) (hS : Bs w u S) : Calls Tryz.prog 11 #[v, u] w (Quits (.bool (L == S)) w) := by
  have h1 := conv_bs hB 9 Tryz.underlying9
  have h2 := conv_bs hS 9 Tryz.underlying9
  obtain ⟨p, cap, rfl⟩ := hB.form
  obtain ⟨q, capq, rfl⟩ := hS.form
  clear hB hS
  go_enter Tryz.func11, Tryz.ntmps11
  go_wp2_with fail
  go_ret
  exact ⟨rfl, rfl⟩
end Go.Proofs.YtelocbohiddpgaaGreatDoor.Gm
set_option linter.unusedSimpArgs false
set_option linter.unusedVariables false
namespace Go.Proofs.YtelocbohiddpgaaGreatDoor.Crc
open Go Go.RowKit Gm
attribute [local go_sem ↓] Go.wp_at_zero Go.wp_at_succ

/-- A row of records in memory, to be read. -/
def RowS (w : World) (v : Value) (l : List Rc) : Prop := ∃ p cap, v = .slice p l.length cap ∧ (l.length ≤ cap ∧ (p = none → cap = 0)) ∧ ∀ k, k < l.length → ∃ b o vj, p = some ⟨b, o, none⟩ ∧ b < w.heap.size ∧ w.cell? ⟨b, o + k * 2, none⟩ = some (.int .u64 ((l.getD k default).n : Int)) ∧ w.cell? ⟨b, o + k * 2 + 1, none⟩ = some vj ∧ Bs w vj (l.getD k default).d
theorem RowS.later {w w' : World} {v : Value} {l : List Rc} (h : RowS w v l) (hb : Below w.heap.size w w') : RowS w' v l := by
  obtain ⟨p, cap, e, hl, hc⟩ := h
  refine ⟨p, cap, e, hl, fun k hk => ?_⟩
  obtain ⟨b, o, vj, h1, h2, h3, h4, h5⟩ := hc k hk
  exact ⟨b, o, vj, h1, Nat.lt_of_lt_of_le h2 hb.size, (hb.cell (p := ⟨b, o + k * 2, none⟩) h2).trans h3, (hb.cell (p := ⟨b, o + k * 2 + 1, none⟩) h2).trans h4, h5.below hb⟩
theorem RowS.form {w : World} {v : Value} {l : List Rc} (h : RowS w v l) : ∃ p cap, v = .slice p l.length cap ∧ l.length ≤ cap := by
  obtain ⟨p, cap, e, hl, _⟩ := h
  exact ⟨p, cap, e, hl.1⟩
theorem RowS.nil (w : World) : RowS w (.slice none 0 0) [] := ⟨none, 0, rfl, ⟨Nat.le_refl _, fun _ => rfl⟩, fun k hk => absurd hk (Nat.not_lt_zero k)⟩
theorem cellsR_at : ∀ (l : List Rx) (k : Nat) (hk : k < l.length), (cellsR l)[k * 2]? = some (.int .u64 (l[k].n : Int)) ∧ (cellsR l)[k * 2 + 1]? = some l[k].v
  | x :: l, 0, _ => ⟨rfl, rfl⟩
  | x :: l, k + 1, hk => by
    have h := cellsR_at l k (by simpa using hk)
    have e : cellsR (x :: l) = .int .u64 (x.n : Int) :: x.v :: cellsR l := rfl
    rw [e, show (k + 1) * 2 = k * 2 + 1 + 1 by omega]
    simp only [List.getElem?_cons_succ, List.getElem_cons_succ]
    exact h
theorem getD_at12 {l : List Rc} {k : Nat} (h : k < l.length) : l.getD k default = l[k] := by rw [List.getD_eq_getElem?_getD, List.getElem?_eq_getElem h]; rfl
theorem rowS_own {w : World} {base : Nat} {v : Value} {ys : List Rx} (h : w.ownsRow base 30 2 v ys.length (cellsR ys)) (hr : ∀ y ∈ ys, Bs w y.v y.d) : RowS w v (ys.map Rx.rc) := by
  rcases h.2 with ⟨e, h0⟩ | ⟨g, cap, cur, rfl, hbb, hh, h3⟩
  · have : ys = [] := List.eq_nil_of_length_eq_zero h0
    subst this
    rw [e]
    exact RowS.nil w
  · refine ⟨some ⟨g, 0, none⟩, cap, by rw [List.length_map], ?_, fun k hk => ?_⟩
    · exact ⟨by rw [List.length_map]; exact h3.1, fun e => by cases e⟩
    · rw [List.length_map] at hk
      obtain ⟨h1, h2⟩ := cellsR_at ys k hk
      have e : (ys.map Rx.rc).getD k default = ys[k].rc := by rw [getD_at12 (by rw [List.length_map]; exact hk), List.getElem_map]
      rw [e]
      exact ⟨g, 0, ys[k].v, rfl, lt_of_block hh, by rw [Nat.zero_add, World.ownsRow.cellAt h _ (by omega)]; exact h1, by rw [Nat.zero_add, World.ownsRow.cellAt h _ (by omega)]; exact h2, hr _ (List.getElem_mem hk)⟩
theorem idx_s (p : Option Addr) (b o n cap k : Nat) (hp : p = some ⟨b, o, none⟩) (hk : k < n) (W : World) : (Instr.indexAt 33 (.slice p n cap) (.int .i64 (k : Int))).run Tryz.prog W = .ok (.pointer (some ⟨b, o + k * 2, none⟩)) W := by subst hp; go_simp
theorem same1_any (n n2 : Nat) (v v2 : Value) (d d2 : List UInt8) (w : World) (h1 : Bs w v d) (h2 : Bs w v2 d2) : Calls Tryz.prog 37 #[recV n v, recV n2 v2] w (Gives (.bool (decide (Rc.mk n d = Rc.mk n2 d2))) w) := by
  have HEq := Lib.hid (fun X (h : Below w.heap.size w X) => equal_any v v2 d d2 X (h1.below h) (h2.below h))
  obtain ⟨p, c, rfl⟩ := h1.form
  obtain ⟨p2, c2, rfl⟩ := h2.form
  have hd : (d == d2) = decide (d = d2) := by rw [Bool.eq_iff_iff]; simp
  rw [hd] at HEq
  generalize d.length = m at *
  generalize d2.length = m2 at *
  have B1 := below_one w (.cells #[.int .u64 (n : Int), .slice p m c] 30)
  have K1 := Blk.new w 30 #[.int .u64 (n : Int), .slice p m c]
  obtain ⟨W1, hW1⟩ : ∃ W1, w.alloc (.cells #[.int .u64 (n : Int), .slice p m c] 30) = W1 := ⟨_, rfl⟩
  rw [hW1] at B1 K1
  have B2 := below_one W1 (.cells #[.int .u64 (n2 : Int), .slice p2 m2 c2] 30)
  have K2 := Blk.new W1 30 #[.int .u64 (n2 : Int), .slice p2 m2 c2]
  have K1b := K1.later B2
  have hz : W1.heap.size = w.heap.size + 1 := by rw [← hW1]; simp
  obtain ⟨W2, hW2⟩ : ∃ W2, W1.alloc (.cells #[.int .u64 (n2 : Int), .slice p2 m2 c2] 30) = W2 := ⟨_, rfl⟩
  rw [hW2] at B2 K2 K1b
  rw [hz] at K2
  have HW1 := Lib.hid hW1
  have HW2 := Lib.hid hW2
  have HB := Lib.hid (then_ B1 B2)
  have c0 := K1b.cell 0 rfl
  have c1 := K1b.cell 1 rfl
  have c2' := K2.cell 0 rfl
  have c3 := K2.cell 1 rfl
  clear h1 h2 hW1 hW2 B1 B2 K1 K2 K1b hz hd
  by_cases hn : n = n2
  · subst hn
    have hr : decide (Rc.mk n d = Rc.mk n d2) = decide (d = d2) := by rw [Bool.eq_iff_iff]; simp
    rw [hr]
    clear hr
    go_enter Tryz.func37, Tryz.ntmps37
    go_upto_region 1 with (fail)
    rw [HW1.out, HW2.out]
    go_wp2_with fail
    refine (HEq.out _ HB.out).mono ?_; rintro e w3 ⟨rfl, rfl⟩
    go_wp2_with fail
    go_ret
    exact ⟨rfl, HB.out⟩
  · have hr : decide (Rc.mk n d = Rc.mk n2 d2) = false := decide_eq_false (fun e => hn (by injection e))
    rw [hr]
    have e1 : ((n : Int) == (n2 : Int)) = false := by rw [beq_eq_false_iff_ne]; omega
    have e2 : ¬ ((n : Int) = n2) := by omega
    clear hr
    go_enter Tryz.func37, Tryz.ntmps37
    go_upto_region 1 with (fail)
    rw [HW1.out, HW2.out]
    go_wp2_with fail
    go_ret
    exact ⟨rfl, HB.out⟩
theorem rcs_eq {l m : List Rc} (hl : l.length = m.length) (h : ∀ k, k < l.length → l.getD k default = m.getD k default) : l = m := by
  apply List.ext_getElem hl
  intro k h1 h2
  have := h k h1
  rwa [getD_at12 h1, getD_at12 h2] at this
set_option maxHeartbeats 4000000 in
set_option maxRecDepth 100000 in
theorem eqf_any (v1 v2 : Value) (l m : List Rc) (w : World) (h1 : RowS w v1 l) (h2 : RowS w v2 m) (hl : l.length ≤ 140737488355328) : Calls Tryz.prog 36 #[v1, v2, .func (.func 37) #[] #[]] w (Gives (.bool (decide (l = m))) w) := by
  obtain ⟨p1, c1, rfl, _, hc1⟩ := h1
  obtain ⟨p2, c2, rfl, _, hc2⟩ := h2
  have HC1 := Lib.hid hc1
  have HC2 := Lib.hid hc2
  clear hc1 hc2
  by_cases hlm : l.length = m.length
  · have HLM := Lib.hid hlm
    have HL : Hid (∀ k, k < l.length → k < m.length) := Lib.hid (fun k hk => by omega)
    rw [← hlm]
    obtain ⟨n, hn⟩ : ∃ n, l.length = n := ⟨_, rfl⟩
    have HN := Lib.hid hn
    rw [hn] at hl ⊢
    clear hlm hn
    go_enter Tryz.func36, Tryz.ntmps36
    go_wp2_with fail
    go_loopw [17] (fun i wr => ∃ k : Nat, k ≤ n ∧ i = .int .i64 k ∧ Hid (∀ j, j < k → l.getD j default = m.getD j default) ∧ Hid (Below w.heap.size w wr)) (fun i _ => n - (intOf i).toNat)
    case atStart => exact ⟨0, Nat.zero_le _, rfl, Lib.hid (fun j hj => absurd hj (Nat.not_lt_zero j)), Lib.hid (Below.refl _ _)⟩
    case round =>
      obtain ⟨k, hk, rfl, HE, HB⟩ := hrel
      by_cases hkn : k < n
      · have hkl : k < l.length := by rw [HN.out]; exact hkn
        obtain ⟨b1, o1, u1, rfl, hb1, e1, f1, q1⟩ := HC1.out k hkl
        obtain ⟨b2, o2, u2, rfl, hb2, e2, f2, q2⟩ := HC2.out k (HL.out k hkl)
        obtain ⟨pa, ca, rfl⟩ := q1.form
        obtain ⟨pb, cb, rfl⟩ := q2.form
        have i1 := idx_s _ b1 o1 n c1 k rfl hkn
        have i2 := idx_s _ b2 o2 n c2 k rfl hkn
        have d1 := (HB.out.cell (p := ⟨b1, o1 + k * 2, none⟩) hb1).trans e1
        have d2 := (HB.out.cell (p := ⟨b1, o1 + k * 2 + 1, none⟩) hb1).trans f1
        have Bx := fun (X : World) (h : Below wr.heap.size wr X) => (h.cell (p := ⟨b2, o2 + k * 2, none⟩) (Nat.lt_of_lt_of_le hb2 HB.out.size)).trans ((HB.out.cell (p := ⟨b2, o2 + k * 2, none⟩) hb2).trans e2)
        have By := fun (X : World) (h : Below wr.heap.size wr X) => (h.cell (p := ⟨b2, o2 + k * 2 + 1, none⟩) (Nat.lt_of_lt_of_le hb2 HB.out.size)).trans ((HB.out.cell (p := ⟨b2, o2 + k * 2 + 1, none⟩) hb2).trans f2)
        obtain ⟨x, hx⟩ : ∃ x, l.getD k default = x := ⟨_, rfl⟩
        obtain ⟨y, hy⟩ : ∃ y, m.getD k default = y := ⟨_, rfl⟩
        rw [hx] at d1 d2 q1
        rw [hy] at Bx By q2
        obtain ⟨xn, xd⟩ := x
        obtain ⟨yn, yd⟩ := y
        simp only at d1 d2 Bx By q1 q2
        have HSm := Lib.hid (fun X (h : Below wr.heap.size wr X) => same1_any xn yn _ _ xd yd X (q1.below (then_ HB.out h)) (q2.below (then_ HB.out h)))
        have HX := Lib.hid hx
        have HY := Lib.hid hy
        generalize xd.length = nx at *
        generalize yd.length = ny at *
        have B1 := below_one wr (.cells #[.int .u64 (xn : Int), .slice pa nx ca] 30)
        have K1 := Blk.new wr 30 #[.int .u64 (xn : Int), .slice pa nx ca]
        obtain ⟨z1, hz1⟩ : ∃ z, wr.heap.size = z := ⟨_, rfl⟩
        obtain ⟨W1, hW1⟩ : ∃ W1, wr.alloc (.cells #[.int .u64 (xn : Int), .slice pa nx ca] 30) = W1 := ⟨_, rfl⟩
        have hzW : W1.heap.size = z1 + 1 := by rw [← hW1, ← hz1]; simp
        rw [hW1] at B1 K1
        rw [hz1] at K1
        have g1 := Bx _ B1
        have g2 := By _ B1
        have B2 := below_one W1 (.cells #[.int .u64 (yn : Int), .slice pb ny cb] 30)
        have K2 := Blk.new W1 30 #[.int .u64 (yn : Int), .slice pb ny cb]
        have K1b := K1.later B2
        obtain ⟨W2, hW2⟩ : ∃ W2, W1.alloc (.cells #[.int .u64 (yn : Int), .slice pb ny cb] 30) = W2 := ⟨_, rfl⟩
        rw [hW2] at B2 K2 K1b
        rw [hzW] at K2
        have HW1 := Lib.hid hW1
        have HW2 := Lib.hid hW2
        have HZ := Lib.hid hz1
        have HZ2 := Lib.hid hzW
        have HB2 := Lib.hid (then_ B1 B2)
        have s0 := K1b.cell 0 rfl
        have s1 := K1b.cell 1 rfl
        have s2 := K2.cell 0 rfl
        have s3 := K2.cell 1 rfl
        have HBn := Lib.hid (then_ HB.out HB2.out)
        clear hx hy e1 e2 f1 f2 hkl q1 q2 hW1 hW2 B1 B2 K1 K2 K1b Bx By hz1 hzW
        go_upto_region 6 with (fail)
        rw [HW1.out, HZ.out]
        go_upto_region 7 with (fail)
        rw [HW2.out, HZ2.out]
        go_wp2_with fail
        refine (HSm.out _ HB2.out).mono ?_; rintro e w3 ⟨rfl, b3⟩
        have HB3 := Lib.hid (then_ HBn.out b3)
        clear b3 HSm s0 s1 s2 s3 g1 g2 d1 d2
        by_cases hxy : (Rc.mk xn xd) = (Rc.mk yn yd)
        · have hd : decide ((Rc.mk xn xd) = (Rc.mk yn yd)) = true := decide_eq_true hxy
          rw [hd]
          have HN2 : Hid (∀ j, j < k + 1 → l.getD j default = m.getD j default) := Lib.hid (fun j hj => by
            by_cases e : j = k
            · rw [e, HX.out, HY.out]; exact hxy
            · exact HE.out j (by omega))
          clear hxy hd
          go_wp2_with fail
          go_roundw
          case rel => exact ⟨k + 1, by omega, by go_num, HN2, HB3⟩
          case measure => simp [intOf]; omega
        · have hd : decide ((Rc.mk xn xd) = (Rc.mk yn yd)) = false := decide_eq_false hxy
          rw [hd]
          have HD : Hid (decide (l = m) = false) := Lib.hid (decide_eq_false (fun e => hxy (by rw [← HX.out, ← HY.out, e])))
          clear hxy hd
          go_wp2_with fail
          go_ret
          exact ⟨ret_bool (by rw [HD.out]), HB3.out⟩
      · obtain rfl : k = n := by omega
        have HD : Hid (decide (l = m) = true) := Lib.hid (decide_eq_true (rcs_eq HLM.out (fun j hj => HE.out j (by rw [HN.out] at hj; exact hj))))
        go_wp2_with fail
        go_ret
        exact ⟨ret_bool (by rw [HD.out]), HB.out⟩
  · have HD : Hid (decide (l = m) = false) := Lib.hid (decide_eq_false (fun e => hlm (by rw [e])))
    obtain ⟨n, hn⟩ : ∃ n, l.length = n := ⟨_, rfl⟩
    obtain ⟨n2, hn2⟩ : ∃ n, m.length = n := ⟨_, rfl⟩
    rw [hn, hn2] at hlm
    have hlb : ((n : Int) == (n2 : Int)) = false := by rw [beq_eq_false_iff_ne]; omega
    have hlc : ¬ ((n : Int) = (n2 : Int)) := by omega
    rw [hn, hn2]
    clear hn hn2 hl HC1 HC2
    go_enter Tryz.func36, Tryz.ntmps36
    go_wp2_with fail
    go_ret
    exact ⟨ret_bool (by rw [HD.out]), Below.refl _ _⟩
theorem sameS_any (v1 v2 : Value) (l m : List Rc) (w : World) (h1 : RowS w v1 l) (h2 : RowS w v2 m) (hl : l.length ≤ 140737488355328) : Calls Tryz.prog 14 #[v1, v2] w (Gives (.bool (decide (l = m))) w) := by
  have HEq := Lib.hid (eqf_any v1 v2 l m w h1 h2 hl)
  obtain ⟨p1, c1, rfl, _⟩ := h1.form
  obtain ⟨p2, c2, rfl, _⟩ := h2.form
  clear h1 h2
  generalize l.length = nl at *
  generalize m.length = nm at *
  go_enter Tryz.func14, Tryz.ntmps14
  go_wp2_with fail
  refine HEq.out.mono ?_; rintro e w1 ⟨rfl, b1⟩
  go_wp2_with fail
  go_ret
  exact ⟨rfl, b1⟩
end Go.Proofs.YtelocbohiddpgaaGreatDoor.Crc
