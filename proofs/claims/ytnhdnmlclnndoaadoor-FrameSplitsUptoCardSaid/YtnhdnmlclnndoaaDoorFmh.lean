/- Layer 11: rows of records in memory; the document's Put, Size, Same. -/
import Derived.Test.YtnhdnmlclnndoaaDoorFmg
import Derived.Test.YtnhdnmlclnndoaaDoorYi
import Derived.BigQuiet
set_option linter.unusedSimpArgs false
set_option linter.unusedVariables false
namespace Go.Proofs.YtnhdnmlclnndoaaDoor.Crc
open Go Go.RowKit Gm
attribute [local go_sem ↓] Go.wp_at_zero Go.wp_at_succ

/-- A row of records in memory, to be read. -/
def RowR (w : World) (v : Value) (l : List (List UInt8)) : Prop := ∃ p cap, v = .slice p l.length cap ∧ ∀ k, k < l.length → ∃ b o vj, p = some ⟨b, o, none⟩ ∧ b < w.heap.size ∧ w.cell? ⟨b, o + k, none⟩ = some vj ∧ Bs w vj (l.getD k [])
theorem RowR.later {w w' : World} {v : Value} {l : List (List UInt8)} (h : RowR w v l) (hb : Below w.heap.size w w') : RowR w' v l := by
  obtain ⟨p, cap, e, hc⟩ := h
  refine ⟨p, cap, e, fun k hk => ?_⟩
  obtain ⟨b, o, vj, h1, h2, h3, h4⟩ := hc k hk
  exact ⟨b, o, vj, h1, Nat.lt_of_lt_of_le h2 hb.size, (hb.cell (p := ⟨b, o + k, none⟩) h2).trans h3, h4.below hb⟩
theorem RowR.form {w : World} {v : Value} {l : List (List UInt8)} (h : RowR w v l) : ∃ p cap, v = .slice p l.length cap := by
  obtain ⟨p, cap, e, _⟩ := h
  exact ⟨p, cap, e⟩
theorem RowR.nil (w : World) : RowR w (.slice none 0 0) [] := ⟨none, 0, rfl, fun k hk => absurd hk (Nat.not_lt_zero k)⟩
theorem getD_at11 {α : Type} {l : List α} {k : Nat} {d : α} (h : k < l.length) : l.getD k d = l[k] := by rw [List.getD_eq_getElem?_getD, List.getElem?_eq_getElem h]; rfl
/-- Of an own row, whose slices read. -/
theorem rowR_own {w : World} {base : Nat} {v : Value} {xs : List Fx} (h : w.ownsRow base 22 1 v xs.length (xs.map Fx.v)) (hr : ∀ x ∈ xs, Bs w x.v x.r) : RowR w v (xs.map Fx.r) := by
  obtain ⟨p, c, rfl⟩ := own_shape h
  refine ⟨p, c, by rw [List.length_map], fun k hk => ?_⟩
  rw [List.length_map] at hk
  rcases h.2 with ⟨e, h0⟩ | ⟨gn, cap, cur, e, hbb, hh, _⟩
  · omega
  · simp only [Value.slice.injEq] at e
    obtain ⟨rfl, _, rfl⟩ := e
    refine ⟨gn, 0, xs[k].v, rfl, lt_of_block hh, ?_, ?_⟩
    · rw [Nat.zero_add, World.ownsRow.cellAt h k (by omega), List.getElem?_map, List.getElem?_eq_getElem hk]; rfl
    · rw [getD_at11 (by rw [List.length_map]; exact hk), List.getElem_map]
      exact hr _ (List.getElem_mem hk)
theorem idx_r (p : Option Addr) (b o n cap k : Nat) (hp : p = some ⟨b, o, none⟩) (hk : k < n) (W : World) : (Instr.indexAt 31 (.slice p n cap) (.int .i64 (k : Int))).run Tryd.prog W = .ok (.pointer (some ⟨b, o + k, none⟩)) W := by subst hp; go_simp
theorem same_recs {l m : List (List UInt8)} (hl : l.length = m.length) (h : ∀ k, k < l.length → l.getD k [] = m.getD k []) : l = m := by
  apply List.ext_getElem hl
  intro k h1 h2
  have := h k h1
  rwa [getD_at11 h1, getD_at11 h2] at this
set_option maxHeartbeats 4000000 in
set_option maxRecDepth 100000 in
theorem same_any (v1 v2 : Value) (l m : List (List UInt8)) (w : World) (h1 : RowR w v1 l) (h2 : RowR w v2 m) (hl : l.length ≤ maxTk) : Calls Tryd.prog 16 #[v1, v2] w (Gives (.bool (decide (l = m))) w) := by
  obtain ⟨p1, c1, rfl, hc1⟩ := h1
  obtain ⟨p2, c2, rfl, hc2⟩ := h2
  have HC1 := Lib.hid hc1
  have HC2 := Lib.hid hc2
  unfold maxTk at hl
  clear hc1 hc2
  by_cases hlm : l.length = m.length
  · have HLM := Lib.hid hlm
    have HL : Hid (∀ k, k < l.length → k < m.length) := Lib.hid (fun k hk => by omega)
    rw [← hlm]
    obtain ⟨n, hn⟩ : ∃ n, l.length = n := ⟨_, rfl⟩
    have HN := Lib.hid hn
    rw [hn] at hl ⊢
    clear hlm hn
    go_enter Tryd.func16, Tryd.ntmps16
    go_wp2_with fail
    go_loopw [5] (fun i wr => ∃ k : Nat, k ≤ n ∧ i = .int .i64 k ∧ Hid (∀ j, j < k → l.getD j [] = m.getD j []) ∧ Hid (Below w.heap.size w wr)) (fun i _ => n - (intOf i).toNat)
    case atStart => exact ⟨0, Nat.zero_le _, rfl, Lib.hid (fun j hj => absurd hj (Nat.not_lt_zero j)), Lib.hid (Below.refl _ _)⟩
    case round =>
      obtain ⟨k, hk, rfl, HE, HB⟩ := hrel
      by_cases hkn : k < n
      · have hkl : k < l.length := by rw [HN.out]; exact hkn
        obtain ⟨b1, o1, u1, rfl, hb1, e1, q1⟩ := HC1.out k hkl
        obtain ⟨b2, o2, u2, rfl, hb2, e2, q2⟩ := HC2.out k (HL.out k hkl)
        have HD1 := Lib.hid ((HB.out.cell (p := ⟨b1, o1 + k, none⟩) hb1).trans e1)
        have HD2 := Lib.hid ((HB.out.cell (p := ⟨b2, o2 + k, none⟩) hb2).trans e2)
        obtain ⟨pa, ca, rfl⟩ := q1.form
        obtain ⟨pb, cb, rfl⟩ := q2.form
        have i1 := idx_r _ b1 o1 n c1 k rfl hkn
        have i2 := idx_r _ b2 o2 n c2 k rfl hkn
        obtain ⟨x, hx⟩ : ∃ x, l.getD k [] = x := ⟨_, rfl⟩
        obtain ⟨y, hy⟩ : ∃ y, m.getD k [] = y := ⟨_, rfl⟩
        rw [hx] at HD1 q1
        rw [hy] at HD2 q2
        have HX := Lib.hid hx
        have HY := Lib.hid hy
        have v1 := conv_bs ((q1.below HB.out).below (Below.refl _ wr).drew) 9 Tryd.underlying9
        have v2 := conv_bs ((q2.below HB.out).below (Below.refl _ wr).drew) 9 Tryd.underlying9
        have v3 := conv_bs (q1.below HB.out) 9 Tryd.underlying9
        have v4 := conv_bs (q2.below HB.out) 9 Tryd.underlying9
        have d1 := HD1.out
        have d2 := HD2.out
        generalize x.length = nx at *
        generalize y.length = ny at *
        clear hx hy e1 e2 hkl q1 q2
        by_cases hxy : x = y
        · subst hxy
          have HN2 : Hid (∀ j, j < k + 1 → l.getD j [] = m.getD j []) := Lib.hid (fun j hj => by
            by_cases e : j = k
            · rw [e, HX.out, HY.out]
            · exact HE.out j (by omega))
          go_wp2_with fail
          go_region
          have HBn : Hid (Below w.heap.size w wr.drew) := Lib.hid HB.out.drew
          go_wp2_with fail
          go_roundw
          case rel => exact ⟨k + 1, by omega, by go_num, HN2, HBn⟩
          case measure => simp [intOf]; omega
        · have hba : ¬ (⟨x.toArray⟩ : ByteArray) = ⟨y.toArray⟩ := fun e => hxy (by injection e with e; exact congrArg Array.toList e)
          have hbb : (x == y) = false := beq_eq_false_iff_ne.2 hxy
          have HD : Hid (decide (l = m) = false) := Lib.hid (decide_eq_false (fun e => hxy (by rw [← HX.out, ← HY.out, e])))
          go_wp2_with fail
          go_region
          have HBn : Hid (Below w.heap.size w wr.drew) := Lib.hid HB.out.drew
          go_wp2_with fail
          go_ret
          exact ⟨ret_bool (by rw [HD.out]), HBn.out⟩
      · obtain rfl : k = n := by omega
        have HD : Hid (decide (l = m) = true) := Lib.hid (decide_eq_true (same_recs HLM.out (fun j hj => HE.out j (by rw [HN.out] at hj; exact hj))))
        go_wp2_with fail
        go_ret
        exact ⟨ret_bool (by rw [HD.out]), HB.out⟩
  · have HD : Hid (decide (l = m) = false) := Lib.hid (decide_eq_false (fun e => hlm (by rw [e])))
    obtain ⟨n, hn⟩ : ∃ n, l.length = n := ⟨_, rfl⟩
    obtain ⟨n2, hn2⟩ : ∃ n, m.length = n := ⟨_, rfl⟩
    rw [hn, hn2] at hlm
    have hlb : ((n : Int) == (n2 : Int)) = false := by rw [beq_eq_false_iff_ne]; omega
    have hlc : ¬ ((n : Int) = (n2 : Int)) := by omega
    rw [hn, hn2]
    clear hn hn2 hl HC1 HC2
    go_enter Tryd.func16, Tryd.ntmps16
    go_wp2_with fail
    go_ret
    exact ⟨ret_bool (by rw [HD.out]), Below.refl _ _⟩
theorem rsize_any (v : Value) (L : List UInt8) (hl : L.length ≤ maxTk) (w : World) (hB : Bs w v L) : Calls Tryd.prog 12 #[v] w (Quits (.int .i64 (sizeR L : Nat)) w) := by
  obtain ⟨p, cap, rfl⟩ := hB.form
  unfold maxTk at hl
  have hm := mayR_iff L
  rcases put_cases L with h | h | h
  · have e : sizeR L = 0 := by unfold sizeR; rw [if_neg (by rw [hm]; omega)]
    rw [e, h]
    clear hB hl hm h e
    go_enter Tryd.func12, Tryd.ntmps12
    go_wp2_with fail
    go_ret
    exact ⟨rfl, rfl⟩
  · have e : sizeR L = 0 := by unfold sizeR; rw [if_neg (by rw [hm]; omega)]
    rw [e]
    generalize L.length = n at *
    have h1 : ¬ ((n : Int) = 0) := by omega
    have h2 : (2048 : Int) < n := by omega
    have h3 : ¬ (n = 0) := by omega
    clear hB hm e
    go_enter Tryd.func12, Tryd.ntmps12
    go_wp2_with fail
    go_ret
    exact ⟨rfl, rfl⟩
  · have e : sizeR L = L.length + 8 := by unfold sizeR; rw [if_pos h]
    have h4 := hm.1 h
    rw [e]
    generalize L.length = n at *
    have h1 : ¬ ((n : Int) = 0) := by omega
    have h2 : ¬ ((2048 : Int) < n) := by omega
    have h3 : ¬ (n = 0) := by omega
    clear hB hm e h
    go_enter Tryd.func12, Tryd.ntmps12
    go_wp2_with fail
    go_ret
    exact ⟨rfl, rfl⟩
end Go.Proofs.YtnhdnmlclnndoaaDoor.Crc
