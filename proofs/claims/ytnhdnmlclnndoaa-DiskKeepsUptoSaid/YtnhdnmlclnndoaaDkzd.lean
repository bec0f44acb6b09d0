/- Layer 10: the document's SameNames. -/
import Derived.Test.YtnhdnmlclnndoaaDkx
import Derived.BigQuiet
set_option linter.unusedSimpArgs false
set_option linter.unusedVariables false
namespace Go.Proofs.Ytnhdnmlclnndoaa.Gm
open Go Go.RowKit Go.Maps
attribute [local go_sem ↓] Go.wp_at_zero Go.wp_at_succ
/-- A row of names in memory. -/
def RowS (w : World) (v : Value) (l : List Nm) : Prop := ∃ p cap, v = .slice p l.length cap ∧ ∀ k, k < l.length → ∃ b o, p = some ⟨b, o, none⟩ ∧ b < w.heap.size ∧ w.cell? ⟨b, o + k, none⟩ = some (encStr (l.getD k []))
theorem RowS.later {w w' : World} {v : Value} {l : List Nm} (h : RowS w v l) (hb : Below w.heap.size w w') : RowS w' v l := by
  obtain ⟨p, cap, e, hc⟩ := h
  refine ⟨p, cap, e, fun k hk => ?_⟩
  obtain ⟨b, o, h1, h2, h3⟩ := hc k hk
  exact ⟨b, o, h1, Nat.lt_of_lt_of_le h2 hb.size, (hb.cell (p := ⟨b, o + k, none⟩) h2).trans h3⟩
theorem own_rowS {w : World} {B : Nat} {v : Value} {l : List Nm} (h : OwnS w B v l) : RowS w v l := by
  obtain ⟨p, c, rfl⟩ := own_s h
  refine ⟨p, c, rfl, fun k hk => ?_⟩
  rcases h.2 with ⟨e, h0⟩ | ⟨gn, cap, cur, e, hbb, hh, _⟩
  · omega
  · simp only [Value.slice.injEq] at e
    obtain ⟨rfl, _, rfl⟩ := e
    refine ⟨gn, 0, rfl, lt_of_block hh, ?_⟩
    rw [Nat.zero_add, World.ownsRow.cellAt h k (by omega), List.getElem?_map, getD_at hk, List.getElem?_eq_getElem hk]; rfl
theorem idx_so (p : Option Addr) (b o n cap k : Nat) (hp : p = some ⟨b, o, none⟩) (hk : k < n) (W : World) : (Instr.indexAt 47 (.slice p n cap) (.int .i64 (k : Int))).run Try.prog W = .ok (.pointer (some ⟨b, o + k, none⟩)) W := by subst hp; go_simp
theorem same_lists {l m : List Nm} (hl : l.length = m.length) (h : ∀ k, k < l.length → l.getD k [] = m.getD k []) : l = m := by
  apply List.ext_getElem hl
  intro k h1 h2
  have := h k h1
  rwa [getD_at h1, getD_at h2] at this
set_option maxHeartbeats 4000000 in
set_option maxRecDepth 100000 in
theorem samenames_any (v1 v2 : Value) (l m : List Nm) (w : World) (h1 : RowS w v1 l) (h2 : RowS w v2 m) (hl : l.length ≤ 1000000) (hm : m.length ≤ 1000000) : Calls Try.prog 21 #[v1, v2] w (Gives (.bool (decide (l = m))) w) := by
  obtain ⟨p1, c1, rfl, hc1⟩ := h1
  obtain ⟨p2, c2, rfl, hc2⟩ := h2
  have HC1 := Lib.hid hc1
  have HC2 := Lib.hid hc2
  clear hc1 hc2
  by_cases hlm : l.length = m.length
  · have HLM := Lib.hid hlm
    have HL : Hid (∀ k, k < l.length → k < m.length) := Lib.hid (fun k hk => by omega)
    rw [← hlm]
    obtain ⟨n, hn⟩ : ∃ n, l.length = n := ⟨_, rfl⟩
    have HN := Lib.hid hn
    rw [hn] at hl ⊢
    clear hlm hn hm
    go_enter Try.func21, Try.ntmps21
    go_wp2_with fail
    go_loopw [5] (fun i wr => ∃ k : Nat, k ≤ n ∧ i = .int .i64 k ∧ Hid (∀ j, j < k → l.getD j [] = m.getD j []) ∧ Hid (Below w.heap.size w wr)) (fun i _ => n - (intOf i).toNat)
    case atStart => exact ⟨0, Nat.zero_le _, rfl, Lib.hid (fun j hj => absurd hj (Nat.not_lt_zero j)), Lib.hid (Below.refl _ _)⟩
    case round =>
      obtain ⟨k, hk, rfl, HE, HB⟩ := hrel
      by_cases hkn : k < n
      · have hkl : k < l.length := by rw [HN.out]; exact hkn
        obtain ⟨b1, o1, rfl, hb1, e1⟩ := HC1.out k hkl
        obtain ⟨b2, o2, rfl, hb2, e2⟩ := HC2.out k (HL.out k hkl)
        have d1 := cell_later HB.out e1
        have d2 := cell_later HB.out e2
        have i1 := idx_so _ b1 o1 n c1 k rfl hkn
        have i2 := idx_so _ b2 o2 n c2 k rfl hkn
        obtain ⟨x, hx⟩ : ∃ x, l.getD k [] = x := ⟨_, rfl⟩
        obtain ⟨y, hy⟩ : ∃ y, m.getD k [] = y := ⟨_, rfl⟩
        rw [hx] at d1
        rw [hy] at d2
        have HX := Lib.hid hx
        have HY := Lib.hid hy
        have HKL := Lib.hid hkl
        unfold encStr at d1 d2
        clear hx hy e1 e2 hkl
        by_cases hxy : x = y
        · subst hxy
          have HN2 : Hid (∀ j, j < k + 1 → l.getD j [] = m.getD j []) := Lib.hid (fun j hj => by
            by_cases e : j = k
            · rw [e, HX.out, HY.out]
            · exact HE.out j (by omega))
          go_wp2_with fail
          go_region
          have HBn : Hid (Below w.heap.size w wr.drew) := Lib.hid HB.out.drew
          go_wp2_with fail
          go_roundw
          case rel => exact ⟨k + 1, by omega, by go_num, HN2, HBn⟩
          case measure => simp [intOf]; omega
        · have hba : ¬ (⟨x.toArray⟩ : ByteArray) = ⟨y.toArray⟩ := fun e => hxy (by injection e with e; exact congrArg Array.toList e)
          have hbb : (x == y) = false := beq_eq_false_iff_ne.2 hxy
          have HD : Hid (decide (l = m) = false) := Lib.hid (decide_eq_false (fun e => hxy (by rw [← HX.out, ← HY.out, e])))
          go_wp2_with fail
          go_region
          have HBn : Hid (Below w.heap.size w wr.drew) := Lib.hid HB.out.drew
          go_wp2_with fail
          go_ret
          exact ⟨ret_bool (by rw [HD.out]), HBn.out⟩
      · obtain rfl : k = n := by omega
        have HD : Hid (decide (l = m) = true) := Lib.hid (decide_eq_true (same_lists HLM.out (fun j hj => HE.out j (by rw [HN.out] at hj; exact hj))))
        go_wp2_with fail
        go_ret
        exact ⟨ret_bool (by rw [HD.out]), HB.out⟩
  · have HD : Hid (decide (l = m) = false) := Lib.hid (decide_eq_false (fun e => hlm (by rw [e])))
    obtain ⟨n, hn⟩ : ∃ n, l.length = n := ⟨_, rfl⟩
    obtain ⟨n2, hn2⟩ : ∃ n, m.length = n := ⟨_, rfl⟩
    rw [hn, hn2] at hlm
    have hlb : ((n : Int) == (n2 : Int)) = false := by rw [beq_eq_false_iff_ne]; omega
    have hlc : ¬ ((n : Int) = (n2 : Int)) := by omega
    rw [hn, hn2]
    clear hn hn2 hl hm
    go_enter Try.func21, Try.ntmps21
    go_wp2_with fail
    go_ret
    exact ⟨ret_bool (by rw [HD.out]), Below.refl _ _⟩
end Go.Proofs.Ytnhdnmlclnndoaa.Gm
