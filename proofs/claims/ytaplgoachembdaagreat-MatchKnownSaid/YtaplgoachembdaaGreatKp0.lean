/- The contracts of package pred's MayCons and May. -/
import Derived.Test.YtaplgoachembdaaGreatKo0
set_option linter.unusedSimpArgs false
set_option linter.unusedVariables false
namespace Go.Proofs.YtaplgoachembdaaGreat.Gm
open Go Go.RowKit
attribute [local go_sem ↓] Go.wp_at_zero Go.wp_at_succ
attribute [local go_sem ↓] run_eql_val run_guard_val
section
variable (nm : ByteArray) (op k n : Int) (s : ByteArray) (x : Bool) (sp : Option Addr) (sc : Nat) (l : List Vl) (w : World)
set_option maxHeartbeats 4000000 in
set_option maxRecDepth 20000 in
theorem maycons_prefix (m : Nat) (h1 : ¬ nm.size < 1) (h2 : ¬ 16 < nm.size) : Calls Tryz.prog 43 #[con nm 8 k n s x sp m sc] w (Gives (.bool (mayB k n s x && decide (k = 2) && decide (m = 0))) w) := by
  have d1 : decide ((nm.size : Int) < 1) = false := by simp; omega
  have d2 : decide ((16 : Int) < (nm.size : Int)) = false := by simp; omega
  have HM := Lib.hid (fun W => may_any k n s x W)
  obtain ⟨r, hr⟩ : ∃ r, mayB k n s x = r := ⟨_, rfl⟩
  obtain ⟨d, hd⟩ : ∃ d, decide (m = 0) = d := ⟨_, rfl⟩
  obtain ⟨q, hq⟩ : ∃ q, decide (k = 2) = q := ⟨_, rfl⟩
  have e1 : ((m : Int) == 0) = d := by rw [← hd]; by_cases h : m = 0 <;> simp [h]
  have e2 : (k == 2) = q := by rw [← hq]; by_cases h : k = 2 <;> simp [h]
  rw [hr] at HM ⊢
  rw [hd, hq]
  clear h1 h2 hr hd hq
  cases r <;> cases q
  all_goals
    go_enter Tryz.func43, Tryz.ntmps43
    go_wp2_with fail
    refine (HM.out _).mono ?_; rintro e w1 ⟨rfl, b1⟩
    have q6 : w1.cell? ⟨w.heap.size, 6, none⟩ = some (.slice sp m sc) := by rw [b1.cell (p := ⟨w.heap.size, 6, none⟩) (by simp)]; simp
    have q2 : w1.cell? ⟨w.heap.size, 2, none⟩ = some (.int .i64 k) := by rw [b1.cell (p := ⟨w.heap.size, 2, none⟩) (by simp)]; simp
    have HB1 := Lib.hid (below_new b1)
    clear b1
    go_wp2_with fail
    go_ret
    exact ⟨by simp, HB1.out⟩
set_option maxHeartbeats 4000000 in
set_option maxRecDepth 20000 in
theorem maycons_in (hS : Vs w (.slice sp l.length sc) l) (h1 : ¬ nm.size < 1) (h2 : ¬ 16 < nm.size) : Calls Tryz.prog 43 #[con nm 9 k n s x sp l.length sc] w (Gives (.bool (eqlVal k n s x 0 0 ⟨#[]⟩ false && maySt l)) w) := by
  have d1 : decide ((nm.size : Int) < 1) = false := by simp; omega
  have d2 : decide ((16 : Int) < (nm.size : Int)) = false := by simp; omega
  have HM := Lib.hid (fun W (h : Below w.heap.size w W) => mayset_any _ l W (hS.later h))
  obtain ⟨r, hr⟩ : ∃ r, eqlVal k n s x 0 0 ⟨#[]⟩ false = r := ⟨_, rfl⟩
  obtain ⟨d, hd⟩ : ∃ d, maySt l = d := ⟨_, rfl⟩
  rw [hd] at HM ⊢
  rw [hr]
  clear h1 h2 hd hS
  cases r with
  | false =>
    go_enter Tryz.func43, Tryz.ntmps43
    go_wp2
    go_ret
    exact ⟨rfl, below_one _ _⟩
  | true =>
    go_enter Tryz.func43, Tryz.ntmps43
    go_wp2_with fail
    refine (HM.out _ (below_one _ _)).mono ?_; rintro e w1 ⟨rfl, b1⟩
    have HB1 := Lib.hid (below_new b1)
    clear b1
    go_wp2_with fail
    go_ret
    exact ⟨by simp, HB1.out⟩
set_option maxHeartbeats 4000000 in
set_option maxRecDepth 20000 in
theorem maycons_other (m : Nat) (h1 : ¬ nm.size < 1) (h2 : ¬ 16 < nm.size) (ho : ¬ (1 ≤ op ∧ op ≤ 9)) : Calls Tryz.prog 43 #[con nm op k n s x sp m sc] w (Gives (.bool false) w) := by
  have d1 : decide ((nm.size : Int) < 1) = false := by simp; omega
  have d2 : decide ((16 : Int) < (nm.size : Int)) = false := by simp; omega
  have e1 : (op == 1) = false := by simp; omega
  have e2 : (op == 2) = false := by simp; omega
  have e3 : (op == 3) = false := by simp; omega
  have e4 : (op == 4) = false := by simp; omega
  have e5 : (op == 5) = false := by simp; omega
  have e6 : (op == 6) = false := by simp; omega
  have e7 : (op == 7) = false := by simp; omega
  have e8 : (op == 8) = false := by simp; omega
  have e9 : (op == 9) = false := by simp; omega
  clear h1 h2 ho
  go_enter Tryz.func43, Tryz.ntmps43
  go_wp2
  go_ret
  exact ⟨rfl, below_one _ _⟩
end
theorem maycons_any (c : Cn) (w : World) (hS : Vs w c.sv c.set) : Calls Tryz.prog 43 #[cc c] w (Gives (.bool (mayCn c)) w) := by
  by_cases h1 : c.nm.size < 1
  · rw [show mayCn c = false by simp [mayCn]; omega]
    exact maycons_name _ _ _ _ _ _ _ _ _ _ (.inl h1)
  by_cases h2 : 16 < c.nm.size
  · rw [show mayCn c = false by simp [mayCn]; omega]
    exact maycons_name _ _ _ _ _ _ _ _ _ _ (.inr h2)
  have he : mayCn c = mayOp c.op c.v c.set := by simp only [mayCn, decide_eq_true (by omega : 1 ≤ c.nm.size), decide_eq_true (by omega : c.nm.size ≤ 16), Bool.true_and]
  rw [he]
  obtain ⟨nm, op, ⟨k, n, s, x⟩, sp, sc, l⟩ := c
  simp only at h1 h2 ⊢
  by_cases o1 : op = 1
  · subst o1
    exact maycons_has nm k n s x sp sc w _ h1 h2
  by_cases o9 : op = 9
  · subst o9
    exact maycons_in nm k n s x sp sc l w hS h1 h2
  by_cases o27 : 2 ≤ op ∧ op ≤ 7
  · have h := maycons_ord nm op k n s x sp sc w l.length h1 h2 (by omega)
    rw [show mayOp op ⟨k, n, s, x⟩ l = (mayB k n s x && decide (l.length = 0)) by simp only [mayOp, if_neg o1, if_neg o9, if_pos o27]; rfl]
    exact h
  by_cases o8 : op = 8
  · subst o8
    exact maycons_prefix nm k n s x sp sc w _ h1 h2
  · rw [show mayOp op ⟨k, n, s, x⟩ l = false by simp only [mayOp, if_neg o1, if_neg o9, if_neg o27, if_neg o8]]
    exact maycons_other nm op k n s x sp sc w _ h1 h2 (by omega)

set_option maxHeartbeats 2000000 in
set_option maxRecDepth 20000 in
theorem maypred_any (v : Value) (l : List Cn) (w : World) (hA : Cs w v l) : Calls Tryz.prog 22 #[v] w (Gives (.bool (mayPr l)) w) := by
  obtain ⟨p, cap, rfl⟩ := hA.1.form
  have hla := hA.2.1
  have HA := Lib.hid hA
  clear hA
  by_cases h6 : 6 < l.length
  · have HE : Hid (mayPr l = false) := Lib.hid (by simp [mayPr]; omega)
    have d6 : decide ((6 : Int) < (l.length : Int)) = true := by simp; omega
    clear h6
    go_enter Tryz.func22, Tryz.ntmps22
    go_wp2
    go_ret
    exact ⟨ret_bool HE.out.symm, Below.refl _ _⟩
  have d6 : decide ((6 : Int) < (l.length : Int)) = false := by simp; omega
  have HE : Hid (mayPr l = l.all mayCn) := Lib.hid (by simp only [mayPr, decide_eq_true (by omega : l.length ≤ 6), Bool.true_and])
  clear h6
  go_enter Tryz.func22, Tryz.ntmps22
  go_wp2
  go_loopw [10] (fun i wr => ∃ k : Nat, k ≤ l.length ∧ i = .int .i64 k ∧ (l.drop k).all mayCn = l.all mayCn ∧ Below w.heap.size w wr) (fun i _ => l.length - (intOf i).toNat)
  case atStart => exact ⟨0, Nat.zero_le _, rfl, rfl, Below.refl _ _⟩
  case round =>
    obtain ⟨k, hk, rfl, hall, hbel⟩ := hrel
    have HAl := Lib.hid hall
    have HBel := Lib.hid hbel
    clear hall hbel
    by_cases hkl : k < l.length
    · obtain ⟨p1, cap1, b, o, hv, hp, hb, h4⟩ := seven_at HA.out.1 hkl
      simp only [Value.slice.injEq] at hv
      obtain ⟨rfl, _, rfl⟩ := hv
      have hidx := idx_c3 p b o l.length cap k hp hkl
      obtain ⟨c0, c1, c2, c3, c4, c5, c6⟩ := h4.later HBel.out
      have HS := Lib.hid (all_step (f := mayCn) hkl)
      have HSt := Lib.hid ((HA.out.at hkl).later (HBel.out.alloc HBel.out.size (.cells #[.string (l.getD k default).nm, .int .i64 (l.getD k default).op, .int .i64 (l.getD k default).v.k, .int .i64 (l.getD k default).v.n, .string (l.getD k default).v.s, .bool (l.getD k default).v.b, .slice (l.getD k default).sp (l.getD k default).set.length (l.getD k default).sc] 45)))
      obtain ⟨c, hx⟩ : ∃ c, l.getD k default = c := ⟨_, rfl⟩
      rw [hx] at c0 c1 c2 c3 c4 c5 c6 HS HSt
      have HM := Lib.hid (maycons_any c _ HSt.out)
      clear hx hp h4 hb HSt
      cases hmx : mayCn c with
      | false =>
        have HF : Hid (l.all mayCn = false) := Lib.hid (by rw [← HAl.out, HS.out, hmx]; rfl)
        rw [hmx] at HM
        clear hmx
        go_wp2_with fail
        refine HM.out.mono ?_; rintro e w1 ⟨rfl, b1⟩
        have HB1 := Lib.hid (then_ (HBel.out.alloc HBel.out.size _) b1)
        clear b1
        go_wp2_with fail
        go_ret
        exact ⟨ret_bool (by rw [HE.out, HF.out]), HB1.out⟩
      | true =>
        have HF : Hid ((l.drop (k + 1)).all mayCn = l.all mayCn) := Lib.hid (by rw [← HAl.out, HS.out, hmx]; rfl)
        rw [hmx] at HM
        clear hmx
        go_wp2_with fail
        refine HM.out.mono ?_; rintro e w1 ⟨rfl, b1⟩
        have HB1 := Lib.hid (then_ (HBel.out.alloc HBel.out.size _) b1)
        clear b1
        go_wp2_with fail
        go_roundw
        case rel => exact ⟨k + 1, by omega, by simp, HF.out, HB1.out⟩
        case measure => simp [intOf]; omega
    · have hke : k = l.length := by omega
      subst hke
      have HF : Hid (l.all mayCn = true) := Lib.hid (by rw [← HAl.out, List.drop_length]; rfl)
      go_wp2
      go_ret
      exact ⟨ret_bool (by rw [HE.out, HF.out]), HBel.out⟩
end Go.Proofs.YtaplgoachembdaaGreat.Gm
