/- The contracts of cmp.Or and of package pred's compareValues. -/
import Derived.Test.YtlnjmcodgdebmaaGreatKo0
import Derived.Test.YtlnjmcodgdebmaaGreatKw0
import Derived.Test.YtlnjmcodgdebmaaGreatKv
import Derived.Test.YtlnjmcodgdebmaaGreatKa
/- The contracts of package pred's MayCons and May. -/
set_option linter.unusedSimpArgs false
set_option linter.unusedVariables false
namespace Go.Proofs.YtlnjmcodgdebmaaGreat.Gm
open Go Go.RowKit
attribute [local go_sem ↓] Go.wp_at_zero Go.wp_at_succ
attribute [local go_sem ↓] run_eql_val run_guard_val
section
variable (nm : ByteArray) (op k n : Int) (s : ByteArray) (x : Bool) (sp : Option Addr) (sc : Nat) (l : List Vl) (w : World)
set_option maxHeartbeats 4000000 in
set_option maxRecDepth 20000 in
theorem maycons_prefix (m : Nat) (h1 : ¬ nm.size < 1) (h2 : ¬ 16 < nm.size) : Calls Tryz.prog 42 #[con nm 8 k n s x sp m sc] w (Gives (.bool (mayB k n s x && decide (k = 2) && decide (m = 0))) w) := by
  have d1 : decide ((nm.size : Int) < 1) = false := by simp; omega
  have d2 : decide ((16 : Int) < (nm.size : Int)) = false := by simp; omega
  have HM := Lib.hid (fun W => may_any k n s x W)
  obtain ⟨r, hr⟩ : ∃ r, mayB k n s x = r := ⟨_, rfl⟩
  obtain ⟨d, hd⟩ : ∃ d, decide (m = 0) = d := ⟨_, rfl⟩
  obtain ⟨q, hq⟩ : ∃ q, decide (k = 2) = q := ⟨_, rfl⟩
  have e1 : ((m : Int) == 0) = d := by rw [← hd]; by_cases h : m = 0 <;> simp [h]
  have e2 : (k == 2) = q := by rw [← hq]; by_cases h : k = 2 <;> simp [h]
  rw [hr] at HM ⊢
  rw [hd, hq]
  clear h1 h2 hr hd hq
  cases r <;> cases q
  all_goals
    go_enter Tryz.func42, Tryz.ntmps42
    go_wp2_with fail
    refine (HM.out _).mono ?_; rintro e w1 ⟨rfl, b1⟩
    have q6 : w1.cell? ⟨w.heap.size, 6, none⟩ = some (.slice sp m sc) := by rw [b1.cell (p := ⟨w.heap.size, 6, none⟩) (by simp)]; simp
    have q2 : w1.cell? ⟨w.heap.size, 2, none⟩ = some (.int .i64 k) := by rw [b1.cell (p := ⟨w.heap.size, 2, none⟩) (by simp)]; simp
    have HB1 := Lib.hid (below_new b1)
    clear b1
    go_wp2_with fail
    go_ret
    exact ⟨by simp, HB1.out⟩
set_option maxHeartbeats 4000000 in
set_option maxRecDepth 20000 in
theorem maycons_in (hS : Vs w (.slice sp l.length sc) l) (h1 : ¬ nm.size < 1) (h2 : ¬ 16 < nm.size) : Calls Tryz.prog 42 #[con nm 9 k n s x sp l.length sc] w (Gives (.bool (eqlVal k n s x 0 0 ⟨#[]⟩ false && maySt l)) w) := by
  have d1 : decide ((nm.size : Int) < 1) = false := by simp; omega
  have d2 : decide ((16 : Int) < (nm.size : Int)) = false := by simp; omega
  have HM := Lib.hid (fun W (h : Below w.heap.size w W) => mayset_any _ l W (hS.later h))
  obtain ⟨r, hr⟩ : ∃ r, eqlVal k n s x 0 0 ⟨#[]⟩ false = r := ⟨_, rfl⟩
  obtain ⟨d, hd⟩ : ∃ d, maySt l = d := ⟨_, rfl⟩
  rw [hd] at HM ⊢
  rw [hr]
  clear h1 h2 hd hS
  cases r with
  | false =>
    go_enter Tryz.func42, Tryz.ntmps42
    go_wp2
    go_ret
    exact ⟨rfl, below_one _ _⟩
  | true =>
    go_enter Tryz.func42, Tryz.ntmps42
    go_wp2_with fail
    refine (HM.out _ (below_one _ _)).mono ?_; rintro e w1 ⟨rfl, b1⟩
    have HB1 := Lib.hid (below_new b1)
    clear b1
    go_wp2_with fail
    go_ret
    exact ⟨by simp, HB1.out⟩
set_option maxHeartbeats 4000000 in
set_option maxRecDepth 20000 in
theorem maycons_other (m : Nat) (h1 : ¬ nm.size < 1) (h2 : ¬ 16 < nm.size) (ho : ¬ (1 ≤ op ∧ op ≤ 9)) : Calls Tryz.prog 42 #[con nm op k n s x sp m sc] w (Gives (.bool false) w) := by
  have d1 : decide ((nm.size : Int) < 1) = false := by simp; omega
  have d2 : decide ((16 : Int) < (nm.size : Int)) = false := by simp; omega
  have e1 : (op == 1) = false := by simp; omega
  have e2 : (op == 2) = false := by simp; omega
  have e3 : (op == 3) = false := by simp; omega
  have e4 : (op == 4) = false := by simp; omega
  have e5 : (op == 5) = false := by simp; omega
  have e6 : (op == 6) = false := by simp; omega
  have e7 : (op == 7) = false := by simp; omega
  have e8 : (op == 8) = false := by simp; omega
  have e9 : (op == 9) = false := by simp; omega
  clear h1 h2 ho
  go_enter Tryz.func42, Tryz.ntmps42
  go_wp2
  go_ret
  exact ⟨rfl, below_one _ _⟩
end
theorem maycons_any (c : Cn) (w : World) (hS : Vs w c.sv c.set) : Calls Tryz.prog 42 #[cc c] w (Gives (.bool (mayCn c)) w) := by
  by_cases h1 : c.nm.size < 1
  · rw [show mayCn c = false by simp [mayCn]; omega]
    exact maycons_name _ _ _ _ _ _ _ _ _ _ (.inl h1)
  by_cases h2 : 16 < c.nm.size
  · rw [show mayCn c = false by simp [mayCn]; omega]
    exact maycons_name _ _ _ _ _ _ _ _ _ _ (.inr h2)
  have he : mayCn c = mayOp c.op c.v c.set := by simp only [mayCn, decide_eq_true (by omega : 1 ≤ c.nm.size), decide_eq_true (by omega : c.nm.size ≤ 16), Bool.true_and]
  rw [he]
  obtain ⟨nm, op, ⟨k, n, s, x⟩, sp, sc, l⟩ := c
  simp only at h1 h2 ⊢
  by_cases o1 : op = 1
  · subst o1
    exact maycons_has nm k n s x sp sc w _ h1 h2
  by_cases o9 : op = 9
  · subst o9
    exact maycons_in nm k n s x sp sc l w hS h1 h2
  by_cases o27 : 2 ≤ op ∧ op ≤ 7
  · have h := maycons_ord nm op k n s x sp sc w l.length h1 h2 (by omega)
    rw [show mayOp op ⟨k, n, s, x⟩ l = (mayB k n s x && decide (l.length = 0)) by simp only [mayOp, if_neg o1, if_neg o9, if_pos o27]; rfl]
    exact h
  by_cases o8 : op = 8
  · subst o8
    exact maycons_prefix nm k n s x sp sc w _ h1 h2
  · rw [show mayOp op ⟨k, n, s, x⟩ l = false by simp only [mayOp, if_neg o1, if_neg o9, if_neg o27, if_neg o8]]
    exact maycons_other nm op k n s x sp sc w _ h1 h2 (by omega)

set_option maxHeartbeats 2000000 in
set_option maxRecDepth 20000 in
theorem maypred_any (v : Value) (l : List Cn) (w : World) (hA : Cs w v l) : Calls Tryz.prog 21 #[v] w (Gives (.bool (mayPr l)) w) := by
  obtain ⟨p, cap, rfl⟩ := hA.1.form
  have hla := hA.2.1
  have HA := Lib.hid hA
  clear hA
  by_cases h6 : 6 < l.length
  · have HE : Hid (mayPr l = false) := Lib.hid (by simp [mayPr]; omega)
    have d6 : decide ((6 : Int) < (l.length : Int)) = true := by simp; omega
    clear h6
    go_enter Tryz.func21, Tryz.ntmps21
    go_wp2
    go_ret
    exact ⟨ret_bool HE.out.symm, Below.refl _ _⟩
  have d6 : decide ((6 : Int) < (l.length : Int)) = false := by simp; omega
  have HE : Hid (mayPr l = l.all mayCn) := Lib.hid (by simp only [mayPr, decide_eq_true (by omega : l.length ≤ 6), Bool.true_and])
  clear h6
  go_enter Tryz.func21, Tryz.ntmps21
  go_wp2
  go_loopw [10] (fun i wr => ∃ k : Nat, k ≤ l.length ∧ i = .int .i64 k ∧ (l.drop k).all mayCn = l.all mayCn ∧ Below w.heap.size w wr) (fun i _ => l.length - (intOf i).toNat)
  case atStart => exact ⟨0, Nat.zero_le _, rfl, rfl, Below.refl _ _⟩
  case round =>
    obtain ⟨k, hk, rfl, hall, hbel⟩ := hrel
    have HAl := Lib.hid hall
    have HBel := Lib.hid hbel
    clear hall hbel
    by_cases hkl : k < l.length
    · obtain ⟨p1, cap1, b, o, hv, hp, hb, h4⟩ := seven_at HA.out.1 hkl
      simp only [Value.slice.injEq] at hv
      obtain ⟨rfl, _, rfl⟩ := hv
      have hidx := idx_c3 p b o l.length cap k hp hkl
      obtain ⟨c0, c1, c2, c3, c4, c5, c6⟩ := h4.later HBel.out
      have HS := Lib.hid (all_step (f := mayCn) hkl)
      have HSt := Lib.hid ((HA.out.at hkl).later (HBel.out.alloc HBel.out.size (.cells #[.string (l.getD k default).nm, .int .i64 (l.getD k default).op, .int .i64 (l.getD k default).v.k, .int .i64 (l.getD k default).v.n, .string (l.getD k default).v.s, .bool (l.getD k default).v.b, .slice (l.getD k default).sp (l.getD k default).set.length (l.getD k default).sc] 45)))
      obtain ⟨c, hx⟩ : ∃ c, l.getD k default = c := ⟨_, rfl⟩
      rw [hx] at c0 c1 c2 c3 c4 c5 c6 HS HSt
      have HM := Lib.hid (maycons_any c _ HSt.out)
      clear hx hp h4 hb HSt
      cases hmx : mayCn c with
      | false =>
        have HF : Hid (l.all mayCn = false) := Lib.hid (by rw [← HAl.out, HS.out, hmx]; rfl)
        rw [hmx] at HM
        clear hmx
        go_wp2_with fail
        refine HM.out.mono ?_; rintro e w1 ⟨rfl, b1⟩
        have HB1 := Lib.hid (then_ (HBel.out.alloc HBel.out.size _) b1)
        clear b1
        go_wp2_with fail
        go_ret
        exact ⟨ret_bool (by rw [HE.out, HF.out]), HB1.out⟩
      | true =>
        have HF : Hid ((l.drop (k + 1)).all mayCn = l.all mayCn) := Lib.hid (by rw [← HAl.out, HS.out, hmx]; rfl)
        rw [hmx] at HM
        clear hmx
        go_wp2_with fail
        refine HM.out.mono ?_; rintro e w1 ⟨rfl, b1⟩
        have HB1 := Lib.hid (then_ (HBel.out.alloc HBel.out.size _) b1)
        clear b1
        go_wp2_with fail
        go_roundw
        case rel => exact ⟨k + 1, by omega, by simp, HF.out, HB1.out⟩
        case measure => simp [intOf]; omega
    · have hke : k = l.length := by omega
      subst hke
      have HF : Hid (l.all mayCn = true) := Lib.hid (by rw [← HAl.out, List.drop_length]; rfl)
      go_wp2
      go_ret
      exact ⟨ret_bool (by rw [HE.out, HF.out]), HBel.out⟩
end Go.Proofs.YtlnjmcodgdebmaaGreat.Gm
/- The place of element i, in the two slice types of package pred's own. -/
/- As Kp0, beside the orders of rows. -/
/- As Ko0, beside the orders of rows. -/
/- Rows in memory, and their orders. -/
set_option linter.unusedSimpArgs false
set_option linter.unusedVariables false
namespace Go.Proofs.YtlnjmcodgdebmaaGreat.Gm
open Go Go.RowKit

theorem idx_v2 (p : Option Addr) (b o n cap k : Nat) (hp : p = some ⟨b, o, none⟩) (hk : k < n) (W : World) : (Instr.indexAt 113 (.slice p n cap) (.int .i64 (k : Int))).run Tryz.prog W = .ok (.pointer (some ⟨b, o + k * 4, none⟩)) W := by subst hp; go_simp
theorem idx_c2 (p : Option Addr) (b o n cap k : Nat) (hp : p = some ⟨b, o, none⟩) (hk : k < n) (W : World) : (Instr.indexAt 95 (.slice p n cap) (.int .i64 (k : Int))).run Tryz.prog W = .ok (.pointer (some ⟨b, o + k * 7, none⟩)) W := by subst hp; go_simp
end Go.Proofs.YtlnjmcodgdebmaaGreat.Gm
set_option linter.unusedSimpArgs false
set_option linter.unusedVariables false
namespace Go.Proofs.YtlnjmcodgdebmaaGreat.Gm
open Go Go.RowKit
attribute [local go_sem ↓] Go.wp_at_zero Go.wp_at_succ

theorem idx_int (p : Option Addr) (b o n cap k : Nat) (hp : p = some ⟨b, o, none⟩) (hk : k < n) (W : World) : (Instr.indexAt 49 (.slice p n cap) (.int .i64 (k : Int))).run Tryz.prog W = .ok (.pointer (some ⟨b, o + k, none⟩)) W := by subst hp; go_simp
theorem or_step {l : List Int} {k : Nat} (hk : k < l.length) : orL (l.drop k) = if l.getD k 0 = 0 then orL (l.drop (k + 1)) else l.getD k 0 := by
  rw [List.drop_eq_getElem_cons hk, orL, List.getD_eq_getElem?_getD, List.getElem?_eq_getElem hk]
  rfl
set_option maxHeartbeats 2000000 in
set_option maxRecDepth 20000 in
/-- cmp.Or of a row of numbers in memory: the first that is not 0. -/
theorem cor_any (g o cap : Nat) (l : List Int) (w : World) (hlen : l.length ≤ 4611686018427387904) (hc : ∀ i, i < l.length → w.cell? ⟨g, o + i, none⟩ = some (.int .i64 (l.getD i 0))) :
    Calls Tryz.prog 90 #[.slice (some ⟨g, o, none⟩) l.length cap] w (Quits (.int .i64 (orL l)) w) := by
  have HC := Lib.hid hc
  clear hc
  go_enter Tryz.func90, Tryz.ntmps90
  go_wp2
  go_loopw [8] (fun i wr => ∃ k : Nat, k ≤ l.length ∧ i = .int .i64 k ∧ orL (l.drop k) = orL l ∧ wr = w) (fun i _ => l.length - (intOf i).toNat)
  case atStart => exact ⟨0, Nat.zero_le _, rfl, rfl, rfl⟩
  case round =>
    obtain ⟨k, hk, rfl, hor, rfl⟩ := hrel
    have HO := Lib.hid hor
    clear hor
    by_cases hkl : k < l.length
    · have hidx := idx_int (some ⟨g, o, none⟩) g o l.length cap k rfl hkl
      have hcell := HC.out k hkl
      have HS := Lib.hid (or_step hkl)
      obtain ⟨x, hx⟩ : ∃ x, l.getD k 0 = x := ⟨_, rfl⟩
      rw [hx] at hcell HS
      clear hx
      by_cases hx0 : x = 0
      · subst hx0
        have HE : Hid (orL (l.drop (k + 1)) = orL l) := Lib.hid (by rw [← HO.out, HS.out, if_pos rfl])
        go_wp2
        go_roundw
        case rel => exact ⟨k + 1, by omega, by simp, HE.out, trivial⟩
        case measure => simp [intOf]; omega
      · have HE : Hid (orL l = x) := Lib.hid (by rw [← HO.out, HS.out, if_neg hx0])
        have e1 : (x != 0) = true := by simpa using hx0
        clear hx0
        go_wp2
        go_ret
        exact ⟨ret_int HE.out.symm, rfl⟩
    · have hke : k = l.length := by omega
      subst hke
      have HE : Hid (orL l = 0) := Lib.hid (by rw [← HO.out, List.drop_length]; rfl)
      go_wp2
      go_ret
      exact ⟨ret_int HE.out.symm, rfl⟩
theorem or4_any (g a b c d) (w : World) (h0 : w.cell? ⟨g, 0, none⟩ = some (.int .i64 a)) (h1 : w.cell? ⟨g, 1, none⟩ = some (.int .i64 b)) (h2 : w.cell? ⟨g, 2, none⟩ = some (.int .i64 c)) (h3 : w.cell? ⟨g, 3, none⟩ = some (.int .i64 d)) :
    Calls Tryz.prog 90 #[.slice (some ⟨g, 0, none⟩) 4 4] w (Quits (.int .i64 (orL [a, b, c, d])) w) := by
  refine cor_any g 0 4 [a, b, c, d] w (by simp) (fun i hi => ?_)
  match i, hi with
  | 0, _ => exact h0
  | 1, _ => exact h1
  | 2, _ => exact h2
  | 3, _ => exact h3

set_option maxHeartbeats 8000000 in
set_option maxRecDepth 100000 in
theorem cmpvals_raw (k n : Int) (s : ByteArray) (x : Bool) (k' n' : Int) (s' : ByteArray) (x' : Bool) (w : World) : Calls Tryz.prog 93 #[val k n s x, val k' n' s' x'] w (Gives (.int .i64 (orL [cmpV k n s x k' n' s' x', cmpI n n', Lib.compareBytes s.data.toList s'.data.toList, cmpB x x'])) w) := by
  have HC := Lib.hid (fun W => compare_any k n s x k' n' s' x' W)
  have HB := Lib.hid (fun W => compare_any 3 0 ⟨#[]⟩ x 3 0 ⟨#[]⟩ x' W)
  have hb3 : cmpV 3 0 ⟨#[]⟩ x 3 0 ⟨#[]⟩ x' = cmpB x x' := by simp [cmpV]
  rw [hb3] at HB
  clear hb3
  have HI := Lib.hid (fun W => cmpInt64_any n n' W)
  have HS := Lib.hid (fun W => cmpStr_any s s' W)
  generalize cmpV k n s x k' n' s' x' = r1 at HC ⊢
  generalize cmpI n n' = r2 at HI ⊢
  generalize Lib.compareBytes s.data.toList s'.data.toList = r3 at HS ⊢
  generalize cmpB x x' = r4 at HB ⊢
  obtain ⟨R, hR⟩ : ∃ R, orL [r1, r2, r3, r4] = R := ⟨_, rfl⟩
  have HO := Lib.hid (fun g W h0 h1 h2 h3 => or4_any g r1 r2 r3 r4 W h0 h1 h2 h3)
  rw [hR] at HO ⊢
  clear hR
  go_enter Tryz.func93, Tryz.ntmps93
  go_wp2_with fail
  go_region_held3 (fun w' => w'.cell? ⟨w.heap.size, 0, none⟩ = some (.int .i64 k) ∧ w'.cell? ⟨w.heap.size, 1, none⟩ = some (.int .i64 n) ∧ w'.cell? ⟨w.heap.size, 2, none⟩ = some (.string s) ∧ w'.cell? ⟨w.heap.size, 3, none⟩ = some (.bool x) ∧
      w'.cell? ⟨w.heap.size + 1, 0, none⟩ = some (.int .i64 k') ∧ w'.cell? ⟨w.heap.size + 1, 1, none⟩ = some (.int .i64 n') ∧ w'.cell? ⟨w.heap.size + 1, 2, none⟩ = some (.string s') ∧ w'.cell? ⟨w.heap.size + 1, 3, none⟩ = some (.bool x'))
    (first | go_keep | (repeat' apply And.intro) <;> (refine cell_later (by assumption) ?_; first | assumption | go_keep))
    (first | (go_at_call 99; first | ((with_reducible refine (truth_any x _).mono ?_); rintro e w6 ⟨rfl, b6⟩) | ((with_reducible refine (truth_any x' _).mono ?_); rintro e w7 ⟨rfl, b7⟩)) | (go_at_call 119; (with_reducible refine (HI.out _).mono ?_); rintro e w8 ⟨rfl, b8⟩) | (go_at_call 91; (with_reducible refine (HS.out _).mono ?_); rintro e w9 ⟨rfl, b9⟩) | (go_at_call 106; first | ((with_reducible refine (HC.out _).mono ?_); rintro e w10 ⟨rfl, b10⟩) | ((with_reducible refine (HB.out _).mono ?_); rintro e w11 ⟨rfl, b11⟩)) | (go_at_call 90; (with_reducible refine (HO.out _ _ (by simp) (by simp) (by simp) (by simp)).mono ?_); rintro e w12 ⟨rfl, rfl⟩))
  go_wp2
  go_ret
  have B := then_ (then_ (then_ (then_ (then_ (then_ (((Below.refl _ w).alloc (Nat.le_refl _) _).alloc (by simp) _).drew b10) b8) b9) b6) b7) b11
  exact ⟨rfl, B.alloc B.size _⟩
/-- The contract of compareValues: the order of values, in all that they have. -/
theorem cmpvals_any (a b : Vl) (w : World) : Calls Tryz.prog 93 #[vv a, vv b] w (Gives (.int .i64 (cmpW a b)) w) := cmpvals_raw a.k a.n a.s a.b b.k b.n b.s b.b w
end Go.Proofs.YtlnjmcodgdebmaaGreat.Gm
