/- The contracts of the document's MayCons and May of predicates. -/
import Derived.Test.YtlnjmcodgdebmaaGreatRMa
set_option linter.unusedSimpArgs false
set_option linter.unusedVariables false
namespace Go.Proofs.YtlnjmcodgdebmaaGreat.Gm
open Go Go.RowKit
attribute [local go_sem ↓] Go.wp_at_zero Go.wp_at_succ

section
variable (nm : ByteArray) (op : Int) (v : Vl) (sp : Option Addr) (m sc : Nat) (w : World)
abbrev celN (nm : ByteArray) (op : Int) (v : Vl) (sp : Option Addr) (m sc : Nat) : Array Value := #[.string nm, .int .i64 op, .int .i64 v.k, .int .i64 v.n, .string v.s, .bool v.b, .slice sp m sc]
/-- A box of a constraint, new. -/
def Box1 (w w1 : World) (cs : Array Value) : Prop := Blk w1 w.heap.size 45 cs ∧ Below w.heap.size w w1
theorem box1 (w : World) (cs : Array Value) : Box1 w (w.alloc (.cells cs 45)) cs := ⟨Blk.new _ _ _, below_one _ _⟩
theorem Box1.later {w w1 w2 : World} {cs : Array Value} (h : Box1 w w1 cs) (hb : Below w1.heap.size w1 w2) : Box1 w w2 cs := ⟨h.1.later hb, then_ h.2 hb⟩
set_option maxHeartbeats 4000000 in
set_option maxRecDepth 100000 in
theorem rmc_name (h : nm.size < 1 ∨ 16 < nm.size) : Calls Tryz.prog 64 #[.agg (celN nm op v sp m sc)] w (Gives (.bool false) w) := by
  rcases h with h | h
  · have d1 : ((nm.size : Int) == 0) = true := by rw [beq_iff_eq]; omega
    clear h
    go_enter Tryz.func64, Tryz.ntmps64
    go_wp2
    go_ret
    exact ⟨rfl, below_one _ _⟩
  · have d1 : ((nm.size : Int) == 0) = false := by rw [beq_eq_false_iff_ne]; omega
    have d2 : decide ((16 : Int) < (nm.size : Int)) = true := by simp; omega
    clear h
    go_enter Tryz.func64, Tryz.ntmps64
    go_wp2
    go_ret
    exact ⟨rfl, below_one _ _⟩
set_option maxHeartbeats 4000000 in
set_option maxRecDepth 100000 in
theorem rmc_has (h1 : ¬ nm.size < 1) (h2 : ¬ 16 < nm.size) : Calls Tryz.prog 64 #[.agg (celN nm 1 v sp m sc)] w (Gives (.bool (bareB v && decide (m = 0))) w) := by
  have d1 : ((nm.size : Int) == 0) = false := by rw [beq_eq_false_iff_ne]; omega
  have d2 : decide ((16 : Int) < (nm.size : Int)) = false := by simp; omega
  have HM := Lib.hid (fun W => bare_any v W)
  have HX := Lib.hid (box1 w (celN nm 1 v sp m sc))
  obtain ⟨d, hd⟩ : ∃ d, decide (m = 0) = d := ⟨_, rfl⟩
  have e1 : ((m : Int) == 0) = d := by rw [← hd]; by_cases h : m = 0 <;> simp [h]
  rw [hd]
  generalize bareB v = r at HM ⊢
  clear h1 h2 hd
  cases r
  all_goals
    go_enter Tryz.func64, Tryz.ntmps64
    go_wp2_with fail
    refine (HM.out _).mono ?_; rintro e w1 ⟨rfl, b1⟩
    have X1 := Lib.hid (HX.out.later b1)
    clear b1
    have q6 := X1.out.1.cell 6 rfl
    go_wp2_with fail
    go_ret
    exact ⟨by simp, X1.out.2⟩
set_option maxHeartbeats 4000000 in
set_option maxRecDepth 100000 in
theorem rmc_out (h1 : ¬ nm.size < 1) (h2 : ¬ 16 < nm.size) (ho : ¬ (1 ≤ op ∧ op ≤ 9)) : Calls Tryz.prog 64 #[.agg (celN nm op v sp m sc)] w (Gives (.bool false) w) := by
  have d1 : ((nm.size : Int) == 0) = false := by rw [beq_eq_false_iff_ne]; omega
  have d2 : decide ((16 : Int) < (nm.size : Int)) = false := by simp; omega
  have e1 : (op == 1) = false := by simp; omega
  have e9 : (op == 9) = false := by simp; omega
  by_cases hl : op < 2
  · have e2 : decide (op < 2) = true := by simpa using hl
    clear h1 h2 ho
    go_enter Tryz.func64, Tryz.ntmps64
    go_wp2
    go_ret
    exact ⟨rfl, below_one _ _⟩
  · have e2 : decide (op < 2) = false := by simpa using hl
    have e8 : decide (8 < op) = true := by simp; omega
    clear h1 h2 ho
    go_enter Tryz.func64, Tryz.ntmps64
    go_wp2
    go_ret
    exact ⟨rfl, below_one _ _⟩
set_option maxHeartbeats 4000000 in
set_option maxRecDepth 100000 in
theorem rmc_mid (h1 : ¬ nm.size < 1) (h2 : ¬ 16 < nm.size) (ho : 2 ≤ op ∧ op ≤ 8) : Calls Tryz.prog 64 #[.agg (celN nm op v sp m sc)] w (Gives (.bool (mayVl v && decide (m = 0) && (!(op == 8) || v.k == 2))) w) := by
  have d1 : ((nm.size : Int) == 0) = false := by rw [beq_eq_false_iff_ne]; omega
  have d2 : decide ((16 : Int) < (nm.size : Int)) = false := by simp; omega
  have e1 : (op == 1) = false := by simp; omega
  have e9 : (op == 9) = false := by simp; omega
  have e2 : decide (op < 2) = false := by simp; omega
  have e8 : decide (8 < op) = false := by simp; omega
  have HM := Lib.hid (fun W => refmay_any v.k v.n v.s v.b W)
  have HX := Lib.hid (box1 w (celN nm op v sp m sc))
  have hmm : mayB v.k v.n v.s v.b = mayVl v := rfl
  rw [hmm] at HM
  generalize mayVl v = r at HM ⊢
  clear h1 h2 ho hmm
  by_cases hm : m = 0
  · rw [decide_eq_true hm]
    subst hm
    cases r with
    | false =>
      go_enter Tryz.func64, Tryz.ntmps64
      go_wp2_with fail
      refine (HM.out _).mono ?_; rintro e w1 ⟨rfl, b1⟩
      have X1 := Lib.hid (HX.out.later b1)
      clear b1
      go_wp2_with fail
      go_ret
      exact ⟨rfl, X1.out.2⟩
    | true =>
      cases h8 : (op == 8) with
      | false =>
        have h8' : (op != 8) = true := by rw [bne, h8]; rfl
        go_enter Tryz.func64, Tryz.ntmps64
        go_wp2_with fail
        refine (HM.out _).mono ?_; rintro e w1 ⟨rfl, b1⟩
        have X1 := Lib.hid (HX.out.later b1)
        clear b1
        have q1 := X1.out.1.cell 1 rfl
        go_wp2_with fail
        go_ret
        exact ⟨rfl, X1.out.2⟩
      | true =>
        have h8' : (op != 8) = false := by rw [bne, h8]; rfl
        go_enter Tryz.func64, Tryz.ntmps64
        go_wp2_with fail
        refine (HM.out _).mono ?_; rintro e w1 ⟨rfl, b1⟩
        have X1 := Lib.hid (HX.out.later b1)
        clear b1
        have q1 := X1.out.1.cell 1 rfl
        have q2 := X1.out.1.cell 2 rfl
        go_wp2_with fail
        go_ret
        exact ⟨by simp, X1.out.2⟩
  · rw [decide_eq_false hm, Bool.and_false, Bool.false_and]
    have e0 : (0 : Int) < (m : Int) := by omega
    have hpos : 0 < m := by omega
    have hz : (m == 0) = false := by simpa using hm
    go_enter Tryz.func64, Tryz.ntmps64
    go_wp2
    go_ret
    exact ⟨rfl, below_one _ _⟩
end
set_option maxHeartbeats 4000000 in
set_option maxRecDepth 100000 in
theorem rmc_in (nm : ByteArray) (v : Vl) (sp : Option Addr) (sc : Nat) (l : List Vl) (w : World) (hS : Vs w (.slice sp l.length sc) l) (h1 : ¬ nm.size < 1) (h2 : ¬ 16 < nm.size) :
    Calls Tryz.prog 64 #[.agg (celN nm 9 v sp l.length sc)] w (Gives (.bool (bareB v && maySt l)) w) := by
  have d1 : ((nm.size : Int) == 0) = false := by rw [beq_eq_false_iff_ne]; omega
  have d2 : decide ((16 : Int) < (nm.size : Int)) = false := by simp; omega
  have HM := Lib.hid (fun W => bare_any v W)
  have HX := Lib.hid (box1 w (celN nm 9 v sp l.length sc))
  have HS := Lib.hid hS
  generalize bareB v = r at HM ⊢
  clear h1 h2 hS
  cases r with
  | false =>
    go_enter Tryz.func64, Tryz.ntmps64
    go_wp2_with fail
    refine (HM.out _).mono ?_; rintro e w1 ⟨rfl, b1⟩
    have X1 := Lib.hid (HX.out.later b1)
    clear b1
    go_wp2_with fail
    go_ret
    exact ⟨rfl, X1.out.2⟩
  | true =>
    rw [Bool.true_and]
    by_cases h0 : l.length < 1
    · have HE : Hid (maySt l = false) := Lib.hid (by simp [maySt]; omega)
      have e0 : ((l.length : Int) == 0) = true := by rw [beq_iff_eq]; omega
      clear h0
      go_enter Tryz.func64, Tryz.ntmps64
      go_wp2_with fail
      refine (HM.out _).mono ?_; rintro e w1 ⟨rfl, b1⟩
      have X1 := Lib.hid (HX.out.later b1)
      clear b1
      have q6 := X1.out.1.cell 6 rfl
      go_wp2_with fail
      go_ret
      exact ⟨ret_bool HE.out.symm, X1.out.2⟩
    by_cases h6 : 6 < l.length
    · have HE : Hid (maySt l = false) := Lib.hid (by simp [maySt]; omega)
      have e0 : ((l.length : Int) == 0) = false := by rw [beq_eq_false_iff_ne]; omega
      have e6 : decide ((6 : Int) < (l.length : Int)) = true := by simp; omega
      clear h0 h6
      go_enter Tryz.func64, Tryz.ntmps64
      go_wp2_with fail
      refine (HM.out _).mono ?_; rintro e w1 ⟨rfl, b1⟩
      have X1 := Lib.hid (HX.out.later b1)
      clear b1
      have q6 := X1.out.1.cell 6 rfl
      go_wp2_with fail
      go_ret
      exact ⟨ret_bool HE.out.symm, X1.out.2⟩
    have HE : Hid (maySt l = l.all mayVl) := Lib.hid (by simp only [maySt, decide_eq_true (by omega : 1 ≤ l.length), decide_eq_true (by omega : l.length ≤ 6), Bool.true_and])
    have e0 : ((l.length : Int) == 0) = false := by rw [beq_eq_false_iff_ne]; omega
    have e6 : decide ((6 : Int) < (l.length : Int)) = false := by simp; omega
    have hla : l.length ≤ 6 := by omega
    clear h0 h6
    go_enter Tryz.func64, Tryz.ntmps64
    go_wp2_with fail
    refine (HM.out _).mono ?_; rintro e w1 ⟨rfl, b1⟩
    have X1 := Lib.hid (HX.out.later b1)
    clear b1
    have q6 := X1.out.1.cell 6 rfl
    go_wp2_with fail
    go_loopw [3] (fun i wr => ∃ k : Nat, k ≤ l.length ∧ i = .int .i64 k ∧ (l.drop k).all mayVl = l.all mayVl ∧ Hid (Below w1.heap.size w1 wr)) (fun i _ => l.length - (intOf i).toNat)
    case atStart => exact ⟨0, Nat.zero_le _, rfl, rfl, Lib.hid (Below.refl _ _)⟩
    case round =>
      obtain ⟨k, hk, rfl, hall, HBel⟩ := hrel
      have HAl := Lib.hid hall
      clear hall q6
      have X2 := Lib.hid (X1.out.later HBel.out)
      have q6 := X2.out.1.cell 6 rfl
      by_cases hkl : k < l.length
      · obtain ⟨p1, cap1, b, o, hv, hp, hb, h4⟩ := four_at (HS.out.later X2.out.2).1 hkl
        simp only [Value.slice.injEq] at hv
        obtain ⟨rfl, _, rfl⟩ := hv
        have hidx := idx_v1 sp b o l.length sc k hp hkl
        obtain ⟨c0, c1, c2, c3⟩ := h4
        have HSt := Lib.hid (all_step (f := mayVl) hkl)
        obtain ⟨x, hx⟩ : ∃ x, l.getD k default = x := ⟨_, rfl⟩
        rw [hx] at c0 c1 c2 c3 HSt
        have HMx := Lib.hid (fun W => refmay_any x.k x.n x.s x.b W)
        have hm : mayB x.k x.n x.s x.b = mayVl x := rfl
        rw [hm] at HMx
        clear hx hp hb hm
        cases hmx : mayVl x with
        | false =>
          have HF : Hid (l.all mayVl = false) := Lib.hid (by rw [← HAl.out, HSt.out, hmx]; rfl)
          rw [hmx] at HMx
          clear hmx
          go_wp2_with fail
          refine (HMx.out _).mono ?_; rintro e w2 ⟨rfl, b1⟩
          have HB1 := Lib.hid (then_ X2.out.2 b1)
          clear b1
          go_wp2_with fail
          go_ret
          exact ⟨ret_bool (by rw [HE.out, HF.out]), HB1.out⟩
        | true =>
          have HF : Hid ((l.drop (k + 1)).all mayVl = l.all mayVl) := Lib.hid (by rw [← HAl.out, HSt.out, hmx]; rfl)
          rw [hmx] at HMx
          clear hmx
          go_wp2_with fail
          refine (HMx.out _).mono ?_; rintro e w2 ⟨rfl, b1⟩
          have HB1 := Lib.hid (then_ HBel.out b1)
          clear b1
          go_wp2_with fail
          go_roundw
          case rel => exact ⟨k + 1, by omega, by simp, HF.out, HB1⟩
          case measure => simp [intOf]; omega
      · have hke : k = l.length := by omega
        subst hke
        have HF : Hid (l.all mayVl = true) := Lib.hid (by rw [← HAl.out, List.drop_length]; rfl)
        go_wp2_with fail
        go_ret
        exact ⟨ret_bool (by rw [HE.out, HF.out]), X2.out.2⟩
theorem rmc_any (c : Cn) (w : World) (hS : Vs w c.sv c.set) : Calls Tryz.prog 64 #[cc c] w (Gives (.bool (mayCn c)) w) := by
  obtain ⟨nm, op, v, sp, sc, l⟩ := c
  by_cases h1 : nm.size < 1
  · rw [show mayCn ⟨nm, op, v, sp, sc, l⟩ = false by simp [mayCn]; omega]
    exact rmc_name nm op v sp l.length sc w (.inl h1)
  by_cases h2 : 16 < nm.size
  · rw [show mayCn ⟨nm, op, v, sp, sc, l⟩ = false by simp [mayCn]; omega]
    exact rmc_name nm op v sp l.length sc w (.inr h2)
  have he : mayCn ⟨nm, op, v, sp, sc, l⟩ = mayOp op v l := by simp only [mayCn, decide_eq_true (by omega : 1 ≤ nm.size), decide_eq_true (by omega : nm.size ≤ 16), Bool.true_and]
  rw [he]
  by_cases o1 : op = 1
  · subst o1
    exact rmc_has nm v sp l.length sc w h1 h2
  by_cases o9 : op = 9
  · subst o9
    exact rmc_in nm v sp sc l w hS h1 h2
  by_cases o28 : 2 ≤ op ∧ op ≤ 8
  · have h := rmc_mid nm op v sp l.length sc w h1 h2 o28
    have hh : mayOp op v l = (mayVl v && decide (l.length = 0) && (!(op == 8) || v.k == 2)) := by
      simp only [mayOp, if_neg o1, if_neg o9]
      by_cases o8 : op = 8
      · subst o8
        rw [if_neg (by omega), if_pos rfl]
        rw [Bool.and_assoc, Bool.and_assoc, Bool.and_comm (decide (v.k = 2))]
        congr 2
      · rw [if_pos (by omega), show (op == 8) = false by simpa using o8]; simp
    rw [hh]
    exact h
  · rw [show mayOp op v l = false by simp only [mayOp, if_neg o1, if_neg o9, if_neg (show ¬ (2 ≤ op ∧ op ≤ 7) by omega), if_neg (show ¬ op = 8 by omega)]]
    exact rmc_out nm op v sp l.length sc w h1 h2 (by omega)

set_option maxHeartbeats 4000000 in
set_option maxRecDepth 100000 in
theorem rmaypr_any (v : Value) (l : List Cn) (w : World) (hA : Cs w v l) : Calls Tryz.prog 46 #[v] w (Gives (.bool (mayPr l)) w) := by
  obtain ⟨p, cap, rfl⟩ := hA.1.form
  have hla := hA.2.1
  have HA := Lib.hid hA
  clear hA
  go_enter Tryz.func46, Tryz.ntmps46
  go_wp2
  go_loopw [3] (fun i wr => ∃ k : Nat, k ≤ l.length ∧ i = .int .i64 k ∧ (l.drop k).all mayCn = l.all mayCn ∧ Hid (Below w.heap.size w wr)) (fun i _ => l.length - (intOf i).toNat)
  case atStart => exact ⟨0, Nat.zero_le _, rfl, rfl, Lib.hid (Below.refl _ _)⟩
  case round =>
    obtain ⟨k, hk, rfl, hall, HBel⟩ := hrel
    have HAl := Lib.hid hall
    clear hall
    by_cases hkl : k < l.length
    · obtain ⟨p1, cap1, b, o, hv, hp, hb, h4⟩ := seven_at (HA.out.later HBel.out).1 hkl
      simp only [Value.slice.injEq] at hv
      obtain ⟨rfl, _, rfl⟩ := hv
      have hidx := idx_c3 p b o l.length cap k hp hkl
      obtain ⟨c0, c1, c2, c3, c4, c5, c6⟩ := h4
      have HS := Lib.hid (all_step (f := mayCn) hkl)
      have HSt := Lib.hid ((HA.out.at hkl).later HBel.out)
      obtain ⟨c, hx⟩ : ∃ c, l.getD k default = c := ⟨_, rfl⟩
      rw [hx] at c0 c1 c2 c3 c4 c5 c6 HS HSt
      have HM := Lib.hid (rmc_any c _ HSt.out)
      clear hx hp hb HSt
      cases hmx : mayCn c with
      | false =>
        have HF : Hid (mayPr l = false) := Lib.hid (by
          have : l.all mayCn = false := by rw [← HAl.out, HS.out, hmx]; rfl
          rw [mayPr, this, Bool.and_false])
        rw [hmx] at HM
        clear hmx
        go_wp2_with fail
        refine HM.out.mono ?_; rintro e w1 ⟨rfl, b1⟩
        have HB1 := Lib.hid (then_ HBel.out b1)
        clear b1
        go_wp2_with fail
        go_ret
        exact ⟨ret_bool HF.out.symm, HB1.out⟩
      | true =>
        have HF : Hid ((l.drop (k + 1)).all mayCn = l.all mayCn) := Lib.hid (by rw [← HAl.out, HS.out, hmx]; rfl)
        rw [hmx] at HM
        clear hmx
        go_wp2_with fail
        refine HM.out.mono ?_; rintro e w1 ⟨rfl, b1⟩
        have HB1 := Lib.hid (then_ HBel.out b1)
        clear b1
        go_wp2_with fail
        go_roundw
        case rel => exact ⟨k + 1, by omega, by simp, HF.out, HB1⟩
        case measure => simp [intOf]; omega
    · have hke : k = l.length := by omega
      subst hke
      obtain ⟨d, hd⟩ : ∃ d, decide ((l.length : Int) ≤ 6) = d := ⟨_, rfl⟩
      have HF : Hid (mayPr l = d) := Lib.hid (by
        have h1 : l.all mayCn = true := by rw [← HAl.out, List.drop_length]; rfl
        rw [mayPr, h1, Bool.and_true, ← hd]
        by_cases h : l.length ≤ 6
        · rw [decide_eq_true h, decide_eq_true (by omega)]
        · rw [decide_eq_false h, decide_eq_false (by omega)])
      go_wp2_with fail
      go_ret
      exact ⟨ret_bool HF.out.symm, HBel.out⟩
end Go.Proofs.YtlnjmcodgdebmaaGreat.Gm
