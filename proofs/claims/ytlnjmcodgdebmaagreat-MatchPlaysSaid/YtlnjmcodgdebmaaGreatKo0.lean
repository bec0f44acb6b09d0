/- The contracts of package pred's maySet, MayCons and May. -/
import Derived.Test.YtlnjmcodgdebmaaGreatKw0
import Derived.Test.YtlnjmcodgdebmaaGreatKc
set_option linter.unusedSimpArgs false
set_option linter.unusedVariables false
namespace Go.Proofs.YtlnjmcodgdebmaaGreat.Gm
open Go Go.RowKit
attribute [local go_sem ↓] Go.wp_at_zero Go.wp_at_succ
attribute [local go_sem ↓] run_eql_val run_guard_val

def mayVl (x : Vl) : Bool := mayB x.k x.n x.s x.b
def bareB (x : Vl) : Bool := eqlVal x.k x.n x.s x.b 0 0 ⟨#[]⟩ false
def maySt (l : List Vl) : Bool := decide (1 ≤ l.length) && decide (l.length ≤ 6) && l.all mayVl
/-- Whether a constraint may be, its name aside. -/
def mayOp (op : Int) (v : Vl) (set : List Vl) : Bool :=
  if op = 1 then bareB v && decide (set.length = 0) else if op = 9 then bareB v && maySt set else if 2 ≤ op ∧ op ≤ 7 then mayVl v && decide (set.length = 0) else if op = 8 then mayVl v && decide (v.k = 2) && decide (set.length = 0) else false
def mayCn (c : Cn) : Bool := decide (1 ≤ c.nm.size) && decide (c.nm.size ≤ 16) && mayOp c.op c.v c.set
def mayPr (l : List Cn) : Bool := decide (l.length ≤ 6) && l.all mayCn
theorem all_step {α : Type} [Inhabited α] {f : α → Bool} {l : List α} {k : Nat} (h : k < l.length) : (l.drop k).all f = (f (l.getD k default) && (l.drop (k + 1)).all f) := by
  rw [List.drop_eq_getElem_cons h, List.all_cons, List.getD_eq_getElem?_getD, List.getElem?_eq_getElem h]
  rfl

set_option maxHeartbeats 2000000 in
set_option maxRecDepth 20000 in
theorem mayset_any (v : Value) (l : List Vl) (w : World) (hA : Vs w v l) : Calls Tryz.prog 60 #[v] w (Gives (.bool (maySt l)) w) := by
  obtain ⟨p, cap, rfl⟩ := hA.1.form
  have hla := hA.2
  have HA := Lib.hid hA
  clear hA
  by_cases h1 : l.length < 1
  · have HE : Hid (maySt l = false) := Lib.hid (by simp [maySt]; omega)
    have d1 : decide ((l.length : Int) < 1) = true := by simp; omega
    clear h1
    go_enter Tryz.func60, Tryz.ntmps60
    go_wp2
    go_ret
    exact ⟨ret_bool HE.out.symm, Below.refl _ _⟩
  by_cases h6 : 6 < l.length
  · have HE : Hid (maySt l = false) := Lib.hid (by simp [maySt]; omega)
    have d1 : decide ((l.length : Int) < 1) = false := by simp; omega
    have d6 : decide ((6 : Int) < (l.length : Int)) = true := by simp; omega
    clear h1 h6
    go_enter Tryz.func60, Tryz.ntmps60
    go_wp2
    go_ret
    exact ⟨ret_bool HE.out.symm, Below.refl _ _⟩
  have d1 : decide ((l.length : Int) < 1) = false := by simp; omega
  have d6 : decide ((6 : Int) < (l.length : Int)) = false := by simp; omega
  have HE : Hid (maySt l = l.all mayVl) := Lib.hid (by simp only [maySt, decide_eq_true (by omega : 1 ≤ l.length), decide_eq_true (by omega : l.length ≤ 6), Bool.true_and])
  clear h1 h6
  go_enter Tryz.func60, Tryz.ntmps60
  go_wp2
  go_loopw [15] (fun i wr => ∃ k : Nat, k ≤ l.length ∧ i = .int .i64 k ∧ (l.drop k).all mayVl = l.all mayVl ∧ Below w.heap.size w wr) (fun i _ => l.length - (intOf i).toNat)
  case atStart => exact ⟨0, Nat.zero_le _, rfl, rfl, Below.refl _ _⟩
  case round =>
    obtain ⟨k, hk, rfl, hall, hbel⟩ := hrel
    have HAl := Lib.hid hall
    have HBel := Lib.hid hbel
    clear hall hbel
    by_cases hkl : k < l.length
    · obtain ⟨p1, cap1, b, o, hv, hp, hb, h4⟩ := four_at HA.out.1 hkl
      simp only [Value.slice.injEq] at hv
      obtain ⟨rfl, _, rfl⟩ := hv
      have hidx := idx_v1 p b o l.length cap k hp hkl
      obtain ⟨c0, c1, c2, c3⟩ := h4.later HBel.out
      have HS := Lib.hid (all_step (f := mayVl) hkl)
      obtain ⟨x, hx⟩ : ∃ x, l.getD k default = x := ⟨_, rfl⟩
      rw [hx] at c0 c1 c2 c3 HS
      have HM := Lib.hid (fun W => may_any x.k x.n x.s x.b W)
      have hm : mayB x.k x.n x.s x.b = mayVl x := rfl
      rw [hm] at HM
      clear hx hp h4 hb hm
      cases hmx : mayVl x with
      | false =>
        have HF : Hid (l.all mayVl = false) := Lib.hid (by rw [← HAl.out, HS.out, hmx]; rfl)
        rw [hmx] at HM
        clear hmx
        go_wp2_with fail
        refine (HM.out _).mono ?_; rintro e w1 ⟨rfl, b1⟩
        have HB1 := Lib.hid (then_ (HBel.out.alloc HBel.out.size _) b1)
        clear b1
        go_wp2_with fail
        go_ret
        exact ⟨ret_bool (by rw [HE.out, HF.out]), HB1.out⟩
      | true =>
        have HF : Hid ((l.drop (k + 1)).all mayVl = l.all mayVl) := Lib.hid (by rw [← HAl.out, HS.out, hmx]; rfl)
        rw [hmx] at HM
        clear hmx
        go_wp2_with fail
        refine (HM.out _).mono ?_; rintro e w1 ⟨rfl, b1⟩
        have HB1 := Lib.hid (then_ (HBel.out.alloc HBel.out.size _) b1)
        clear b1
        go_wp2_with fail
        go_roundw
        case rel => exact ⟨k + 1, by omega, by simp, HF.out, HB1.out⟩
        case measure => simp [intOf]; omega
    · have hke : k = l.length := by omega
      subst hke
      have HF : Hid (l.all mayVl = true) := Lib.hid (by rw [← HAl.out, List.drop_length]; rfl)
      go_wp2
      go_ret
      exact ⟨ret_bool (by rw [HE.out, HF.out]), HBel.out⟩

abbrev con (nm : ByteArray) (op k n : Int) (s : ByteArray) (x : Bool) (sp : Option Addr) (m sc : Nat) : Value := .agg #[.string nm, .int .i64 op, .int .i64 k, .int .i64 n, .string s, .bool x, .slice sp m sc]
section
variable (nm : ByteArray) (op k n : Int) (s : ByteArray) (x : Bool) (sp : Option Addr) (sc : Nat) (l : List Vl) (w : World)
set_option maxHeartbeats 2000000 in
set_option maxRecDepth 20000 in
theorem maycons_name (m : Nat) (h : nm.size < 1 ∨ 16 < nm.size) : Calls Tryz.prog 42 #[con nm op k n s x sp m sc] w (Gives (.bool false) w) := by
  rcases h with h | h
  · have d1 : decide ((nm.size : Int) < 1) = true := by simp; omega
    clear h
    go_enter Tryz.func42, Tryz.ntmps42
    go_wp2
    go_ret
    exact ⟨rfl, below_one _ _⟩
  · have d1 : decide ((nm.size : Int) < 1) = false := by simp; omega
    have d2 : decide ((16 : Int) < (nm.size : Int)) = true := by simp; omega
    clear h
    go_enter Tryz.func42, Tryz.ntmps42
    go_wp2
    go_ret
    exact ⟨rfl, below_one _ _⟩
set_option maxHeartbeats 2000000 in
set_option maxRecDepth 20000 in
theorem maycons_has (m : Nat) (h1 : ¬ nm.size < 1) (h2 : ¬ 16 < nm.size) : Calls Tryz.prog 42 #[con nm 1 k n s x sp m sc] w (Gives (.bool (eqlVal k n s x 0 0 ⟨#[]⟩ false && decide (m = 0))) w) := by
  have d1 : decide ((nm.size : Int) < 1) = false := by simp; omega
  have d2 : decide ((16 : Int) < (nm.size : Int)) = false := by simp; omega
  obtain ⟨r, hr⟩ : ∃ r, eqlVal k n s x 0 0 ⟨#[]⟩ false = r := ⟨_, rfl⟩
  clear h1 h2
  rw [hr]
  cases r with
  | false =>
    go_enter Tryz.func42, Tryz.ntmps42
    go_wp2
    go_ret
    exact ⟨rfl, below_one _ _⟩
  | true =>
    by_cases hm : m = 0
    · have e1 : ((m : Int) == 0) = true := by simp [hm]
      have HD : Hid (decide (m = 0) = true) := Lib.hid (decide_eq_true hm)
      clear hm
      go_enter Tryz.func42, Tryz.ntmps42
      go_wp2
      go_ret
      exact ⟨ret_bool (by rw [HD.out]; rfl), below_one _ _⟩
    · have e1 : ((m : Int) == 0) = false := by simpa using hm
      have HD : Hid (decide (m = 0) = false) := Lib.hid (decide_eq_false hm)
      clear hm
      go_enter Tryz.func42, Tryz.ntmps42
      go_wp2
      go_ret
      exact ⟨ret_bool (by rw [HD.out]; rfl), below_one _ _⟩
set_option maxHeartbeats 4000000 in
set_option maxRecDepth 20000 in
theorem maycons_ord (m : Nat) (h1 : ¬ nm.size < 1) (h2 : ¬ 16 < nm.size) (ho : op = 2 ∨ op = 3 ∨ op = 4 ∨ op = 5 ∨ op = 6 ∨ op = 7) : Calls Tryz.prog 42 #[con nm op k n s x sp m sc] w (Gives (.bool (mayB k n s x && decide (m = 0))) w) := by
  have d1 : decide ((nm.size : Int) < 1) = false := by simp; omega
  have d2 : decide ((16 : Int) < (nm.size : Int)) = false := by simp; omega
  have HM := Lib.hid (fun W => may_any k n s x W)
  obtain ⟨r, hr⟩ : ∃ r, mayB k n s x = r := ⟨_, rfl⟩
  obtain ⟨d, hd⟩ : ∃ d, decide (m = 0) = d := ⟨_, rfl⟩
  have e1 : ((m : Int) == 0) = d := by rw [← hd]; by_cases h : m = 0 <;> simp [h]
  rw [hr] at HM ⊢
  rw [hd]
  clear h1 h2 hr hd
  rcases ho with rfl | rfl | rfl | rfl | rfl | rfl <;> cases r
  all_goals
    go_enter Tryz.func42, Tryz.ntmps42
    go_wp2_with fail
    refine (HM.out _).mono ?_; rintro e w1 ⟨rfl, b1⟩
    have q6 : w1.cell? ⟨w.heap.size, 6, none⟩ = some (.slice sp m sc) := by rw [b1.cell (p := ⟨w.heap.size, 6, none⟩) (by simp)]; simp
    have HB1 := Lib.hid (below_new b1)
    clear b1
    go_wp2_with fail
    go_ret
    exact ⟨by simp, HB1.out⟩
end
end Go.Proofs.YtlnjmcodgdebmaaGreat.Gm
