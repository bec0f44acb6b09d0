/- The contract of the document's Holds: Prefix; all of them together. -/
import Derived.Test.YtlnjmcodgdebmaaGreatKu
import Derived.Test.YtlnjmcodgdebmaaGreatRMa
import Derived.Test.YtlnjmcodgdebmaaGreatKc
/- The contract of the document's Holds: In and Prefix; all of them together. -/
/- The contract of the document's Holds. -/
set_option linter.unusedSimpArgs false
set_option linter.unusedVariables false
namespace Go.Proofs.YtlnjmcodgdebmaaGreat.Gm
open Go Go.RowKit
attribute [local go_sem ↓] Go.wp_at_zero Go.wp_at_succ

section
variable (nm : ByteArray) (v : Vl) (sp : Option Addr) (m sc : Nat) (w : World) (x : Vl)
set_option maxHeartbeats 4000000 in
set_option maxRecDepth 100000 in
theorem rholds_1 : Calls Tryz.prog 54 #[.agg #[.string nm, .int .i64 1, .int .i64 v.k, .int .i64 v.n, .string v.s, .bool v.b, .slice sp m sc], vv x] w (Gives (.bool true) w) := by
  go_enter Tryz.func54, Tryz.ntmps54
  go_wp2
  go_ret
  exact ⟨rfl, ((Below.refl _ w).alloc (Nat.le_refl _) _).alloc (by simp) _⟩
set_option maxHeartbeats 4000000 in
set_option maxRecDepth 100000 in
theorem rholds_kind (op : Int) (h1 : ¬ op = 1) (h9 : ¬ op = 9) (hk : ¬ x.k = v.k) : Calls Tryz.prog 54 #[.agg #[.string nm, .int .i64 op, .int .i64 v.k, .int .i64 v.n, .string v.s, .bool v.b, .slice sp m sc], vv x] w (Gives (.bool false) w) := by
  have e1 : (op == 1) = false := by simpa using h1
  have e9 : (op == 9) = false := by simpa using h9
  have ek : (x.k != v.k) = true := by simpa using hk
  clear h1 h9 hk
  go_enter Tryz.func54, Tryz.ntmps54
  go_wp2
  go_ret
  exact ⟨rfl, ((Below.refl _ w).alloc (Nat.le_refl _) _).alloc (by simp) _⟩
/-- The two boxes, behind the call of Compare. -/
theorem two_boxes {op : Int} {w1 : World} (b : Below ((w.alloc (.cells #[.string nm, .int .i64 op, .int .i64 v.k, .int .i64 v.n, .string v.s, .bool v.b, .slice sp m sc] 45)).alloc (.cells #[.int .i64 x.k, .int .i64 x.n, .string x.s, .bool x.b] 42)).heap.size ((w.alloc (.cells #[.string nm, .int .i64 op, .int .i64 v.k, .int .i64 v.n, .string v.s, .bool v.b, .slice sp m sc] 45)).alloc (.cells #[.int .i64 x.k, .int .i64 x.n, .string x.s, .bool x.b] 42)) w1) :
    Blk w1 w.heap.size 45 #[.string nm, .int .i64 op, .int .i64 v.k, .int .i64 v.n, .string v.s, .bool v.b, .slice sp m sc] ∧ Blk w1 (w.heap.size + 1) 42 #[.int .i64 x.k, .int .i64 x.n, .string x.s, .bool x.b] ∧ Below w.heap.size w w1 :=
  ⟨((Blk.new _ _ _).alloc _).later b, (by simpa using Blk.new (w.alloc (.cells #[.string nm, .int .i64 op, .int .i64 v.k, .int .i64 v.n, .string v.s, .bool v.b, .slice sp m sc] 45)) 42 #[.int .i64 x.k, .int .i64 x.n, .string x.s, .bool x.b] : Blk _ _ _ _).later b,
    (((Below.refl _ w).alloc (Nat.le_refl _) _).alloc (by simp) _).trans (b.mono (by simp; omega))⟩
set_option maxHeartbeats 4000000 in
set_option maxRecDepth 100000 in
theorem rholds_ord (op : Int) (ho : op = 2 ∨ op = 3 ∨ op = 4 ∨ op = 5 ∨ op = 6 ∨ op = 7) (hk : x.k = v.k) : Calls Tryz.prog 54 #[.agg #[.string nm, .int .i64 op, .int .i64 v.k, .int .i64 v.n, .string v.s, .bool v.b, .slice sp m sc], vv x] w (Gives (.bool (relOf op (cv x v))) w) := by
  have ek : (x.k != v.k) = false := by simpa using hk
  have HC := Lib.hid (fun W => refcmp_any x.k x.n x.s x.b v.k v.n v.s v.b W)
  have hcv : cmpV x.k x.n x.s x.b v.k v.n v.s v.b = cv x v := rfl
  rw [hcv] at HC
  generalize cv x v = r at HC ⊢
  clear hk hcv
  rcases ho with rfl | rfl | rfl | rfl | rfl | rfl
  all_goals
    go_enter Tryz.func54, Tryz.ntmps54
    go_wp2_with fail
    refine (HC.out _).mono ?_; rintro e w1 ⟨rfl, b1⟩
    obtain ⟨k1, k2, hb⟩ := two_boxes nm v sp m sc w x b1
    have q1 := k1.cell 1 rfl
    have HB := Lib.hid hb
    clear b1 k1 k2 hb
    go_wp2_with fail
    go_ret
    exact ⟨rfl, HB.out⟩
set_option maxHeartbeats 4000000 in
set_option maxRecDepth 100000 in
theorem rholds_other (op : Int) (ho : ¬ (1 ≤ op ∧ op ≤ 9)) (hk : x.k = v.k) : Calls Tryz.prog 54 #[.agg #[.string nm, .int .i64 op, .int .i64 v.k, .int .i64 v.n, .string v.s, .bool v.b, .slice sp m sc], vv x] w (Gives (.bool false) w) := by
  have ek : (x.k != v.k) = false := by simpa using hk
  have HC := Lib.hid (fun W => refcmp_any x.k x.n x.s x.b v.k v.n v.s v.b W)
  generalize cmpV x.k x.n x.s x.b v.k v.n v.s v.b = r at HC
  have e1 : (op == 1) = false := by simp; omega
  have e2 : (op == 2) = false := by simp; omega
  have e3 : (op == 3) = false := by simp; omega
  have e4 : (op == 4) = false := by simp; omega
  have e5 : (op == 5) = false := by simp; omega
  have e6 : (op == 6) = false := by simp; omega
  have e7 : (op == 7) = false := by simp; omega
  have e8 : (op == 8) = false := by simp; omega
  have e9 : (op == 9) = false := by simp; omega
  clear hk ho
  go_enter Tryz.func54, Tryz.ntmps54
  go_wp2_with fail
  refine (HC.out _).mono ?_; rintro e w1 ⟨rfl, b1⟩
  obtain ⟨k1, k2, hb⟩ := two_boxes nm v sp m sc w x b1
  have q1 := k1.cell 1 rfl
  have HB := Lib.hid hb
  clear b1 k1 k2 hb
  go_wp2_with fail
  go_ret
  exact ⟨rfl, HB.out⟩
end
end Go.Proofs.YtlnjmcodgdebmaaGreat.Gm
set_option linter.unusedSimpArgs false
set_option linter.unusedVariables false
namespace Go.Proofs.YtlnjmcodgdebmaaGreat.Gm
open Go Go.RowKit
attribute [local go_sem ↓] Go.wp_at_zero Go.wp_at_succ

set_option maxHeartbeats 4000000 in
set_option maxRecDepth 100000 in
theorem rholds_9 (nm : ByteArray) (v : Vl) (sp : Option Addr) (sc : Nat) (w : World) (x : Vl) (l : List Vl) (hS : Vs w (.slice sp l.length sc) l) : Calls Tryz.prog 54 #[.agg #[.string nm, .int .i64 9, .int .i64 v.k, .int .i64 v.n, .string v.s, .bool v.b, .slice sp l.length sc], vv x] w (Gives (.bool (l.any fun y => cv x y == 0)) w) := by
  have hla := hS.2
  obtain ⟨f, hf⟩ : ∃ f : Vl → Bool, (fun y => cv x y == 0) = f := ⟨_, rfl⟩
  have HFe : Hid (∀ y, (cv x y == 0) = f y) := Lib.hid (fun y => by rw [← hf])
  rw [hf]
  obtain ⟨W0, hW0⟩ : ∃ W0, W0 = (w.alloc (.cells #[.string nm, .int .i64 9, .int .i64 v.k, .int .i64 v.n, .string v.s, .bool v.b, .slice sp l.length sc] 45)).alloc (.cells #[.int .i64 x.k, .int .i64 x.n, .string x.s, .bool x.b] 42) := ⟨_, rfl⟩
  obtain ⟨k1, k2, hB0⟩ := two_boxes nm v sp l.length sc w x (op := 9) (w1 := W0) (by rw [hW0]; exact Below.refl _ _)
  have HK1 := Lib.hid k1
  have HK2 := Lib.hid k2
  have HS := Lib.hid (hS.later hB0)
  have HB0 := Lib.hid hB0
  have HW0 := Lib.hid hW0
  clear hS hf hW0 k1 k2 hB0
  go_enter Tryz.func54, Tryz.ntmps54
  go_wp2
  rw [← HW0.out]
  go_loopw [5] (fun i wr => ∃ k : Nat, k ≤ l.length ∧ i = .int .i64 k ∧ (l.drop k).any f = l.any f ∧ Hid (Below W0.heap.size W0 wr)) (fun i _ => l.length - (intOf i).toNat)
  case atStart => exact ⟨0, Nat.zero_le _, rfl, rfl, Lib.hid (Below.refl _ _)⟩
  case round =>
    obtain ⟨k, hk, rfl, hall, HB⟩ := hrel
    have HAl := Lib.hid hall
    clear hall
    have y6 := (HK1.out.later HB.out).cell 6 rfl
    by_cases hkl : k < l.length
    · obtain ⟨p1, cap1, b, o, hv, hp, hb, h4⟩ := four_at (HS.out.later HB.out).1 hkl
      simp only [Value.slice.injEq] at hv
      obtain ⟨rfl, _, rfl⟩ := hv
      have hidx := idx_v1 sp b o l.length sc k hp hkl
      have HS1 := Lib.hid (any_step (f := f) hkl)
      obtain ⟨y, hy⟩ : ∃ y, l.getD k default = y := ⟨_, rfl⟩
      rw [hy] at h4 HS1
      have HC := Lib.hid (fun W => refcmp_any x.k x.n x.s x.b y.k y.n y.s y.b W)
      have hcv : cmpV x.k x.n x.s x.b y.k y.n y.s y.b = cv x y := rfl
      rw [hcv] at HC
      have hfy := HFe.out y
      generalize cv x y = r at HC hfy
      have e6 := fun (z : Later wr) => Later.cell y6 z
      have a0 := fun (z : Later wr) => Later.cell ((HK2.out.later HB.out).cell 0 rfl) z
      have a1 := fun (z : Later wr) => Later.cell ((HK2.out.later HB.out).cell 1 rfl) z
      have a2 := fun (z : Later wr) => Later.cell ((HK2.out.later HB.out).cell 2 rfl) z
      have a3 := fun (z : Later wr) => Later.cell ((HK2.out.later HB.out).cell 3 rfl) z
      have b0 := fun (z : Later wr) => Later.cell h4.1 z
      have b1 := fun (z : Later wr) => Later.cell h4.2.1 z
      have b2 := fun (z : Later wr) => Later.cell h4.2.2.1 z
      have b3 := fun (z : Later wr) => Later.cell h4.2.2.2 z
      clear hy hp h4 hb hcv
      cases hfx : f y with
      | true =>
        have HF : Hid (l.any f = true) := Lib.hid (by rw [← HAl.out, HS1.out, hfx]; rfl)
        rw [hfx] at hfy
        clear hfx
        go_wp2_with fail
        refine wp_region_later (by kernel_rfl) (by kernel_rfl) ?_
        repeat (quiet_step ((first | (go_at_call 65; exact later_call _ (HC.out _)))))
        refine wpQuiet_nil ?_
        intro wz hw'
        obtain ⟨⟨_, hbz⟩, rfl⟩ := hw'
        have HBz := Lib.hid (then_ HB0.out (then_ HB.out hbz))
        clear hbz e6 a0 a1 a2 a3 b0 b1 b2 b3 y6
        go_wp2_with fail
        go_ret
        exact ⟨ret_bool HF.out.symm, HBz.out⟩
      | false =>
        have HF : Hid ((l.drop (k + 1)).any f = l.any f) := Lib.hid (by rw [← HAl.out, HS1.out, hfx]; rfl)
        rw [hfx] at hfy
        clear hfx
        go_wp2_with fail
        refine wp_region_later (by kernel_rfl) (by kernel_rfl) ?_
        repeat (quiet_step ((first | (go_at_call 65; exact later_call _ (HC.out _)))))
        refine wpQuiet_nil ?_
        intro wz hw'
        obtain ⟨⟨_, hbz⟩, rfl⟩ := hw'
        have HBz := Lib.hid (then_ HB.out hbz)
        clear hbz e6 a0 a1 a2 a3 b0 b1 b2 b3 y6
        go_wp2_with fail
        go_roundw
        case rel => exact ⟨k + 1, by omega, by simp, HF.out, HBz⟩
        case measure => simp [intOf]; omega
    · have hke : k = l.length := by omega
      subst hke
      have HF : Hid (l.any f = false) := Lib.hid (by rw [← HAl.out, List.drop_length]; rfl)
      have HBz := Lib.hid (then_ HB0.out HB.out)
      go_wp2_with fail
      go_ret
      exact ⟨ret_bool HF.out.symm, HBz.out⟩
end Go.Proofs.YtlnjmcodgdebmaaGreat.Gm
/- The document's Holds, Prefix: a text that is too short. -/
/- The document's Holds, Prefix: a value that is no text. -/
/- The document's Holds, Prefix: plain facts on the beginnings of texts. -/
set_option linter.unusedSimpArgs false
set_option linter.unusedVariables false
namespace Go.Proofs.YtlnjmcodgdebmaaGreat.Gm
open Go Go.RowKit
attribute [local go_sem ↓] Go.wp_at_zero Go.wp_at_succ

theorem take_is (x : ByteArray) (n : Nat) : (x.extract 0 n).data.toList = x.data.toList.take n := by
  simp [ByteArray.data_extract, Array.toList_extract, List.extract]
theorem prefix_is (x own : ByteArray) : ((x.extract 0 own.size).toList == own.toList) = Lib.hasPrefix x.data.toList own.data.toList := by
  rw [toList_data, toList_data, take_is, Lib.size_eq]
  unfold Lib.hasPrefix
  rw [Bool.eq_iff_iff, beq_iff_eq, List.isPrefixOf_iff_prefix, List.prefix_iff_eq_take, eq_comm]
theorem prefix_no (x own : ByteArray) (h : ¬ own.size ≤ x.size) : Lib.hasPrefix x.data.toList own.data.toList = false := by
  unfold Lib.hasPrefix
  rw [Bool.eq_false_iff, ne_eq, List.isPrefixOf_iff_prefix]
  intro hp
  have := hp.length_le
  rw [← Lib.size_eq, ← Lib.size_eq] at this
  exact h this
theorem slice_str (s t : ByteArray) (h : t.size ≤ s.size) (W : World) : (Instr.slice 9 (.string s) none (some (.int .i64 (t.size : Int))) none).run Tryz.prog W = .ok (.string (s.extract 0 t.size)) W := by
  go_simp
end Go.Proofs.YtlnjmcodgdebmaaGreat.Gm
set_option linter.unusedSimpArgs false
set_option linter.unusedVariables false
namespace Go.Proofs.YtlnjmcodgdebmaaGreat.Gm
open Go Go.RowKit
attribute [local go_sem ↓] Go.wp_at_zero Go.wp_at_succ

set_option maxHeartbeats 8000000 in
set_option maxRecDepth 100000 in
theorem rholds_8a (nm : ByteArray) (v : Vl) (sp : Option Addr) (m sc : Nat) (w : World) (x : Vl) (ek : (x.k != v.k) = false) (h2 : (x.k == 2) = false) : Calls Tryz.prog 54 #[.agg #[.string nm, .int .i64 8, .int .i64 v.k, .int .i64 v.n, .string v.s, .bool v.b, .slice sp m sc], vv x] w (Gives (.bool false) w) := by
  have HC := Lib.hid (fun W => refcmp_any x.k x.n x.s x.b v.k v.n v.s v.b W)
  generalize cmpV x.k x.n x.s x.b v.k v.n v.s v.b = r at HC
  go_enter Tryz.func54, Tryz.ntmps54
  go_wp2_with fail
  refine (HC.out _).mono ?_; rintro e w1 ⟨rfl, b1⟩
  obtain ⟨k1, k2, hb⟩ := two_boxes nm v sp m sc w x b1
  have q1 := k1.cell 1 rfl
  have q4 := k1.cell 4 rfl
  have HB := Lib.hid hb
  go_wp2_with fail
  have e4 := k2.cell 0 rfl
  have e5 := k2.cell 2 rfl
  clear b1 k1 k2 hb
  go_quiet (fail)
  have HBz := Lib.hid (bel_drewN HB.out nq)
  go_wp2_with fail
  go_ret
  exact ⟨rfl, HBz.out⟩
end Go.Proofs.YtlnjmcodgdebmaaGreat.Gm
set_option linter.unusedSimpArgs false
set_option linter.unusedVariables false
namespace Go.Proofs.YtlnjmcodgdebmaaGreat.Gm
open Go Go.RowKit
attribute [local go_sem ↓] Go.wp_at_zero Go.wp_at_succ

set_option maxHeartbeats 8000000 in
set_option maxRecDepth 100000 in
theorem rholds_8c (nm : ByteArray) (v : Vl) (sp : Option Addr) (m sc : Nat) (w : World) (x : Vl) (ek : (x.k != v.k) = false) (h2 : (x.k == 2) = true) (hz : ¬ v.s.size ≤ x.s.size) : Calls Tryz.prog 54 #[.agg #[.string nm, .int .i64 8, .int .i64 v.k, .int .i64 v.n, .string v.s, .bool v.b, .slice sp m sc], vv x] w (Gives (.bool false) w) := by
  have HC := Lib.hid (fun W => refcmp_any x.k x.n x.s x.b v.k v.n v.s v.b W)
  generalize cmpV x.k x.n x.s x.b v.k v.n v.s v.b = r at HC
  have hge : decide ((v.s.size : Int) ≤ (x.s.size : Int)) = false := by simp; omega
  go_enter Tryz.func54, Tryz.ntmps54
  go_wp2_with fail
  refine (HC.out _).mono ?_; rintro e w1 ⟨rfl, b1⟩
  obtain ⟨k1, k2, hb⟩ := two_boxes nm v sp m sc w x b1
  have q1 := k1.cell 1 rfl
  have q4 := k1.cell 4 rfl
  have HB := Lib.hid hb
  go_wp2_with fail
  have e4 := k2.cell 0 rfl
  have e5 := k2.cell 2 rfl
  clear b1 k1 k2 hb
  go_quiet (fail)
  have HBz := Lib.hid (bel_drewN HB.out nq)
  go_wp2_with fail
  go_ret
  exact ⟨rfl, HBz.out⟩
end Go.Proofs.YtlnjmcodgdebmaaGreat.Gm
/- The document's Holds, Prefix: a text that is long enough. -/
set_option linter.unusedSimpArgs false
set_option linter.unusedVariables false
namespace Go.Proofs.YtlnjmcodgdebmaaGreat.Gm
open Go Go.RowKit
attribute [local go_sem ↓] Go.wp_at_zero Go.wp_at_succ

set_option maxHeartbeats 8000000 in
set_option maxRecDepth 100000 in
theorem rholds_8b (nm : ByteArray) (v : Vl) (sp : Option Addr) (m sc : Nat) (w : World) (x : Vl) (q : Bool) (ek : (x.k != v.k) = false) (h2 : (x.k == 2) = true) (hz : v.s.size ≤ x.s.size) (hbe : q = Lib.hasPrefix x.s.data.toList v.s.data.toList) : Calls Tryz.prog 54 #[.agg #[.string nm, .int .i64 8, .int .i64 v.k, .int .i64 v.n, .string v.s, .bool v.b, .slice sp m sc], vv x] w (Gives (.bool q) w) := by
  have HC := Lib.hid (fun W => refcmp_any x.k x.n x.s x.b v.k v.n v.s v.b W)
  generalize cmpV x.k x.n x.s x.b v.k v.n v.s v.b = r at HC
  have hsl := slice_str x.s v.s hz
  have hge : decide ((v.s.size : Int) ≤ (x.s.size : Int)) = true := by simp; omega
  have hpe := prefix_is x.s v.s
  rw [← hbe] at hpe
  clear hbe
  go_enter Tryz.func54, Tryz.ntmps54
  go_wp2_with fail
  refine (HC.out _).mono ?_; rintro e w1 ⟨rfl, b1⟩
  obtain ⟨k1, k2, hb⟩ := two_boxes nm v sp m sc w x b1
  have q1 := k1.cell 1 rfl
  have q4 := k1.cell 4 rfl
  have HB := Lib.hid hb
  go_wp2_with fail
  have e4 := k2.cell 0 rfl
  have e5 := k2.cell 2 rfl
  clear b1 k1 k2 hb
  go_quiet (fail)
  have HBz := Lib.hid (bel_drewN HB.out nq)
  go_wp2_with fail
  go_ret
  exact ⟨rfl, HBz.out⟩
end Go.Proofs.YtlnjmcodgdebmaaGreat.Gm
set_option linter.unusedSimpArgs false
set_option linter.unusedVariables false
namespace Go.Proofs.YtlnjmcodgdebmaaGreat.Gm
open Go Go.RowKit
attribute [local go_sem ↓] Go.wp_at_zero Go.wp_at_succ

theorem rholds_8 (nm : ByteArray) (v : Vl) (sp : Option Addr) (m sc : Nat) (w : World) (x : Vl) (hk : x.k = v.k) : Calls Tryz.prog 54 #[.agg #[.string nm, .int .i64 8, .int .i64 v.k, .int .i64 v.n, .string v.s, .bool v.b, .slice sp m sc], vv x] w (Gives (.bool (beginsB x v)) w) := by
  have ek : (x.k != v.k) = false := by simpa using hk
  have hvk : (v.k == 2) = (x.k == 2) := by rw [hk]
  have hbe : beginsB x v = ((x.k == 2) && Lib.hasPrefix x.s.data.toList v.s.data.toList) := by
    rw [beginsB, hvk]; cases (x.k == 2) <;> rfl
  rw [hbe]
  cases h2 : (x.k == 2) with
  | false => exact rholds_8a nm v sp m sc w x ek h2
  | true =>
    rw [Bool.true_and]
    by_cases hz : v.s.size ≤ x.s.size
    · exact rholds_8b nm v sp m sc w x _ ek h2 hz rfl
    · rw [prefix_no _ _ hz]; exact rholds_8c nm v sp m sc w x ek h2 hz
theorem rholds_any (c : Cn) (x : Vl) (w : World) (hS : Vs w c.sv c.set) : Calls Tryz.prog 54 #[.agg #[.string c.nm, .int .i64 c.op, .int .i64 c.v.k, .int .i64 c.v.n, .string c.v.s, .bool c.v.b, .slice c.sp c.set.length c.sc], vv x] w (Gives (.bool (holdsB c x)) w) := by
  obtain ⟨nm, op, v, sp, sc, l⟩ := c
  simp only [holdsB]
  by_cases h1 : op = 1
  · subst h1; simpa using rholds_1 nm v sp l.length sc w x
  by_cases h9 : op = 9
  · subst h9; simpa using rholds_9 nm v sp sc w x l hS
  rw [if_neg h1, if_neg h9]
  by_cases hk : x.k = v.k
  · by_cases ho : 2 ≤ op ∧ op ≤ 7
    · rw [if_pos ho, show (x.k == v.k) = true by simpa using hk, Bool.true_and]
      exact rholds_ord nm v sp l.length sc w x op (by omega) hk
    · rw [if_neg ho]
      by_cases h8 : op = 8
      · subst h8; rw [if_pos rfl]; exact rholds_8 nm v sp l.length sc w x hk
      · rw [if_neg h8]; exact rholds_other nm v sp l.length sc w x op (by omega) hk
  · have hf := rholds_kind nm v sp l.length sc w x op h1 h9 hk
    by_cases ho : 2 ≤ op ∧ op ≤ 7
    · rw [if_pos ho, show (x.k == v.k) = false by simpa using hk, Bool.false_and]; exact hf
    · rw [if_neg ho]
      by_cases h8 : op = 8
      · rw [if_pos h8, show beginsB x v = false from ?_]
        · exact hf
        · unfold beginsB
          cases h2 : (x.k == 2)
          · rfl
          · rw [Bool.true_and, show (v.k == 2) = false by simp at h2 ⊢; omega, Bool.false_and]
      · rw [if_neg h8]; exact hf
end Go.Proofs.YtlnjmcodgdebmaaGreat.Gm
