/- The contract of the document's Order: the order of constraints. -/
import Derived.Test.YtlnjmcodgdebmaaGreatRMa
import Derived.Test.YtlnjmcodgdebmaaGreatKv
set_option linter.unusedSimpArgs false
set_option linter.unusedVariables false
namespace Go.Proofs.YtlnjmcodgdebmaaGreat.Gm
open Go Go.RowKit
attribute [local go_sem ↓] Go.wp_at_zero Go.wp_at_succ

/-- The cells of a constraint's box. -/
abbrev celC (c : Cn) : Array Value := #[.string c.nm, .int .i64 c.op, .int .i64 c.v.k, .int .i64 c.v.n, .string c.v.s, .bool c.v.b, .slice c.sp c.set.length c.sc]
/-- Two boxes of constraints, new. -/
def Box2C (w w1 : World) (a b : Cn) : Prop := Blk w1 w.heap.size 45 (celC a) ∧ Blk w1 (w.heap.size + 1) 45 (celC b) ∧ Below w.heap.size w w1
theorem box2c (w : World) (a b : Cn) : Box2C w ((w.alloc (.cells (celC a) 45)).alloc (.cells (celC b) 45)) a b :=
  ⟨(Blk.new _ _ _).alloc _, by simpa using Blk.new (w.alloc (.cells (celC a) 45)) 45 (celC b), ((Below.refl _ w).alloc (Nat.le_refl _) _).alloc (by simp) _⟩
theorem Box2C.later {w w1 w2 : World} {a b : Cn} (h : Box2C w w1 a b) (hb : Below w1.heap.size w1 w2) : Box2C w w2 a b := ⟨h.1.later hb, h.2.1.later hb, then_ h.2.2 hb⟩
theorem less_of (s s' : ByteArray) : Op.bytesLess s.toList s'.toList = (Lib.compareBytes s.data.toList s'.data.toList == -1) := by rw [less_iff, toList_data, toList_data]
theorem same_of (s s' : ByteArray) : (s.toList == s'.toList) = (Lib.compareBytes s.data.toList s'.data.toList == 0) := by
  rw [toList_data, toList_data]
  rcases compareBytes_three s.data.toList s'.data.toList with h | ⟨h, h'⟩ | h
  · rw [h]; simp only [beq_eq_false_iff_ne, ne_eq, show ((-1 : Int) == 0) = false from rfl]
    intro e; rw [e, compareBytes_self] at h; omega
  · rw [h, h']; simp
  · rw [h]; simp only [beq_eq_false_iff_ne, ne_eq, show ((1 : Int) == 0) = false from rfl]
    intro e; rw [e, compareBytes_self] at h; omega

section
variable (a b : Cn) (w : World)
set_option maxHeartbeats 4000000 in
set_option maxRecDepth 100000 in
theorem order_nm (r : Int) (hr : Lib.compareBytes a.nm.data.toList b.nm.data.toList = r) (h0 : ¬ r = 0) : Calls Tryz.prog 48 #[cc a, cc b] w (Gives (.int .i64 r) w) := by
  have hl := less_of a.nm b.nm
  have he := same_of a.nm b.nm
  have h3 : r = -1 ∨ r = 1 := by
    rcases compareBytes_three a.nm.data.toList b.nm.data.toList with h | ⟨h, _⟩ | h
    · left; rw [← hr, h]
    · exact absurd (hr.symm.trans h) h0
    · right; rw [← hr, h]
  rw [hr] at hl he
  clear hr h0
  have HX := Lib.hid (box2c w a b).2.2
  rcases h3 with rfl | rfl
  all_goals
    simp only [show ((-1 : Int) == -1) = true from rfl, show ((1 : Int) == -1) = false from rfl, show ((-1 : Int) == 0) = false from rfl, show ((1 : Int) == 0) = false from rfl] at hl he
    go_enter Tryz.func48, Tryz.ntmps48
    go_wp2
    go_ret
    exact ⟨rfl, HX.out⟩
set_option maxHeartbeats 4000000 in
set_option maxRecDepth 100000 in
theorem order_op (he : (a.nm.toList == b.nm.toList) = true) (h0 : ¬ a.op = b.op) : Calls Tryz.prog 48 #[cc a, cc b] w (Gives (.int .i64 (cmpI a.op b.op)) w) := by
  have HX := Lib.hid (box2c w a b).2.2
  have e1 : (a.op == b.op) = false := by simpa using h0
  have e2 : (a.op != b.op) = true := by simpa using h0
  by_cases hl : a.op < b.op
  · rw [show cmpI a.op b.op = -1 by simp [cmpI, hl]]
    clear h0
    go_enter Tryz.func48, Tryz.ntmps48
    go_wp2
    go_ret
    exact ⟨rfl, HX.out⟩
  · rw [show cmpI a.op b.op = 1 by simp only [cmpI, hl]; rw [if_neg (by simp)]; rw [if_pos (by omega)]]
    clear h0
    go_enter Tryz.func48, Tryz.ntmps48
    go_wp2
    go_ret
    exact ⟨rfl, HX.out⟩
set_option maxHeartbeats 4000000 in
set_option maxRecDepth 100000 in
theorem order_v (he : (a.nm.toList == b.nm.toList) = true) (ho : a.op = b.op) (r : Int) (hr : cmpW a.v b.v = r) (h0 : ¬ r = 0) : Calls Tryz.prog 48 #[cc a, cc b] w (Gives (.int .i64 r) w) := by
  have HX := Lib.hid (box2c w a b)
  have HW := Lib.hid (fun W => whole_any a.v b.v W)
  rw [hr] at HW
  have e1 : (a.op == b.op) = true := by simpa using ho
  have e2 : (a.op != b.op) = false := by simpa using ho
  have e3 : (r == 0) = false := by simpa using h0
  have e4 : (r != 0) = true := by simpa using h0
  clear ho hr h0
  go_enter Tryz.func48, Tryz.ntmps48
  go_wp2_with fail
  refine (HW.out _).mono ?_; rintro e w1 ⟨rfl, b1⟩
  have X1 := Lib.hid (HX.out.later b1)
  clear b1
  go_wp2_with fail
  go_ret
  exact ⟨rfl, X1.out.2.2⟩
set_option maxHeartbeats 4000000 in
set_option maxRecDepth 100000 in
theorem order_set (he : (a.nm.toList == b.nm.toList) = true) (ho : a.op = b.op) (hr : cmpW a.v b.v = 0) (hA : Vs w a.sv a.set) (hB : Vs w b.sv b.set) : Calls Tryz.prog 48 #[cc a, cc b] w (Gives (.int .i64 (cmpL cmpW a.set b.set)) w) := by
  have HX := Lib.hid (box2c w a b)
  have HW := Lib.hid (fun W => whole_any a.v b.v W)
  rw [hr] at HW
  have e1 : (a.op == b.op) = true := by simpa using ho
  have e2 : (a.op != b.op) = false := by simpa using ho
  have hla : a.set.length ≤ 3518437208883 := hA.2
  have hlb : b.set.length ≤ 3518437208883 := hB.2
  have HA := Lib.hid hA
  have HB := Lib.hid hB
  clear ho hr hA hB
  go_enter Tryz.func48, Tryz.ntmps48
  go_wp2_with fail
  refine (HW.out _).mono ?_; rintro e w1 ⟨rfl, b1⟩
  have X1 := Lib.hid (HX.out.later b1)
  clear b1 HX
  go_wp2_with fail
  go_loopw [5, 6] (fun _ i wr => ∃ k : Nat, k ≤ a.set.length ∧ k ≤ b.set.length ∧ i = .int .i64 k ∧ cmpL cmpW (a.set.drop k) (b.set.drop k) = cmpL cmpW a.set b.set ∧ Hid (Below w1.heap.size w1 wr)) (fun _ i _ => a.set.length - (intOf i).toNat)
  case atStart => exact ⟨0, Nat.zero_le _, Nat.zero_le _, rfl, rfl, Lib.hid (Below.refl _ _)⟩
  case round =>
    obtain ⟨k, hk, hk', rfl, hor, HBel⟩ := hrel
    have HO := Lib.hid hor
    clear hor
    have X2 := Lib.hid (X1.out.later HBel.out)
    have q6 := X2.out.1.cell 6 rfl
    have y6 := X2.out.2.1.cell 6 rfl
    by_cases hka : k < a.set.length
    · by_cases hkb : k < b.set.length
      · obtain ⟨p1, cap1, ba, oa, hv, hpa, hba, h4⟩ := four_at (HA.out.later X2.out.2.2).1 hka
        simp only [Value.slice.injEq] at hv
        obtain ⟨rfl, _, rfl⟩ := hv
        have hidx := idx_v1 a.sp ba oa a.set.length a.sc k hpa hka
        clear hpa
        obtain ⟨p2, cap2, bb, ob, hv, hpb, hbb, h5⟩ := four_at (HB.out.later X2.out.2.2).1 hkb
        simp only [Value.slice.injEq] at hv
        obtain ⟨rfl, _, rfl⟩ := hv
        have hidx' := idx_v1 b.sp bb ob b.set.length b.sc k hpb hkb
        clear hpb
        have HS := Lib.hid (cmpL_step (f := cmpW) hka hkb)
        obtain ⟨x, hx⟩ : ∃ x, a.set.getD k default = x := ⟨_, rfl⟩
        obtain ⟨y, hy⟩ : ∃ y, b.set.getD k default = y := ⟨_, rfl⟩
        rw [hx] at h4 HS
        rw [hy] at h5 HS
        have HC := Lib.hid (fun W => whole_any x y W)
        obtain ⟨r, hr⟩ : ∃ r, cmpW x y = r := ⟨_, rfl⟩
        rw [hr] at HC HS
        clear hx hy hr hba hbb
        have a6 := fun (z : Later wr) => Later.cell q6 z
        have b6 := fun (z : Later wr) => Later.cell y6 z
        have c0 := fun (z : Later wr) => Later.cell h4.1 z
        have c1 := fun (z : Later wr) => Later.cell h4.2.1 z
        have c2 := fun (z : Later wr) => Later.cell h4.2.2.1 z
        have c3 := fun (z : Later wr) => Later.cell h4.2.2.2 z
        have d0 := fun (z : Later wr) => Later.cell h5.1 z
        have d1 := fun (z : Later wr) => Later.cell h5.2.1 z
        have d2 := fun (z : Later wr) => Later.cell h5.2.2.1 z
        have d3 := fun (z : Later wr) => Later.cell h5.2.2.2 z
        clear h4 h5
        by_cases hz : r = 0
        · have HE : Hid (cmpL cmpW (a.set.drop (k + 1)) (b.set.drop (k + 1)) = cmpL cmpW a.set b.set) := Lib.hid (by rw [← HO.out, HS.out, if_pos hz])
          have e3 : (r == 0) = true := by simpa using hz
          have e4 : (r != 0) = false := by simpa using hz
          clear hz
          go_wp2_with fail
          refine wp_region_later (by kernel_rfl) (by kernel_rfl) ?_
          repeat (quiet_step ((first | (go_at_call 66; exact later_call _ (HC.out _)))))
          refine wpQuiet_nil ?_
          intro wz hw'
          obtain ⟨⟨_, hbz⟩, rfl⟩ := hw'
          have HBz := Lib.hid (then_ HBel.out hbz)
          clear hbz a6 b6 c0 c1 c2 c3 d0 d1 d2 d3
          go_wp2_with fail
          go_roundw
          case rel => exact ⟨k + 1, by omega, by omega, by simp, HE.out, HBz⟩
          case measure => simp [intOf]; omega
        · have HE : Hid (cmpL cmpW a.set b.set = r) := Lib.hid (by rw [← HO.out, HS.out, if_neg hz])
          have e3 : (r == 0) = false := by simpa using hz
          have e4 : (r != 0) = true := by simpa using hz
          clear hz
          go_wp2_with fail
          refine wp_region_later (by kernel_rfl) (by kernel_rfl) ?_
          repeat (quiet_step ((first | (go_at_call 66; exact later_call _ (HC.out _)))))
          refine wpQuiet_nil ?_
          intro wz hw'
          obtain ⟨⟨_, hbz⟩, rfl⟩ := hw'
          have HBz := Lib.hid (then_ X2.out.2.2 hbz)
          clear hbz a6 b6 c0 c1 c2 c3 d0 d1 d2 d3
          go_wp2_with fail
          go_ret
          exact ⟨ret_int HE.out.symm, HBz.out⟩
      · have HE : Hid (cmpL cmpW a.set b.set = 1) := Lib.hid (by rw [← HO.out, cmpL_over hka (by omega)])
        have hke : k = b.set.length := by omega
        subst hke
        have hlt : ¬ a.set.length < b.set.length := by omega
        go_wp2_with fail
        go_ret
        exact ⟨ret_int HE.out.symm, X2.out.2.2⟩
    · have hke : k = a.set.length := by omega
      have HD := Lib.hid (cmpL_done (f := cmpW) (a := a.set) (b := b.set) (k := k) (by omega))
      subst hke
      by_cases hlt : a.set.length < b.set.length
      · have HE : Hid (cmpL cmpW a.set b.set = -1) := Lib.hid (by rw [← HO.out, HD.out, if_pos hlt])
        go_wp2_with fail
        go_ret
        exact ⟨ret_int HE.out.symm, X2.out.2.2⟩
      · have HE : Hid (cmpL cmpW a.set b.set = 0) := Lib.hid (by rw [← HO.out, HD.out, if_neg hlt])
        have heq : b.set.length = a.set.length := by omega
        have hd : decide (a.set.length < b.set.length) = false := by simpa using hlt
        go_wp2_with fail
        go_ret
        exact ⟨ret_int HE.out.symm, X2.out.2.2⟩
theorem order_any (hA : Vs w a.sv a.set) (hB : Vs w b.sv b.set) : Calls Tryz.prog 48 #[cc a, cc b] w (Gives (.int .i64 (cmpC a b)) w) := by
  unfold cmpC
  rw [orL4]
  have hs := same_of a.nm b.nm
  by_cases h1 : Lib.compareBytes a.nm.data.toList b.nm.data.toList = 0
  · rw [if_pos h1]
    rw [h1] at hs
    by_cases h2 : cmpI a.op b.op = 0
    · rw [if_pos h2]
      by_cases h3 : cmpW a.v b.v = 0
      · rw [if_pos h3]; exact order_set a b w hs (int_zero h2) h3 hA hB
      · rw [if_neg h3]; exact order_v a b w hs (int_zero h2) _ rfl h3
    · rw [if_neg h2]; exact order_op a b w hs (fun e => h2 (by rw [e]; simp [cmpI]))
  · rw [if_neg h1]; exact order_nm a b w _ rfl h1
end
end Go.Proofs.YtlnjmcodgdebmaaGreat.Gm
