/- The contract of package pred's compareCons: the order of constraints. -/
import Derived.Test.YtlnjmcodgdebmaaGreatKf
/- The contract of slices.CompareFunc at values: one by one, the shorter one first. -/
set_option linter.unusedSimpArgs false
set_option linter.unusedVariables false
namespace Go.Proofs.YtlnjmcodgdebmaaGreat.Gm
open Go Go.RowKit
attribute [local go_sem ↓] Go.wp_at_zero Go.wp_at_succ

theorem s22_call {w W W' : World} {p : Prop} (h : Below w.heap.size w W ∧ p) (b : Below W.heap.size W W') : Below w.heap.size w W' := then_ h.1 b
theorem s22_alloc {w W : World} {p : Prop} (h : Below w.heap.size w W ∧ p) (o : Obj) : Below w.heap.size w (W.alloc o) := h.1.alloc h.1.size o
set_option maxHeartbeats 4000000 in
set_option maxRecDepth 20000 in
theorem cmpf_v (va vb : Value) (a b : List Vl) (w : World) (hA : Vs w va a) (hB : Vs w vb b) :
    Calls Tryz.prog 94 #[va, vb, .func (.func 93) #[] #[]] w (Gives (.int .i64 (cmpL cmpW a b)) w) := by
  obtain ⟨p, cap, rfl⟩ := hA.1.form
  obtain ⟨p', cap', rfl⟩ := hB.1.form
  have hla : a.length ≤ 3518437208883 := by have := hA.2; omega
  have hlb : b.length ≤ 3518437208883 := by have := hB.2; omega
  have HA := Lib.hid hA
  have HB := Lib.hid hB
  clear hA hB
  go_enter Tryz.func94, Tryz.ntmps94
  go_wp2
  go_loopw [13] (fun i wr => ∃ k : Nat, k ≤ a.length ∧ k ≤ b.length ∧ i = .int .i64 k ∧ cmpL cmpW (a.drop k) (b.drop k) = cmpL cmpW a b ∧ Below w.heap.size w wr) (fun i _ => a.length - (intOf i).toNat)
  case atStart => exact ⟨0, Nat.zero_le _, Nat.zero_le _, rfl, rfl, Below.refl _ _⟩
  case round =>
    obtain ⟨k, hk, hk', rfl, hor, hbel⟩ := hrel
    have HO := Lib.hid hor
    have HBel := Lib.hid hbel
    clear hor hbel
    by_cases hka : k < a.length
    · obtain ⟨p1, cap1, ba, oa, hv, hpa, hba, h4⟩ := four_at HA.out.1 hka
      simp only [Value.slice.injEq] at hv
      obtain ⟨rfl, _, rfl⟩ := hv
      have hidx := idx_v1 p ba oa a.length cap k hpa hka
      clear hpa
      obtain ⟨c0, c1, c2, c3⟩ := h4.later HBel.out
      by_cases hkb : k < b.length
      · obtain ⟨p2, cap2, bb, ob, hv, hpb, hbb, h5⟩ := four_at HB.out.1 hkb
        simp only [Value.slice.injEq] at hv
        obtain ⟨rfl, _, rfl⟩ := hv
        have hidx' := idx_v1 p' bb ob b.length cap' k hpb hkb
        clear hpb
        obtain ⟨d0, d1, d2, d3⟩ := h5.later HBel.out
        have HS := Lib.hid (cmpL_step (f := cmpW) hka hkb)

        obtain ⟨x, hx⟩ : ∃ x, a.getD k default = x := ⟨_, rfl⟩
        obtain ⟨y, hy⟩ : ∃ y, b.getD k default = y := ⟨_, rfl⟩
        rw [hx] at c0 c1 c2 c3 HS 
        rw [hy] at d0 d1 d2 d3 HS 

        have HBa := Lib.hid hba
        have HBb := Lib.hid hbb
        have hsz := HBel.out.size
        have hba' : ba < wr.heap.size := by omega
        have hbb' : bb < wr.heap.size := by omega
        clear hx hy h4 h5 hba hbb
        go_wp2_with fail
        refine (cmpvals_any x y _ ).mono ?_
        rintro e w1 ⟨rfl, b1⟩
        have hB1 : Below w.heap.size w w1 := then_ ((HBel.out.alloc HBel.out.size _).alloc (by simp; omega) _) b1
        have HB1 := Lib.hid hB1
        clear b1 hB1
        by_cases hz : cmpW x y = 0
        · have HE : Hid (cmpL cmpW (a.drop (k + 1)) (b.drop (k + 1)) = cmpL cmpW a b) := Lib.hid (by rw [← HO.out, HS.out, if_pos hz])
          have e1 : (cmpW x y != 0) = false := by simp [hz]
          clear hz
          go_wp2_with fail
          go_roundw
          case rel => exact ⟨k + 1, by omega, by omega, by simp, HE.out, HB1.out⟩
          case measure => simp [intOf]; omega
        · have HE : Hid (cmpL cmpW a b = cmpW x y) := Lib.hid (by rw [← HO.out, HS.out, if_neg hz])
          have e1 : (cmpW x y != 0) = true := by simpa using hz
          clear hz
          go_wp2_with fail
          go_ret
          exact ⟨ret_int HE.out.symm, HB1.out⟩
      · have HE : Hid (cmpL cmpW a b = 1) := Lib.hid (by rw [← HO.out, cmpL_over hka (by omega)])
        have hge : b.length ≤ k := by omega
        obtain ⟨x, hx⟩ : ∃ x, a.getD k default = x := ⟨_, rfl⟩
        rw [hx] at c0 c1 c2 c3
        clear hx h4 hkb
        go_wp2_with fail
        go_ret
        exact ⟨ret_int HE.out.symm, HBel.out.alloc HBel.out.size _⟩
    · have hke : k = a.length := by omega
      have HD := Lib.hid (cmpL_done (f := cmpW) (a := a) (b := b) (k := k) (by omega))
      subst hke
      by_cases hlt : a.length < b.length
      · have HE : Hid (cmpL cmpW a b = -1) := Lib.hid (by rw [← HO.out, HD.out, if_pos hlt])
        go_wp2
        go_ret
        exact ⟨ret_int HE.out.symm, HBel.out⟩
      · have HE : Hid (cmpL cmpW a b = 0) := Lib.hid (by rw [← HO.out, HD.out, if_neg hlt])
        have hd : decide (a.length < b.length) = false := by simpa using hlt
        go_wp2
        go_ret
        exact ⟨ret_int HE.out.symm, HBel.out⟩
end Go.Proofs.YtlnjmcodgdebmaaGreat.Gm
set_option linter.unusedSimpArgs false
set_option linter.unusedVariables false
namespace Go.Proofs.YtlnjmcodgdebmaaGreat.Gm
open Go Go.RowKit
attribute [local go_sem ↓] Go.wp_at_zero Go.wp_at_succ

set_option maxHeartbeats 8000000 in
set_option maxRecDepth 100000 in
theorem cmpcons_raw (nm : ByteArray) (op k n : Int) (s : ByteArray) (x : Bool) (sp : Option Addr) (sc : Nat) (l : List Vl) (nm' : ByteArray) (op' k' n' : Int) (s' : ByteArray) (x' : Bool) (sp' : Option Addr) (sc' : Nat) (l' : List Vl) (w : World)
    (hS : Vs w (.slice sp l.length sc) l) (hS' : Vs w (.slice sp' l'.length sc') l') (r3 : Int) (hr3 : cmpW ⟨k, n, s, x⟩ ⟨k', n', s', x'⟩ = r3) :
    Calls Tryz.prog 56 #[.agg #[.string nm, .int .i64 op, .int .i64 k, .int .i64 n, .string s, .bool x, .slice sp l.length sc], .agg #[.string nm', .int .i64 op', .int .i64 k', .int .i64 n', .string s', .bool x', .slice sp' l'.length sc']] w
      (Gives (.int .i64 (orL [Lib.compareBytes nm.data.toList nm'.data.toList, cmpI op op', r3, cmpL cmpW l l'])) w) := by
  have HN := Lib.hid (fun W => cmpStr_any nm nm' W)
  have HO := Lib.hid (fun W => cmpInt_any op op' W)
  have HV := Lib.hid (fun W => cmpvals_raw k n s x k' n' s' x' W)
  have HL := Lib.hid (fun W h h' => cmpf_v (.slice sp l.length sc) (.slice sp' l'.length sc') l l' W h h')
  change orL _ = r3 at hr3
  rw [hr3] at HV
  clear hr3
  have HS := Lib.hid hS
  have HS' := Lib.hid hS'
  clear hS hS'
  generalize Lib.compareBytes nm.data.toList nm'.data.toList = r1 at HN ⊢
  generalize cmpI op op' = r2 at HO ⊢
  generalize cmpL cmpW l l' = r4 at HL ⊢
  obtain ⟨R, hR⟩ : ∃ R, orL [r1, r2, r3, r4] = R := ⟨_, rfl⟩
  have HR := Lib.hid (fun g W h0 h1 h2 h3 => or4_any g r1 r2 r3 r4 W h0 h1 h2 h3)
  rw [hR] at HR ⊢
  clear hR
  obtain ⟨W0, hW0⟩ : ∃ W0, W0 = (w.alloc (.cells #[.string nm, .int .i64 op, .int .i64 k, .int .i64 n, .string s, .bool x, .slice sp l.length sc] 45)).alloc (.cells #[.string nm', .int .i64 op', .int .i64 k', .int .i64 n', .string s', .bool x', .slice sp' l'.length sc'] 45) := ⟨_, rfl⟩
  have k1 : Blk W0 w.heap.size 45 #[.string nm, .int .i64 op, .int .i64 k, .int .i64 n, .string s, .bool x, .slice sp l.length sc] := by rw [hW0]; exact (Blk.new _ _ _).alloc _
  have k2 : Blk W0 (w.heap.size + 1) 45 #[.string nm', .int .i64 op', .int .i64 k', .int .i64 n', .string s', .bool x', .slice sp' l'.length sc'] := by rw [hW0]; simpa using Blk.new (w.alloc (.cells #[.string nm, .int .i64 op, .int .i64 k, .int .i64 n, .string s, .bool x, .slice sp l.length sc] 45)) 45 #[.string nm', .int .i64 op', .int .i64 k', .int .i64 n', .string s', .bool x', .slice sp' l'.length sc']
  have hB0 : Below w.heap.size w W0 := by rw [hW0]; exact ((Below.refl _ w).alloc (Nat.le_refl _) _).alloc (by simp) _
  have hAll : ∀ w', Below W0.heap.size W0 w' → Below W0.heap.size W0 w' ∧ w'.cell? ⟨w.heap.size, 0, none⟩ = some (.string nm) ∧ w'.cell? ⟨w.heap.size, 1, none⟩ = some (.int .i64 op) ∧ w'.cell? ⟨w.heap.size, 2, none⟩ = some (.int .i64 k) ∧ w'.cell? ⟨w.heap.size, 3, none⟩ = some (.int .i64 n) ∧ w'.cell? ⟨w.heap.size, 4, none⟩ = some (.string s) ∧ w'.cell? ⟨w.heap.size, 5, none⟩ = some (.bool x) ∧ w'.cell? ⟨w.heap.size, 6, none⟩ = some (.slice sp l.length sc) ∧ w'.cell? ⟨w.heap.size + 1, 0, none⟩ = some (.string nm') ∧ w'.cell? ⟨w.heap.size + 1, 1, none⟩ = some (.int .i64 op') ∧ w'.cell? ⟨w.heap.size + 1, 2, none⟩ = some (.int .i64 k') ∧ w'.cell? ⟨w.heap.size + 1, 3, none⟩ = some (.int .i64 n') ∧ w'.cell? ⟨w.heap.size + 1, 4, none⟩ = some (.string s') ∧ w'.cell? ⟨w.heap.size + 1, 5, none⟩ = some (.bool x') ∧ w'.cell? ⟨w.heap.size + 1, 6, none⟩ = some (.slice sp' l'.length sc') := fun w' h => ⟨h, (k1.later h).cell 0 rfl, (k1.later h).cell 1 rfl, (k1.later h).cell 2 rfl, (k1.later h).cell 3 rfl, (k1.later h).cell 4 rfl, (k1.later h).cell 5 rfl, (k1.later h).cell 6 rfl, (k2.later h).cell 0 rfl, (k2.later h).cell 1 rfl, (k2.later h).cell 2 rfl, (k2.later h).cell 3 rfl, (k2.later h).cell 4 rfl, (k2.later h).cell 5 rfl, (k2.later h).cell 6 rfl⟩
  have HAll := Lib.hid hAll
  have HB0 := Lib.hid hB0
  have HW0 := Lib.hid hW0
  have H1 := Lib.hid (HS.out.later hB0)
  have H2 := Lib.hid (HS'.out.later hB0)
  clear hAll hB0 hW0 k1 k2 HS HS'
  go_enter Tryz.func56, Tryz.ntmps56
  go_wp2_with fail
  rw [← HW0.out]
  go_region_held3 (fun w' => Below W0.heap.size W0 w' ∧ w'.cell? ⟨w.heap.size, 0, none⟩ = some (.string nm) ∧ w'.cell? ⟨w.heap.size, 1, none⟩ = some (.int .i64 op) ∧ w'.cell? ⟨w.heap.size, 2, none⟩ = some (.int .i64 k) ∧ w'.cell? ⟨w.heap.size, 3, none⟩ = some (.int .i64 n) ∧ w'.cell? ⟨w.heap.size, 4, none⟩ = some (.string s) ∧ w'.cell? ⟨w.heap.size, 5, none⟩ = some (.bool x) ∧ w'.cell? ⟨w.heap.size, 6, none⟩ = some (.slice sp l.length sc) ∧ w'.cell? ⟨w.heap.size + 1, 0, none⟩ = some (.string nm') ∧ w'.cell? ⟨w.heap.size + 1, 1, none⟩ = some (.int .i64 op') ∧ w'.cell? ⟨w.heap.size + 1, 2, none⟩ = some (.int .i64 k') ∧ w'.cell? ⟨w.heap.size + 1, 3, none⟩ = some (.int .i64 n') ∧ w'.cell? ⟨w.heap.size + 1, 4, none⟩ = some (.string s') ∧ w'.cell? ⟨w.heap.size + 1, 5, none⟩ = some (.bool x') ∧ w'.cell? ⟨w.heap.size + 1, 6, none⟩ = some (.slice sp' l'.length sc'))
    (first | assumption | (refine HAll.out _ ?_; first | exact s22_call (by assumption) (by assumption) | exact (Below.refl _ _).drew | exact s22_alloc (by assumption) _))
    (first | (go_at_call 91; (with_reducible refine (HN.out _).mono ?_); rintro e w6 ⟨rfl, b6⟩) | (go_at_call 92; (with_reducible refine (HO.out _).mono ?_); rintro e w7 ⟨rfl, b7⟩) | (go_at_call 93; (with_reducible refine (HV.out _).mono ?_); rintro e w8 ⟨rfl, b8⟩) | (go_at_call 94; (with_reducible refine (HL.out _ (H1.out.later (And.left (by assumption))) (H2.out.later (And.left (by assumption)))).mono ?_); rintro e w9 ⟨rfl, b9⟩) | (go_at_call 90; (with_reducible refine (HR.out _ _ (by simp) (by simp) (by simp) (by simp)).mono ?_); rintro e w12 ⟨rfl, rfl⟩))
  rename_i hh
  have HEnd := Lib.hid (then_ HB0.out hh.1)
  clear hh
  go_wp2
  go_ret
  exact ⟨rfl, HEnd.out⟩
theorem cmpcons_any (a b : Cn) (w : World) (hS : Vs w a.sv a.set) (hS' : Vs w b.sv b.set) : Calls Tryz.prog 56 #[cc a, cc b] w (Gives (.int .i64 (cmpC a b)) w) :=
  cmpcons_raw a.nm a.op a.v.k a.v.n a.v.s a.v.b a.sp a.sc a.set b.nm b.op b.v.k b.v.n b.v.s b.v.b b.sp b.sc b.set w hS hS' _ rfl
end Go.Proofs.YtlnjmcodgdebmaaGreat.Gm
