/- The contract of package pred's compareCons: the order of constraints. -/
import Derived.Test.YtaplgoachembdaaGreatKgv
set_option linter.unusedSimpArgs false
set_option linter.unusedVariables false
namespace Go.Proofs.YtaplgoachembdaaGreat.Gm
open Go Go.RowKit
attribute [local go_sem ↓] Go.wp_at_zero Go.wp_at_succ

set_option maxHeartbeats 8000000 in
set_option maxRecDepth 100000 in
theorem cmpcons_raw (nm : ByteArray) (op k n : Int) (s : ByteArray) (x : Bool) (sp : Option Addr) (sc : Nat) (l : List Vl) (nm' : ByteArray) (op' k' n' : Int) (s' : ByteArray) (x' : Bool) (sp' : Option Addr) (sc' : Nat) (l' : List Vl) (w : World)
    (hS : Vs w (.slice sp l.length sc) l) (hS' : Vs w (.slice sp' l'.length sc') l') (r3 : Int) (hr3 : cmpW ⟨k, n, s, x⟩ ⟨k', n', s', x'⟩ = r3) :
    Calls Tryz.prog 57 #[.agg #[.string nm, .int .i64 op, .int .i64 k, .int .i64 n, .string s, .bool x, .slice sp l.length sc], .agg #[.string nm', .int .i64 op', .int .i64 k', .int .i64 n', .string s', .bool x', .slice sp' l'.length sc']] w
      (Gives (.int .i64 (orL [Lib.compareBytes nm.data.toList nm'.data.toList, cmpI op op', r3, cmpL cmpW l l'])) w) := by
  have HN := Lib.hid (fun W => cmpStr_any nm nm' W)
  have HO := Lib.hid (fun W => cmpInt_any op op' W)
  have HV := Lib.hid (fun W => cmpvals_raw k n s x k' n' s' x' W)
  have HL := Lib.hid (fun W h h' => cmpf_v (.slice sp l.length sc) (.slice sp' l'.length sc') l l' W h h')
  change orL _ = r3 at hr3
  rw [hr3] at HV
  clear hr3
  have HS := Lib.hid hS
  have HS' := Lib.hid hS'
  clear hS hS'
  generalize Lib.compareBytes nm.data.toList nm'.data.toList = r1 at HN ⊢
  generalize cmpI op op' = r2 at HO ⊢
  generalize cmpL cmpW l l' = r4 at HL ⊢
  obtain ⟨R, hR⟩ : ∃ R, orL [r1, r2, r3, r4] = R := ⟨_, rfl⟩
  have HR := Lib.hid (fun g W h0 h1 h2 h3 => or4_any g r1 r2 r3 r4 W h0 h1 h2 h3)
  rw [hR] at HR ⊢
  clear hR
  obtain ⟨W0, hW0⟩ : ∃ W0, W0 = (w.alloc (.cells #[.string nm, .int .i64 op, .int .i64 k, .int .i64 n, .string s, .bool x, .slice sp l.length sc] 45)).alloc (.cells #[.string nm', .int .i64 op', .int .i64 k', .int .i64 n', .string s', .bool x', .slice sp' l'.length sc'] 45) := ⟨_, rfl⟩
  have k1 : Blk W0 w.heap.size 45 #[.string nm, .int .i64 op, .int .i64 k, .int .i64 n, .string s, .bool x, .slice sp l.length sc] := by rw [hW0]; exact (Blk.new _ _ _).alloc _
  have k2 : Blk W0 (w.heap.size + 1) 45 #[.string nm', .int .i64 op', .int .i64 k', .int .i64 n', .string s', .bool x', .slice sp' l'.length sc'] := by rw [hW0]; simpa using Blk.new (w.alloc (.cells #[.string nm, .int .i64 op, .int .i64 k, .int .i64 n, .string s, .bool x, .slice sp l.length sc] 45)) 45 #[.string nm', .int .i64 op', .int .i64 k', .int .i64 n', .string s', .bool x', .slice sp' l'.length sc']
  have hB0 : Below w.heap.size w W0 := by rw [hW0]; exact ((Below.refl _ w).alloc (Nat.le_refl _) _).alloc (by simp) _
  have hAll : ∀ w', Below W0.heap.size W0 w' → Below W0.heap.size W0 w' ∧ w'.cell? ⟨w.heap.size, 0, none⟩ = some (.string nm) ∧ w'.cell? ⟨w.heap.size, 1, none⟩ = some (.int .i64 op) ∧ w'.cell? ⟨w.heap.size, 2, none⟩ = some (.int .i64 k) ∧ w'.cell? ⟨w.heap.size, 3, none⟩ = some (.int .i64 n) ∧ w'.cell? ⟨w.heap.size, 4, none⟩ = some (.string s) ∧ w'.cell? ⟨w.heap.size, 5, none⟩ = some (.bool x) ∧ w'.cell? ⟨w.heap.size, 6, none⟩ = some (.slice sp l.length sc) ∧ w'.cell? ⟨w.heap.size + 1, 0, none⟩ = some (.string nm') ∧ w'.cell? ⟨w.heap.size + 1, 1, none⟩ = some (.int .i64 op') ∧ w'.cell? ⟨w.heap.size + 1, 2, none⟩ = some (.int .i64 k') ∧ w'.cell? ⟨w.heap.size + 1, 3, none⟩ = some (.int .i64 n') ∧ w'.cell? ⟨w.heap.size + 1, 4, none⟩ = some (.string s') ∧ w'.cell? ⟨w.heap.size + 1, 5, none⟩ = some (.bool x') ∧ w'.cell? ⟨w.heap.size + 1, 6, none⟩ = some (.slice sp' l'.length sc') := fun w' h => ⟨h, (k1.later h).cell 0 rfl, (k1.later h).cell 1 rfl, (k1.later h).cell 2 rfl, (k1.later h).cell 3 rfl, (k1.later h).cell 4 rfl, (k1.later h).cell 5 rfl, (k1.later h).cell 6 rfl, (k2.later h).cell 0 rfl, (k2.later h).cell 1 rfl, (k2.later h).cell 2 rfl, (k2.later h).cell 3 rfl, (k2.later h).cell 4 rfl, (k2.later h).cell 5 rfl, (k2.later h).cell 6 rfl⟩
  have HAll := Lib.hid hAll
  have HB0 := Lib.hid hB0
  have HW0 := Lib.hid hW0
  have H1 := Lib.hid (HS.out.later hB0)
  have H2 := Lib.hid (HS'.out.later hB0)
  clear hAll hB0 hW0 k1 k2 HS HS'
  go_enter Tryz.func57, Tryz.ntmps57
  go_wp2_with fail
  rw [← HW0.out]
  go_region_held3 (fun w' => Below W0.heap.size W0 w' ∧ w'.cell? ⟨w.heap.size, 0, none⟩ = some (.string nm) ∧ w'.cell? ⟨w.heap.size, 1, none⟩ = some (.int .i64 op) ∧ w'.cell? ⟨w.heap.size, 2, none⟩ = some (.int .i64 k) ∧ w'.cell? ⟨w.heap.size, 3, none⟩ = some (.int .i64 n) ∧ w'.cell? ⟨w.heap.size, 4, none⟩ = some (.string s) ∧ w'.cell? ⟨w.heap.size, 5, none⟩ = some (.bool x) ∧ w'.cell? ⟨w.heap.size, 6, none⟩ = some (.slice sp l.length sc) ∧ w'.cell? ⟨w.heap.size + 1, 0, none⟩ = some (.string nm') ∧ w'.cell? ⟨w.heap.size + 1, 1, none⟩ = some (.int .i64 op') ∧ w'.cell? ⟨w.heap.size + 1, 2, none⟩ = some (.int .i64 k') ∧ w'.cell? ⟨w.heap.size + 1, 3, none⟩ = some (.int .i64 n') ∧ w'.cell? ⟨w.heap.size + 1, 4, none⟩ = some (.string s') ∧ w'.cell? ⟨w.heap.size + 1, 5, none⟩ = some (.bool x') ∧ w'.cell? ⟨w.heap.size + 1, 6, none⟩ = some (.slice sp' l'.length sc'))
    (first | assumption | (refine HAll.out _ ?_; first | exact s22_call (by assumption) (by assumption) | exact (Below.refl _ _).drew | exact s22_alloc (by assumption) _))
    (first | (go_at_call 92; (with_reducible refine (HN.out _).mono ?_); rintro e w6 ⟨rfl, b6⟩) | (go_at_call 93; (with_reducible refine (HO.out _).mono ?_); rintro e w7 ⟨rfl, b7⟩) | (go_at_call 94; (with_reducible refine (HV.out _).mono ?_); rintro e w8 ⟨rfl, b8⟩) | (go_at_call 95; (with_reducible refine (HL.out _ (H1.out.later (And.left (by assumption))) (H2.out.later (And.left (by assumption)))).mono ?_); rintro e w9 ⟨rfl, b9⟩) | (go_at_call 91; (with_reducible refine (HR.out _ _ (by simp) (by simp) (by simp) (by simp)).mono ?_); rintro e w12 ⟨rfl, rfl⟩))
  rename_i hh
  have HEnd := Lib.hid (then_ HB0.out hh.1)
  clear hh
  go_wp2
  go_ret
  exact ⟨rfl, HEnd.out⟩
theorem cmpcons_any (a b : Cn) (w : World) (hS : Vs w a.sv a.set) (hS' : Vs w b.sv b.set) : Calls Tryz.prog 57 #[cc a, cc b] w (Gives (.int .i64 (cmpC a b)) w) :=
  cmpcons_raw a.nm a.op a.v.k a.v.n a.v.s a.v.b a.sp a.sc a.set b.nm b.op b.v.k b.v.n b.v.s b.v.b b.sp b.sc b.set w hS hS' _ rfl
end Go.Proofs.YtaplgoachembdaaGreat.Gm
