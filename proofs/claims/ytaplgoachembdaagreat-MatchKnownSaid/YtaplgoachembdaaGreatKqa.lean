/- The contracts of package pred's Normal. -/
import Derived.Test.YtaplgoachembdaaGreatKh
import Derived.Test.YtaplgoachembdaaGreatKiv
import Derived.IntWalk
import Derived.Test.YtaplgoachembdaaGreatKkc
import Derived.Test.YtaplgoachembdaaGreatKlv
import Derived.Test.YtaplgoachembdaaGreatKm
import Derived.Test.YtaplgoachembdaaGreatKp
/- The contract of slices.BinarySearchFunc at constraints in order, with package pred's own order. -/
set_option linter.unusedSimpArgs false
set_option linter.unusedVariables false
namespace Go.Proofs.YtaplgoachembdaaGreat.Gm
open Go Go.RowKit
attribute [local go_sem ↓] Go.wp_at_zero Go.wp_at_succ

/-- What the search leaves: a place. -/
def Foundc (l : List Cn) (x : Cn) (w : World) (e : Ending) (w' : World) : Prop := ∃ p : Nat, Place cmpC l x p ∧ e = .returned (.tuple #[.int .i64 p, .bool (hitB cmpC l x p)]) ∧ Below w.heap.size w w'

/-- Two elements in memory, in whatever world comes later. -/
theorem holdc {W : World} {g b o : Nat} {x y : Cn} (h1 : Seven W g 0 x) (h2 : Seven W b o y) (w' : World) (h : Below W.heap.size W w') : Below W.heap.size W w' ∧ w'.cell? ⟨g, 0, none⟩ = some (.string x.nm) ∧ w'.cell? ⟨g, 1, none⟩ = some (.int .i64 x.op) ∧ w'.cell? ⟨g, 2, none⟩ = some (.int .i64 x.v.k) ∧ w'.cell? ⟨g, 3, none⟩ = some (.int .i64 x.v.n) ∧ w'.cell? ⟨g, 4, none⟩ = some (.string x.v.s) ∧ w'.cell? ⟨g, 5, none⟩ = some (.bool x.v.b) ∧ w'.cell? ⟨g, 6, none⟩ = some (.slice x.sp x.set.length x.sc) ∧ w'.cell? ⟨b, o, none⟩ = some (.string y.nm) ∧ w'.cell? ⟨b, o + 1, none⟩ = some (.int .i64 y.op) ∧ w'.cell? ⟨b, o + 2, none⟩ = some (.int .i64 y.v.k) ∧ w'.cell? ⟨b, o + 3, none⟩ = some (.int .i64 y.v.n) ∧ w'.cell? ⟨b, o + 4, none⟩ = some (.string y.v.s) ∧ w'.cell? ⟨b, o + 5, none⟩ = some (.bool y.v.b) ∧ w'.cell? ⟨b, o + 6, none⟩ = some (.slice y.sp y.set.length y.sc) := by
  obtain ⟨c0, c1, c2, c3, c4, c5, c6⟩ := h1.later h
  obtain ⟨d0, d1, d2, d3, d4, d5, d6⟩ := h2.later h
  exact ⟨h, c0, c1, c2, c3, c4, c5, c6, d0, d1, d2, d3, d4, d5, d6⟩
set_option maxHeartbeats 8000000 in
set_option maxRecDepth 100000 in
theorem bsearch_c (v : Value) (l : List Cn) (x : Cn) (w : World) (hA : Cs w v l) (hr : Rising cmpC l) (hX : Vs w x.sv x.set) :
    Calls Tryz.prog 102 #[v, cc x, .func (.func 57) #[] #[]] w (Foundc l x w) := by
  obtain ⟨p, cap, rfl⟩ := hA.1.form
  have hla : l.length ≤ 3518437208883 := by have := hA.2; omega
  have HA := Lib.hid hA
  have HR := Lib.hid hr

  have HX := Lib.hid hX
  clear hX

  clear hA hr
  obtain ⟨W0, hW0⟩ : ∃ W0, W0 = w.alloc (.cells #[.string x.nm, .int .i64 x.op, .int .i64 x.v.k, .int .i64 x.v.n, .string x.v.s, .bool x.v.b, .slice x.sp x.set.length x.sc] 45) := ⟨_, rfl⟩
  have hx4 : Seven W0 w.heap.size 0 x := by
    have h : Blk W0 w.heap.size 45 #[.string x.nm, .int .i64 x.op, .int .i64 x.v.k, .int .i64 x.v.n, .string x.v.s, .bool x.v.b, .slice x.sp x.set.length x.sc] := by rw [hW0]; exact Blk.new _ _ _
    refine ⟨h.cell 0 rfl, h.cell 1 rfl, h.cell 2 rfl, h.cell 3 rfl, h.cell 4 rfl, h.cell 5 rfl, h.cell 6 rfl⟩
  have HX4 := Lib.hid hx4
  have HB0 : Hid (Below w.heap.size w W0) := Lib.hid (by rw [hW0]; exact below_one _ _)
  have HW0 := Lib.hid hW0
  clear hW0 hx4
  go_enter Tryz.func102, Tryz.ntmps102
  go_wp2
  rw [← HW0.out]
  go_loopg [9, 10] l.length (fun kx s9 s10 wr => ∃ lo hi : Nat, s9 = .int .i64 lo ∧ s10 = .int .i64 hi ∧ lo ≤ hi ∧ hi ≤ l.length ∧ hi - lo ≤ kx ∧ Hid (Between cmpC l x lo hi) ∧ Hid (Below W0.heap.size W0 wr))
  case atStart => exact ⟨0, l.length, rfl, rfl, Nat.zero_le _, Nat.le_refl _, by omega, Lib.hid ⟨Nat.zero_le _, Nat.le_refl _, fun t ht => absurd ht (Nat.not_lt_zero _), fun t h1 h2 => by omega⟩, Lib.hid (Below.refl _ _)⟩
  case round =>
    obtain ⟨lo, hi, rfl, rfl, hlh, hin, hg, HI, HBel⟩ := hrel
    by_cases hlt : lo < hi
    · have hml : (lo + hi) / 2 < l.length := by omega
      obtain ⟨p1, cap1, b, o, hv, hp, hb, h4⟩ := seven_at HA.out.1 hml
      simp only [Value.slice.injEq] at hv
      obtain ⟨rfl, _, rfl⟩ := hv
      have hidx : ∀ W, (Instr.indexAt 95 (.slice p l.length cap) (.int .i64 (((lo : Int) + (hi : Int)) / 2))).run Tryz.prog W = .ok (.pointer (some ⟨b, o + (lo + hi) / 2 * 7, none⟩)) W := fun W => by
        rw [show ((lo : Int) + (hi : Int)) / 2 = (((lo + hi) / 2 : Nat) : Int) by omega]; exact idx_c2 p b o l.length cap ((lo + hi) / 2) hp hml W
      have hBw := then_ HB0.out HBel.out

      have HSy := Lib.hid ((HA.out.at hml).later hBw)
      have HSx := Lib.hid (HX.out.later hBw)

      have hAll := holdc (HX4.out.later HBel.out) (h4.later hBw)
      have HLow := Lib.hid (fun h => HI.out.low weakC HR.out (h := (lo + hi) / 2) (by omega) (by omega) h)
      have HHigh := Lib.hid (fun h => HI.out.high weakC HR.out (h := (lo + hi) / 2) (by omega) (by omega) h)
      obtain ⟨y, hy⟩ : ∃ y, l.getD ((lo + hi) / 2) default = y := ⟨_, rfl⟩
      rw [hy] at hAll HLow HHigh HSy
      have HAll := Lib.hid hAll
      have HC := Lib.hid (fun W h h' => cmpcons_any y x W h h')
      obtain ⟨r, hrr⟩ : ∃ r, cmpC y x = r := ⟨_, rfl⟩
      rw [hrr] at HC HLow HHigh
      clear hy hp h4 hAll hBw hrr hb
      go_wp2_with fail
      by_cases hrx : r < 0
      · have HT := Lib.hid (HLow.out hrx)
        have hd : decide (r < 0) = true := by simpa using hrx
        go_region_held3 (fun w' => Below wr.heap.size wr w' ∧ w'.cell? ⟨w.heap.size, 0, none⟩ = some (.string x.nm) ∧ w'.cell? ⟨w.heap.size, 1, none⟩ = some (.int .i64 x.op) ∧ w'.cell? ⟨w.heap.size, 2, none⟩ = some (.int .i64 x.v.k) ∧ w'.cell? ⟨w.heap.size, 3, none⟩ = some (.int .i64 x.v.n) ∧ w'.cell? ⟨w.heap.size, 4, none⟩ = some (.string x.v.s) ∧ w'.cell? ⟨w.heap.size, 5, none⟩ = some (.bool x.v.b) ∧ w'.cell? ⟨w.heap.size, 6, none⟩ = some (.slice x.sp x.set.length x.sc) ∧ w'.cell? ⟨b, o + (lo + hi) / 2 * 7, none⟩ = some (.string y.nm) ∧ w'.cell? ⟨b, o + (lo + hi) / 2 * 7 + 1, none⟩ = some (.int .i64 y.op) ∧ w'.cell? ⟨b, o + (lo + hi) / 2 * 7 + 2, none⟩ = some (.int .i64 y.v.k) ∧ w'.cell? ⟨b, o + (lo + hi) / 2 * 7 + 3, none⟩ = some (.int .i64 y.v.n) ∧ w'.cell? ⟨b, o + (lo + hi) / 2 * 7 + 4, none⟩ = some (.string y.v.s) ∧ w'.cell? ⟨b, o + (lo + hi) / 2 * 7 + 5, none⟩ = some (.bool y.v.b) ∧ w'.cell? ⟨b, o + (lo + hi) / 2 * 7 + 6, none⟩ = some (.slice y.sp y.set.length y.sc))
          (first | assumption | (refine HAll.out _ ?_; first | exact s22_call (by assumption) (by assumption) | exact (Below.refl _ _).drew | exact s22_alloc (by assumption) _))
          (first | (go_at_call 57; (with_reducible refine (HC.out _ (HSy.out.later (And.left (by assumption))) (HSx.out.later (And.left (by assumption)))).mono ?_); rintro e w6 ⟨rfl, b6⟩))
        rename_i hh
        have HB1 := Lib.hid (then_ HBel.out hh.1)
        clear hh
        go_wp2_with fail
        go_roundg (hi - ((lo + hi) / 2 + 1))
        case measure => omega
        case rel => exact ⟨(lo + hi) / 2 + 1, hi, by rw [show ((lo : Int) + (hi : Int)) / 2 + 1 = (((lo + hi) / 2 + 1 : Nat) : Int) by omega], rfl, by omega, hin, Nat.le_refl _, HT, HB1⟩
      · have HT := Lib.hid (HHigh.out (by omega))
        have hd : decide (r < 0) = false := by simpa using hrx
        go_region_held3 (fun w' => Below wr.heap.size wr w' ∧ w'.cell? ⟨w.heap.size, 0, none⟩ = some (.string x.nm) ∧ w'.cell? ⟨w.heap.size, 1, none⟩ = some (.int .i64 x.op) ∧ w'.cell? ⟨w.heap.size, 2, none⟩ = some (.int .i64 x.v.k) ∧ w'.cell? ⟨w.heap.size, 3, none⟩ = some (.int .i64 x.v.n) ∧ w'.cell? ⟨w.heap.size, 4, none⟩ = some (.string x.v.s) ∧ w'.cell? ⟨w.heap.size, 5, none⟩ = some (.bool x.v.b) ∧ w'.cell? ⟨w.heap.size, 6, none⟩ = some (.slice x.sp x.set.length x.sc) ∧ w'.cell? ⟨b, o + (lo + hi) / 2 * 7, none⟩ = some (.string y.nm) ∧ w'.cell? ⟨b, o + (lo + hi) / 2 * 7 + 1, none⟩ = some (.int .i64 y.op) ∧ w'.cell? ⟨b, o + (lo + hi) / 2 * 7 + 2, none⟩ = some (.int .i64 y.v.k) ∧ w'.cell? ⟨b, o + (lo + hi) / 2 * 7 + 3, none⟩ = some (.int .i64 y.v.n) ∧ w'.cell? ⟨b, o + (lo + hi) / 2 * 7 + 4, none⟩ = some (.string y.v.s) ∧ w'.cell? ⟨b, o + (lo + hi) / 2 * 7 + 5, none⟩ = some (.bool y.v.b) ∧ w'.cell? ⟨b, o + (lo + hi) / 2 * 7 + 6, none⟩ = some (.slice y.sp y.set.length y.sc))
          (first | assumption | (refine HAll.out _ ?_; first | exact s22_call (by assumption) (by assumption) | exact (Below.refl _ _).drew | exact s22_alloc (by assumption) _))
          (first | (go_at_call 57; (with_reducible refine (HC.out _ (HSy.out.later (And.left (by assumption))) (HSx.out.later (And.left (by assumption)))).mono ?_); rintro e w6 ⟨rfl, b6⟩))
        rename_i hh
        have HB1 := Lib.hid (then_ HBel.out hh.1)
        clear hh
        go_wp2_with fail
        go_roundg ((lo + hi) / 2 - lo)
        case measure => omega
        case rel => exact ⟨lo, (lo + hi) / 2, rfl, by rw [show ((lo : Int) + (hi : Int)) / 2 = (((lo + hi) / 2 : Nat) : Int) by omega], by omega, by omega, Nat.le_refl _, HT, HB1⟩
    · obtain rfl : hi = lo := by omega
      have HPl := Lib.hid (HI.out.place (Nat.le_refl _))
      have HHit : Hid (hitB cmpC l x hi = (decide (hi < l.length) && decide (cmpC (l.getD hi default) x = 0))) := Lib.hid rfl
      by_cases hn : hi < l.length
      · obtain ⟨p1, cap1, b, o, hv, hp, hb, h4⟩ := seven_at HA.out.1 hn
        simp only [Value.slice.injEq] at hv
        obtain ⟨rfl, _, rfl⟩ := hv
        have hidx := idx_c2 p b o l.length cap hi hp hn
        have hBw := then_ HB0.out HBel.out

        have HSy := Lib.hid ((HA.out.at hn).later hBw)
        have HSx := Lib.hid (HX.out.later hBw)

        have hAll := holdc (HX4.out.later HBel.out) (h4.later hBw)
        have hdn : decide (hi < l.length) = true := by simpa using hn
        rw [hdn, Bool.true_and] at HHit
        obtain ⟨y, hy⟩ : ∃ y, l.getD hi default = y := ⟨_, rfl⟩
        rw [hy] at hAll HHit HSy
        have HAll := Lib.hid hAll
        have HC := Lib.hid (fun W h h' => cmpcons_any y x W h h')
        obtain ⟨r, hrr⟩ : ∃ r, cmpC y x = r := ⟨_, rfl⟩
        rw [hrr] at HC HHit
        clear hy hp h4 hAll hBw hrr hb HI
        go_wp2_with fail
        by_cases hr0 : r = 0
        · have HF : Hid (hitB cmpC l x hi = true) := Lib.hid (by rw [HHit.out]; simpa using hr0)
          have hd : (r == 0) = true := by simpa using hr0
          clear hr0
          go_region_held3 (fun w' => Below wr.heap.size wr w' ∧ w'.cell? ⟨w.heap.size, 0, none⟩ = some (.string x.nm) ∧ w'.cell? ⟨w.heap.size, 1, none⟩ = some (.int .i64 x.op) ∧ w'.cell? ⟨w.heap.size, 2, none⟩ = some (.int .i64 x.v.k) ∧ w'.cell? ⟨w.heap.size, 3, none⟩ = some (.int .i64 x.v.n) ∧ w'.cell? ⟨w.heap.size, 4, none⟩ = some (.string x.v.s) ∧ w'.cell? ⟨w.heap.size, 5, none⟩ = some (.bool x.v.b) ∧ w'.cell? ⟨w.heap.size, 6, none⟩ = some (.slice x.sp x.set.length x.sc) ∧ w'.cell? ⟨b, o + hi * 7, none⟩ = some (.string y.nm) ∧ w'.cell? ⟨b, o + hi * 7 + 1, none⟩ = some (.int .i64 y.op) ∧ w'.cell? ⟨b, o + hi * 7 + 2, none⟩ = some (.int .i64 y.v.k) ∧ w'.cell? ⟨b, o + hi * 7 + 3, none⟩ = some (.int .i64 y.v.n) ∧ w'.cell? ⟨b, o + hi * 7 + 4, none⟩ = some (.string y.v.s) ∧ w'.cell? ⟨b, o + hi * 7 + 5, none⟩ = some (.bool y.v.b) ∧ w'.cell? ⟨b, o + hi * 7 + 6, none⟩ = some (.slice y.sp y.set.length y.sc))
            (first | assumption | (refine HAll.out _ ?_; first | exact s22_call (by assumption) (by assumption) | exact (Below.refl _ _).drew | exact s22_alloc (by assumption) _))
            (first | (go_at_call 57; (with_reducible refine (HC.out _ (HSy.out.later (And.left (by assumption))) (HSx.out.later (And.left (by assumption)))).mono ?_); rintro e w6 ⟨rfl, b6⟩))
          rename_i hh
          have HB1 := Lib.hid (then_ HBel.out hh.1)
          clear hh
          go_wp2_with fail
          go_ret2
          exact ⟨hi, HPl.out, by (first | (rw [HF.out]; done) | (rw [HF.out]; rfl)), then_ HB0.out HB1.out⟩
        · have HF : Hid (hitB cmpC l x hi = false) := Lib.hid (by rw [HHit.out]; simpa using hr0)
          have hd : (r == 0) = false := by simpa using hr0
          clear hr0
          go_region_held3 (fun w' => Below wr.heap.size wr w' ∧ w'.cell? ⟨w.heap.size, 0, none⟩ = some (.string x.nm) ∧ w'.cell? ⟨w.heap.size, 1, none⟩ = some (.int .i64 x.op) ∧ w'.cell? ⟨w.heap.size, 2, none⟩ = some (.int .i64 x.v.k) ∧ w'.cell? ⟨w.heap.size, 3, none⟩ = some (.int .i64 x.v.n) ∧ w'.cell? ⟨w.heap.size, 4, none⟩ = some (.string x.v.s) ∧ w'.cell? ⟨w.heap.size, 5, none⟩ = some (.bool x.v.b) ∧ w'.cell? ⟨w.heap.size, 6, none⟩ = some (.slice x.sp x.set.length x.sc) ∧ w'.cell? ⟨b, o + hi * 7, none⟩ = some (.string y.nm) ∧ w'.cell? ⟨b, o + hi * 7 + 1, none⟩ = some (.int .i64 y.op) ∧ w'.cell? ⟨b, o + hi * 7 + 2, none⟩ = some (.int .i64 y.v.k) ∧ w'.cell? ⟨b, o + hi * 7 + 3, none⟩ = some (.int .i64 y.v.n) ∧ w'.cell? ⟨b, o + hi * 7 + 4, none⟩ = some (.string y.v.s) ∧ w'.cell? ⟨b, o + hi * 7 + 5, none⟩ = some (.bool y.v.b) ∧ w'.cell? ⟨b, o + hi * 7 + 6, none⟩ = some (.slice y.sp y.set.length y.sc))
            (first | assumption | (refine HAll.out _ ?_; first | exact s22_call (by assumption) (by assumption) | exact (Below.refl _ _).drew | exact s22_alloc (by assumption) _))
            (first | (go_at_call 57; (with_reducible refine (HC.out _ (HSy.out.later (And.left (by assumption))) (HSx.out.later (And.left (by assumption)))).mono ?_); rintro e w6 ⟨rfl, b6⟩))
          rename_i hh
          have HB1 := Lib.hid (then_ HBel.out hh.1)
          clear hh
          go_wp2_with fail
          go_ret2
          exact ⟨hi, HPl.out, by (first | (rw [HF.out]; done) | (rw [HF.out]; rfl)), then_ HB0.out HB1.out⟩
      · have hdn : decide (hi < l.length) = false := by simpa using hn
        have HF : Hid (hitB cmpC l x hi = false) := Lib.hid (by rw [HHit.out, hdn]; rfl)
        clear HHit HI
        go_wp2_with fail
        go_quiet (fail)
        go_wp2_with fail
        go_ret2
        exact ⟨hi, HPl.out, by (first | (rw [HF.out]; done) | (rw [HF.out]; rfl)), then_ HB0.out (bel_drewN HBel.out _)⟩
end Go.Proofs.YtaplgoachembdaaGreat.Gm
/- The contract of package pred's gather at constraints: each one's Set is put in order, then they are. -/
/- The contract of package pred's put at constraints: a row in order takes one more. -/
set_option linter.unusedSimpArgs false
set_option linter.unusedVariables false
namespace Go.Proofs.YtaplgoachembdaaGreat.Gm
open Go Go.RowKit
attribute [local go_sem ↓] Go.wp_at_zero Go.wp_at_succ

set_option maxHeartbeats 4000000 in
set_option maxRecDepth 100000 in
theorem put_c (base : Nat) (v : Value) (l : List Cn) (x : Cn) (w : World) (hO : w.ownsRow base 45 7 v l.length (l.flatMap encC)) (hA : Cs w v l) (hr : Rising cmpC l) (hbase : base ≤ w.heap.size) (hl : l.length ≤ 1000000) (hX : Vs w x.sv x.set) :
    Calls Tryz.prog 64 #[v, cc x, .func (.func 57) #[] #[]] w (Puts cmpC encC 45 7 base v l x w) := by
  obtain ⟨p0, cap0, rfl⟩ := own_shape hO
  obtain ⟨W0, hW0⟩ : ∃ W0, W0 = w.alloc (.cells #[.string x.nm, .int .i64 x.op, .int .i64 x.v.k, .int .i64 x.v.n, .string x.v.s, .bool x.v.b, .slice x.sp x.set.length x.sc] 45) := ⟨_, rfl⟩
  have hB0 : Below w.heap.size w W0 := by rw [hW0]; exact below_one _ _
  have hx : Blk W0 w.heap.size 45 #[.string x.nm, .int .i64 x.op, .int .i64 x.v.k, .int .i64 x.v.n, .string x.v.s, .bool x.v.b, .slice x.sp x.set.length x.sc] := by rw [hW0]; exact Blk.new _ _ _
  have HS := Lib.hid (bsearch_c (.slice p0 l.length cap0) l x W0 (hA.later hB0) hr (hX.later hB0))
  have HO := Lib.hid hO
  have HB0 := Lib.hid hB0
  have HX := Lib.hid hx
  have HW0 := Lib.hid hW0
  clear hA hr hO hB0 hx hW0 hX
  go_enter Tryz.func64, Tryz.ntmps64
  go_wp2_with fail
  rw [← HW0.out]
  refine HS.out.mono ?_; rintro e w1 ⟨p, hP, rfl, b1⟩
  have HPl := Lib.hid (place_ins hP)
  have hpl : p ≤ l.length := hP.1
  have HX1 := Lib.hid (HX.out.later b1)
  have HB1 := Lib.hid (then_ HB0.out b1)
  obtain ⟨h, hh⟩ : ∃ h, hitB cmpC l x p = h := ⟨_, rfl⟩
  rw [hh] at HPl ⊢
  clear hP hh b1
  cases h with
  | true =>
    go_wp2_with fail
    go_ret
    refine ⟨.slice p0 l.length cap0, rfl, ?_, grown_below HB1.out _⟩
    rw [HPl.out.1 (by trivial)]
    exact own_later HO.out HB1.out
  | false =>
    have hxc : Seven w1 w.heap.size 0 x := ⟨HX1.out.cell 0 rfl, HX1.out.cell 1 rfl, HX1.out.cell 2 rfl, HX1.out.cell 3 rfl, HX1.out.cell 4 rfl, HX1.out.cell 5 rfl, HX1.out.cell 6 rfl⟩
    obtain ⟨c0, c1, c2, c3, c4, c5, c6⟩ := hxc
    go_wp2_with fail
    refine (ins_c base _ l p x _ w1.heap.size (Blk.new w1 _ _) ((own_later HO.out HB1.out).alloc _) ?_ hl hpl ?_).mono ?_
    · have := HB1.out.size; simp; omega
    · intro hv
      have := (World.ownsRow.lt HO.out _ hv).2
      have := HB1.out.size; omega
    · rintro e w2 ⟨v2, rfl, hO2, hg2⟩
      have HO2 := Lib.hid hO2
      have HG2 := Lib.hid (grown_then (HB1.out.alloc HB1.out.size _) hg2)
      clear hO2 hg2
      go_wp2_with fail
      go_ret
      have hE := HPl.out.2 (by trivial)
      have hLen : (insL cmpC l x).length = l.length + 1 := by rw [hE]; simp; omega
      exact ⟨v2, rfl, by rw [hLen, hE]; exact HO2.out, HG2.out⟩
end Go.Proofs.YtaplgoachembdaaGreat.Gm
set_option linter.unusedSimpArgs false
set_option linter.unusedVariables false
namespace Go.Proofs.YtaplgoachembdaaGreat.Gm
open Go Go.RowKit
attribute [local go_sem ↓] Go.wp_at_zero Go.wp_at_succ

/-- A constraint whose Set is in order, at another place. -/
def seated (c : Cn) (sp : Option Addr) (sc : Nat) : Cn := ⟨c.nm, c.op, c.v, sp, sc, sortL cmpW c.set⟩
/-- What 'with' leaves: the row has taken the constraint, its Set in order. -/
def PutsC (base : Nat) (v : Value) (l : List Cn) (c : Cn) (w : World) (e : Ending) (w' : World) : Prop :=
  ∃ p cap sp sc, e = .returned (.slice p (insL cmpC l (seated c sp sc)).length cap) ∧ OwnC w' base (.slice p (insL cmpC l (seated c sp sc)).length cap) (insL cmpC l (seated c sp sc)) ∧ w.grownBy w' v.ownBlock
theorem OwnV.keptC {w w' : World} {base : Nat} {v vr : Value} {l : List Vl} {m : Nat} {xs : List Value} (h : OwnV w base v l) (hr : w.ownsRow base 45 7 vr m xs) (hg : w.grownBy w' vr.ownBlock) : OwnV w' base v l :=
  World.ownsRow.kept h hg (own_apart h hr (by decide))
theorem OwnC.taken {w w' : World} {base : Nat} {v v' : Value} {l : List Cn} {x : Cn} (h : OwnC w base v l) (hx : OwnV w base x.sv x.set) (hg : w.grownBy w' v.ownBlock) (hn : w'.ownsRow base 45 7 v' (insL cmpC l x).length ((insL cmpC l x).flatMap encC)) : OwnC w' base v' (insL cmpC l x) := by
  refine ⟨hn, fun d hd => ?_⟩
  rcases mem_insL l x d hd with hd | rfl
  · exact (h.2 d hd).keptC h.1 hg
  · exact hx.keptC h.1 hg

set_option maxHeartbeats 4000000 in
set_option maxRecDepth 100000 in
theorem with_c (base : Nat) (v : Value) (l : List Cn) (c : Cn) (w : World) (hO : OwnC w base v l) (hr : Rising cmpC l) (hbase : base ≤ w.heap.size) (hl : l.length ≤ 100000) (hls : ∀ d ∈ l, d.set.length ≤ 100000) (hX : Vs w c.sv c.set) (hcl : c.set.length ≤ 100000) :
    Calls Tryz.prog 46 #[v, cc c] w (PutsC base v l c w) := by
  obtain ⟨p0, cap0, rfl⟩ := own_shape hO.1
  obtain ⟨W0, hW0⟩ : ∃ W0, W0 = w.alloc (.cells #[.string c.nm, .int .i64 c.op, .int .i64 c.v.k, .int .i64 c.v.n, .string c.v.s, .bool c.v.b, .slice c.sp c.set.length c.sc] 45) := ⟨_, rfl⟩
  have hB0 : Below w.heap.size w W0 := by rw [hW0]; exact below_one _ _
  have hz0 : W0.heap.size = w.heap.size + 1 := by rw [hW0]; simp
  have hx : Blk W0 w.heap.size 45 #[.string c.nm, .int .i64 c.op, .int .i64 c.v.k, .int .i64 c.v.n, .string c.v.s, .bool c.v.b, .slice c.sp c.set.length c.sc] := by rw [hW0]; exact Blk.new _ _ _
  have HG := Lib.hid (gather_v c.sv c.set W0 (hX.later hB0) hcl)
  have HO := Lib.hid hO
  have HB0 := Lib.hid hB0
  have HX := Lib.hid hx
  have HW0 := Lib.hid hW0
  have HZ0 := Lib.hid hz0
  have HR := Lib.hid hr
  have HLs := Lib.hid hls
  clear hr hO hB0 hx hW0 hX hz0 hls
  go_enter Tryz.func46, Tryz.ntmps46
  go_wp2_with fail
  rw [← HW0.out]
  refine HG.out.mono ?_; rintro e w1 ⟨sp, sc, rfl, hS, b1⟩
  have HSl : Hid ((sortL cmpW c.set).length ≤ 100000) := Lib.hid (Nat.le_trans (sortL_length _) hcl)
  have hX1 := HX.out.later b1
  have q6 := hX1.cell 6 rfl
  have f6 := hX1.free 6
  have HS := Lib.hid hS
  have HX1 := Lib.hid hX1
  have HB1 := Lib.hid (then_ HB0.out b1)
  obtain ⟨S, hSS⟩ : ∃ S, sortL cmpW c.set = S := ⟨_, rfl⟩
  have HSe : Hid (seated c sp sc = ⟨c.nm, c.op, c.v, sp, sc, S⟩) := Lib.hid (by rw [← hSS]; rfl)
  rw [hSS] at HSl HS ⊢
  clear hS hX1 b1 hSS
  obtain ⟨W2, hW2⟩ : ∃ W2, W2 = w1.setCell ⟨w.heap.size, 6, none⟩ (.slice sp S.length sc) := ⟨_, rfl⟩
  have hX2 : Blk W2 w.heap.size 45 #[.string c.nm, .int .i64 c.op, .int .i64 c.v.k, .int .i64 c.v.n, .string c.v.s, .bool c.v.b, .slice sp S.length sc] := by
    rw [hW2]; exact setCell_block HX1.out (by simp) _
  have HB2 : Hid (Below w.heap.size w W2) := Lib.hid (by rw [hW2]; exact HB1.out.setCell (Nat.le_refl _) _)
  have HS2 : Hid (OwnV W2 (w.heap.size + 1) (.slice sp S.length sc) S) := Lib.hid (by
    rw [hW2]
    have h := HS.out
    rw [HZ0.out] at h
    exact World.ownsRow.kept h (grown_set (grown_below (Below.refl _ w1) (some w.heap.size)) _) (by
      by_cases hn : (Value.slice sp S.length sc).ownBlock = none
      · exact .inl hn
      · right; intro he; have := (World.ownsRow.lt h _ he).1; omega))
  have x0 := hX2.cell 0 rfl
  have x1 := hX2.cell 1 rfl
  have x2 := hX2.cell 2 rfl
  have x3 := hX2.cell 3 rfl
  have x4 := hX2.cell 4 rfl
  have x5 := hX2.cell 5 rfl
  have x6 := hX2.cell 6 rfl
  have HW2 := Lib.hid hW2
  clear hX2 hW2 HX HX1 HB1 HS
  go_wp2_with (rw [← HW2.out])
  have hO2 := HO.out.later HB2.out
  have hSb : OwnV W2 base (.slice sp S.length sc) S := HS2.out.base (by omega)
  refine (put_c base (.slice p0 l.length cap0) l ⟨c.nm, c.op, c.v, sp, sc, S⟩ W2 hO2.1 (hO2.cs (by omega) (fun d hd => by have := HLs.out d hd; omega)) HR.out (by have := HB2.out.size; omega) (by omega) (hSb.vs (by have := HSl.out; omega))).mono ?_
  rintro e w3 ⟨v3, rfl, h3, g3⟩
  obtain ⟨p3, cap3, rfl⟩ := own_shape h3
  have H3 := Lib.hid (hO2.taken (x := ⟨c.nm, c.op, c.v, sp, sc, S⟩) hSb g3 h3)
  have HG3 := Lib.hid (grown_then HB2.out g3)
  clear hO2 hSb h3 g3 x0 x1 x2 x3 x4 x5 x6
  go_wp2_with fail
  go_ret
  refine ⟨p3, cap3, sp, sc, ?_, ?_, HG3.out⟩
  · rw [HSe.out]; rfl
  · rw [HSe.out]; exact H3.out

/-! ### gather -/
/-- A constraint in its normal form, wherever it lies. -/
def normC (c : Cn) : Cn := ⟨c.nm, c.op, c.v, none, 0, sortL cmpW c.set⟩
theorem bare_seated (c : Cn) (sp : Option Addr) (sc : Nat) : bare (seated c sp sc) = normC c := rfl
/-- What gather leaves of constraints: a row of the call's own, in order, the Sets too. -/
def GathC (l : List Cn) (w : World) (e : Ending) (w' : World) : Prop := ∃ p cap r, e = .returned (.slice p r.length cap) ∧ OwnC w' w.heap.size (.slice p r.length cap) r ∧ Rising cmpC r ∧ r.map bare = sortL cmpC (l.map normC) ∧ (∀ d ∈ r, d.set.length ≤ 100000) ∧ r.length ≤ l.length ∧ Below w.heap.size w w'
theorem set_len {l : List Cn} (h : ∀ d ∈ l, d.set.length ≤ 100000) {c : Cn} (hc : c.set.length ≤ 100000) (sp : Option Addr) (sc : Nat) : ∀ d ∈ insL cmpC l (seated c sp sc), d.set.length ≤ 100000 := by
  intro d hd
  rcases mem_insL l _ d hd with hd | rfl
  · exact h d hd
  · exact Nat.le_trans (sortL_length _) hc
theorem insL_bare (l : List Cn) (c : Cn) (sp : Option Addr) (sc : Nat) : (insL cmpC l (seated c sp sc)).map bare = insL cmpC (l.map bare) (normC c) := insL_map bare cmpC_bare l _
/-- What the loop of gather has come to. -/
structure Some1 (w wr : World) (into : Value) (l : List Cn) (k : Nat) (r : List Cn) : Prop where
  own : OwnC wr w.heap.size into r
  rise : Rising cmpC r
  is : r.map bare = ((l.take k).map normC).foldl (insL cmpC) []
  sets : ∀ d ∈ r, d.set.length ≤ 100000
  len : r.length ≤ k
  bel : Below w.heap.size w wr
set_option maxHeartbeats 4000000 in
set_option maxRecDepth 100000 in
theorem gather_c (v : Value) (l : List Cn) (w : World) (hA : Cs w v l) (hl : l.length ≤ 10000) (hls : ∀ d ∈ l, d.set.length ≤ 100000) :
    Calls Tryz.prog 45 #[v, .func (.func 46) #[] #[]] w (GathC l w) := by
  obtain ⟨p, cap, rfl⟩ := hA.1.form
  have HA := Lib.hid hA
  have HLs := Lib.hid hls
  clear hA hls
  go_enter Tryz.func45, Tryz.ntmps45
  go_wp2
  go_loopw [5, 10] (fun into i wr => ∃ (k : Nat) (r : List Cn), k ≤ l.length ∧ i = .int .i64 k ∧ Some1 w wr into l k r) (fun _ i _ => l.length - (intOf i).toNat)
  case atStart => exact ⟨0, [], Nat.zero_le _, rfl, ⟨OwnC.nil _ _, .nil, rfl, fun d hd => by simp at hd, Nat.le_refl _, Below.refl _ _⟩⟩
  case round =>
    obtain ⟨k, r, hk, rfl, hS1⟩ := hrel
    obtain ⟨pI, capI, rfl⟩ := own_shape hS1.own.1
    have HS1 := Lib.hid hS1
    clear hS1
    by_cases hkl : k < l.length
    · obtain ⟨p1, cap1, b, o, hv, hp, hb, h4⟩ := seven_at HA.out.1 hkl
      simp only [Value.slice.injEq] at hv
      obtain ⟨rfl, _, rfl⟩ := hv
      have hidx := idx_c1 p b o l.length cap k hp hkl
      obtain ⟨c0, c1, c2, c3, c4, c5, c6⟩ := h4.later HS1.out.bel
      have HSt := Lib.hid ((HA.out.at hkl).later HS1.out.bel)
      have HSl : Hid ((l.getD k default).set.length ≤ 100000) := Lib.hid (by
        rw [List.getD_eq_getElem?_getD, List.getElem?_eq_getElem hkl]; exact HLs.out _ (List.getElem_mem hkl))
      have HF : Hid ((l.take (k + 1)).map normC = (l.take k).map normC ++ [normC (l.getD k default)]) := Lib.hid (by
        rw [List.take_succ_eq_append_getElem hkl, List.map_append, List.getD_eq_getElem?_getD, List.getElem?_eq_getElem hkl]; rfl)
      obtain ⟨c, hx⟩ : ∃ c, l.getD k default = c := ⟨_, rfl⟩
      rw [hx] at c0 c1 c2 c3 c4 c5 c6 HSt HF HSl
      clear hx hp h4 hb
      go_wp2_with fail
      refine (with_c w.heap.size (.slice pI r.length capI) r c _ (HS1.out.own.later (below_one wr _)) HS1.out.rise (by have := HS1.out.bel.size; simp; omega) (by have := HS1.out.len; omega) HS1.out.sets (HSt.out.later (below_one wr _)) HSl.out).mono ?_
      rintro e w1 ⟨p2, cap2, sp, sc, rfl, h1, h2⟩
      have HS2 : Hid (Some1 w w1 (.slice p2 (insL cmpC r (seated c sp sc)).length cap2) l (k + 1) (insL cmpC r (seated c sp sc))) := Lib.hid
        ⟨h1, insL_rising weakC _ _ HS1.out.rise, by rw [insL_bare, HS1.out.is, HF.out, List.foldl_append]; rfl, set_len HS1.out.sets HSl.out sp sc, by have := insL_length (f := cmpC) r (seated c sp sc); have := HS1.out.len; omega,
          grown_in (HS1.out.bel.alloc HS1.out.bel.size _) (own_later HS1.out.own.1 (below_one wr _)) (by have := HS1.out.bel.size; simp; omega) h2⟩
      clear h1 h2
      generalize insL cmpC r (seated c sp sc) = r2 at HS2 ⊢
      go_wp2_with fail
      go_roundw
      case rel => exact ⟨k + 1, r2, by omega, by simp, HS2.out⟩
      case measure => simp [intOf]; omega
    · have hke : k = l.length := by omega
      subst hke
      go_wp2
      go_ret
      exact ⟨pI, capI, r, rfl, HS1.out.own, HS1.out.rise, by rw [HS1.out.is, List.take_length]; rfl, HS1.out.sets, HS1.out.len, HS1.out.bel⟩
end Go.Proofs.YtaplgoachembdaaGreat.Gm
set_option linter.unusedSimpArgs false
set_option linter.unusedVariables false
namespace Go.Proofs.YtaplgoachembdaaGreat.Gm
open Go Go.RowKit
attribute [local go_sem ↓] Go.wp_at_zero Go.wp_at_succ

theorem may_set {c : Cn} (h : mayCn c = true) : c.set.length ≤ 6 := by
  have h2 : mayOp c.op c.v c.set = true := by simp only [mayCn, Bool.and_eq_true] at h; exact h.2
  unfold mayOp at h2
  split at h2
  · simp only [Bool.and_eq_true, decide_eq_true_eq] at h2; omega
  · split at h2
    · simp only [maySt, Bool.and_eq_true, decide_eq_true_eq] at h2; omega
    · split at h2
      · simp only [Bool.and_eq_true, decide_eq_true_eq] at h2; omega
      · split at h2
        · simp only [Bool.and_eq_true, decide_eq_true_eq] at h2; omega
        · cases h2
theorem may_len {l : List Cn} (h : mayPr l = true) : l.length ≤ 6 ∧ ∀ d ∈ l, d.set.length ≤ 6 := by
  simp only [mayPr, Bool.and_eq_true, decide_eq_true_eq, List.all_eq_true] at h
  exact ⟨h.1, fun d hd => may_set (h.2 d hd)⟩
/-- What a normal form is: a row of the call's own, in order. -/
structure Norm (l : List Cn) (w w' : World) (p : Option Addr) (cap : Nat) (r : List Cn) : Prop where
  own : OwnC w' w.heap.size (.slice p r.length cap) r
  rise : Rising cmpC r
  is : r.map bare = sortL cmpC (l.map normC)
  sets : ∀ d ∈ r, d.set.length ≤ 100000
  len : r.length ≤ l.length
  bel : Below w.heap.size w w'
def NormR (l : List Cn) (w : World) (e : Ending) (w' : World) : Prop := ∃ p cap r, e = .returned (.tuple #[.slice p r.length cap, .int .i64 0]) ∧ Norm l w w' p cap r

set_option maxHeartbeats 2000000 in
set_option maxRecDepth 20000 in
theorem normal_no (v : Value) (l : List Cn) (w : World) (hA : Cs w v l) (h : mayPr l = false) : Calls Tryz.prog 29 #[v] w (Gives (.tuple #[.slice none 0 0, .int .i64 30]) w) := by
  obtain ⟨p, cap, rfl⟩ := hA.1.form
  have HM := maypred_any _ l w hA
  rw [h] at HM
  have HM := Lib.hid HM
  clear hA h
  go_enter Tryz.func29, Tryz.ntmps29
  go_wp2_with fail
  refine HM.out.mono ?_; rintro e w1 ⟨rfl, b1⟩
  go_wp2_with fail
  go_ret2
  exact ⟨rfl, b1⟩
set_option maxHeartbeats 2000000 in
set_option maxRecDepth 20000 in
theorem normal_yes (v : Value) (l : List Cn) (w : World) (hA : Cs w v l) (h : mayPr l = true) : Calls Tryz.prog 29 #[v] w (NormR l w) := by
  obtain ⟨p, cap, rfl⟩ := hA.1.form
  have HM := maypred_any _ l w hA
  rw [h] at HM
  have hl := may_len h
  have HM := Lib.hid HM
  have HG := Lib.hid (fun W (hb : Below w.heap.size w W) => gather_c _ l W (hA.later hb) (by omega) (fun d hd => by have := hl.2 d hd; omega))
  clear hA h hl
  go_enter Tryz.func29, Tryz.ntmps29
  go_wp2_with fail
  refine HM.out.mono ?_; rintro e w1 ⟨rfl, b1⟩
  have HB1 := Lib.hid b1
  clear b1
  go_wp2_with fail
  refine (HG.out w1 HB1.out).mono ?_; rintro e w2 ⟨p2, cap2, r, rfl, h1, h2, h3, h4, h5, h6⟩
  have HN : Hid (Norm l w w2 p2 cap2 r) := Lib.hid ⟨⟨own_base h1.1 HB1.out.size, fun d hd => own_base (h1.2 d hd) HB1.out.size⟩, h2, h3, h4, h5, then_ HB1.out h6⟩
  clear h1 h2 h3 h4 h5 h6
  go_wp2_with fail
  go_ret2
  exact ⟨p2, cap2, r, rfl, HN.out⟩
end Go.Proofs.YtaplgoachembdaaGreat.Gm
