/- The contract of slices.BinarySearchFunc at constraints in order, with package pred's own order. -/
import Derived.Test.YtlnjmcodgdebmaaGreatKh
import Derived.Test.YtlnjmcodgdebmaaGreatKiv
import Derived.IntWalk
set_option linter.unusedSimpArgs false
set_option linter.unusedVariables false
namespace Go.Proofs.YtlnjmcodgdebmaaGreat.Gm
open Go Go.RowKit
attribute [local go_sem ↓] Go.wp_at_zero Go.wp_at_succ

/-- What the search leaves: a place. -/
def Foundc (l : List Cn) (x : Cn) (w : World) (e : Ending) (w' : World) : Prop := ∃ p : Nat, Place cmpC l x p ∧ e = .returned (.tuple #[.int .i64 p, .bool (hitB cmpC l x p)]) ∧ Below w.heap.size w w'

/-- Two elements in memory, in whatever world comes later. -/
theorem holdc {W : World} {g b o : Nat} {x y : Cn} (h1 : Seven W g 0 x) (h2 : Seven W b o y) (w' : World) (h : Below W.heap.size W w') : Below W.heap.size W w' ∧ w'.cell? ⟨g, 0, none⟩ = some (.string x.nm) ∧ w'.cell? ⟨g, 1, none⟩ = some (.int .i64 x.op) ∧ w'.cell? ⟨g, 2, none⟩ = some (.int .i64 x.v.k) ∧ w'.cell? ⟨g, 3, none⟩ = some (.int .i64 x.v.n) ∧ w'.cell? ⟨g, 4, none⟩ = some (.string x.v.s) ∧ w'.cell? ⟨g, 5, none⟩ = some (.bool x.v.b) ∧ w'.cell? ⟨g, 6, none⟩ = some (.slice x.sp x.set.length x.sc) ∧ w'.cell? ⟨b, o, none⟩ = some (.string y.nm) ∧ w'.cell? ⟨b, o + 1, none⟩ = some (.int .i64 y.op) ∧ w'.cell? ⟨b, o + 2, none⟩ = some (.int .i64 y.v.k) ∧ w'.cell? ⟨b, o + 3, none⟩ = some (.int .i64 y.v.n) ∧ w'.cell? ⟨b, o + 4, none⟩ = some (.string y.v.s) ∧ w'.cell? ⟨b, o + 5, none⟩ = some (.bool y.v.b) ∧ w'.cell? ⟨b, o + 6, none⟩ = some (.slice y.sp y.set.length y.sc) := by
  obtain ⟨c0, c1, c2, c3, c4, c5, c6⟩ := h1.later h
  obtain ⟨d0, d1, d2, d3, d4, d5, d6⟩ := h2.later h
  exact ⟨h, c0, c1, c2, c3, c4, c5, c6, d0, d1, d2, d3, d4, d5, d6⟩
set_option maxHeartbeats 8000000 in
set_option maxRecDepth 100000 in
theorem bsearch_c (v : Value) (l : List Cn) (x : Cn) (w : World) (hA : Cs w v l) (hr : Rising cmpC l) (hX : Vs w x.sv x.set) :
    Calls Tryz.prog 101 #[v, cc x, .func (.func 56) #[] #[]] w (Foundc l x w) := by
  obtain ⟨p, cap, rfl⟩ := hA.1.form
  have hla : l.length ≤ 3518437208883 := by have := hA.2; omega
  have HA := Lib.hid hA
  have HR := Lib.hid hr

  have HX := Lib.hid hX
  clear hX

  clear hA hr
  obtain ⟨W0, hW0⟩ : ∃ W0, W0 = w.alloc (.cells #[.string x.nm, .int .i64 x.op, .int .i64 x.v.k, .int .i64 x.v.n, .string x.v.s, .bool x.v.b, .slice x.sp x.set.length x.sc] 45) := ⟨_, rfl⟩
  have hx4 : Seven W0 w.heap.size 0 x := by
    have h : Blk W0 w.heap.size 45 #[.string x.nm, .int .i64 x.op, .int .i64 x.v.k, .int .i64 x.v.n, .string x.v.s, .bool x.v.b, .slice x.sp x.set.length x.sc] := by rw [hW0]; exact Blk.new _ _ _
    refine ⟨h.cell 0 rfl, h.cell 1 rfl, h.cell 2 rfl, h.cell 3 rfl, h.cell 4 rfl, h.cell 5 rfl, h.cell 6 rfl⟩
  have HX4 := Lib.hid hx4
  have HB0 : Hid (Below w.heap.size w W0) := Lib.hid (by rw [hW0]; exact below_one _ _)
  have HW0 := Lib.hid hW0
  clear hW0 hx4
  go_enter Tryz.func101, Tryz.ntmps101
  go_wp2
  rw [← HW0.out]
  go_loopg [9, 10] l.length (fun kx s9 s10 wr => ∃ lo hi : Nat, s9 = .int .i64 lo ∧ s10 = .int .i64 hi ∧ lo ≤ hi ∧ hi ≤ l.length ∧ hi - lo ≤ kx ∧ Hid (Between cmpC l x lo hi) ∧ Hid (Below W0.heap.size W0 wr))
  case atStart => exact ⟨0, l.length, rfl, rfl, Nat.zero_le _, Nat.le_refl _, by omega, Lib.hid ⟨Nat.zero_le _, Nat.le_refl _, fun t ht => absurd ht (Nat.not_lt_zero _), fun t h1 h2 => by omega⟩, Lib.hid (Below.refl _ _)⟩
  case round =>
    obtain ⟨lo, hi, rfl, rfl, hlh, hin, hg, HI, HBel⟩ := hrel
    by_cases hlt : lo < hi
    · have hml : (lo + hi) / 2 < l.length := by omega
      obtain ⟨p1, cap1, b, o, hv, hp, hb, h4⟩ := seven_at HA.out.1 hml
      simp only [Value.slice.injEq] at hv
      obtain ⟨rfl, _, rfl⟩ := hv
      have hidx : ∀ W, (Instr.indexAt 95 (.slice p l.length cap) (.int .i64 (((lo : Int) + (hi : Int)) / 2))).run Tryz.prog W = .ok (.pointer (some ⟨b, o + (lo + hi) / 2 * 7, none⟩)) W := fun W => by
        rw [show ((lo : Int) + (hi : Int)) / 2 = (((lo + hi) / 2 : Nat) : Int) by omega]; exact idx_c2 p b o l.length cap ((lo + hi) / 2) hp hml W
      have hBw := then_ HB0.out HBel.out

      have HSy := Lib.hid ((HA.out.at hml).later hBw)
      have HSx := Lib.hid (HX.out.later hBw)

      have hAll := holdc (HX4.out.later HBel.out) (h4.later hBw)
      have HLow := Lib.hid (fun h => HI.out.low weakC HR.out (h := (lo + hi) / 2) (by omega) (by omega) h)
      have HHigh := Lib.hid (fun h => HI.out.high weakC HR.out (h := (lo + hi) / 2) (by omega) (by omega) h)
      obtain ⟨y, hy⟩ : ∃ y, l.getD ((lo + hi) / 2) default = y := ⟨_, rfl⟩
      rw [hy] at hAll HLow HHigh HSy
      have HAll := Lib.hid hAll
      have HC := Lib.hid (fun W h h' => cmpcons_any y x W h h')
      obtain ⟨r, hrr⟩ : ∃ r, cmpC y x = r := ⟨_, rfl⟩
      rw [hrr] at HC HLow HHigh
      clear hy hp h4 hAll hBw hrr hb
      go_wp2_with fail
      by_cases hrx : r < 0
      · have HT := Lib.hid (HLow.out hrx)
        have hd : decide (r < 0) = true := by simpa using hrx
        go_region_held3 (fun w' => Below wr.heap.size wr w' ∧ w'.cell? ⟨w.heap.size, 0, none⟩ = some (.string x.nm) ∧ w'.cell? ⟨w.heap.size, 1, none⟩ = some (.int .i64 x.op) ∧ w'.cell? ⟨w.heap.size, 2, none⟩ = some (.int .i64 x.v.k) ∧ w'.cell? ⟨w.heap.size, 3, none⟩ = some (.int .i64 x.v.n) ∧ w'.cell? ⟨w.heap.size, 4, none⟩ = some (.string x.v.s) ∧ w'.cell? ⟨w.heap.size, 5, none⟩ = some (.bool x.v.b) ∧ w'.cell? ⟨w.heap.size, 6, none⟩ = some (.slice x.sp x.set.length x.sc) ∧ w'.cell? ⟨b, o + (lo + hi) / 2 * 7, none⟩ = some (.string y.nm) ∧ w'.cell? ⟨b, o + (lo + hi) / 2 * 7 + 1, none⟩ = some (.int .i64 y.op) ∧ w'.cell? ⟨b, o + (lo + hi) / 2 * 7 + 2, none⟩ = some (.int .i64 y.v.k) ∧ w'.cell? ⟨b, o + (lo + hi) / 2 * 7 + 3, none⟩ = some (.int .i64 y.v.n) ∧ w'.cell? ⟨b, o + (lo + hi) / 2 * 7 + 4, none⟩ = some (.string y.v.s) ∧ w'.cell? ⟨b, o + (lo + hi) / 2 * 7 + 5, none⟩ = some (.bool y.v.b) ∧ w'.cell? ⟨b, o + (lo + hi) / 2 * 7 + 6, none⟩ = some (.slice y.sp y.set.length y.sc))
          (first | assumption | (refine HAll.out _ ?_; first | exact s22_call (by assumption) (by assumption) | exact (Below.refl _ _).drew | exact s22_alloc (by assumption) _))
          (first | (go_at_call 56; (with_reducible refine (HC.out _ (HSy.out.later (And.left (by assumption))) (HSx.out.later (And.left (by assumption)))).mono ?_); rintro e w6 ⟨rfl, b6⟩))
        rename_i hh
        have HB1 := Lib.hid (then_ HBel.out hh.1)
        clear hh
        go_wp2_with fail
        go_roundg (hi - ((lo + hi) / 2 + 1))
        case measure => omega
        case rel => exact ⟨(lo + hi) / 2 + 1, hi, by rw [show ((lo : Int) + (hi : Int)) / 2 + 1 = (((lo + hi) / 2 + 1 : Nat) : Int) by omega], rfl, by omega, hin, Nat.le_refl _, HT, HB1⟩
      · have HT := Lib.hid (HHigh.out (by omega))
        have hd : decide (r < 0) = false := by simpa using hrx
        go_region_held3 (fun w' => Below wr.heap.size wr w' ∧ w'.cell? ⟨w.heap.size, 0, none⟩ = some (.string x.nm) ∧ w'.cell? ⟨w.heap.size, 1, none⟩ = some (.int .i64 x.op) ∧ w'.cell? ⟨w.heap.size, 2, none⟩ = some (.int .i64 x.v.k) ∧ w'.cell? ⟨w.heap.size, 3, none⟩ = some (.int .i64 x.v.n) ∧ w'.cell? ⟨w.heap.size, 4, none⟩ = some (.string x.v.s) ∧ w'.cell? ⟨w.heap.size, 5, none⟩ = some (.bool x.v.b) ∧ w'.cell? ⟨w.heap.size, 6, none⟩ = some (.slice x.sp x.set.length x.sc) ∧ w'.cell? ⟨b, o + (lo + hi) / 2 * 7, none⟩ = some (.string y.nm) ∧ w'.cell? ⟨b, o + (lo + hi) / 2 * 7 + 1, none⟩ = some (.int .i64 y.op) ∧ w'.cell? ⟨b, o + (lo + hi) / 2 * 7 + 2, none⟩ = some (.int .i64 y.v.k) ∧ w'.cell? ⟨b, o + (lo + hi) / 2 * 7 + 3, none⟩ = some (.int .i64 y.v.n) ∧ w'.cell? ⟨b, o + (lo + hi) / 2 * 7 + 4, none⟩ = some (.string y.v.s) ∧ w'.cell? ⟨b, o + (lo + hi) / 2 * 7 + 5, none⟩ = some (.bool y.v.b) ∧ w'.cell? ⟨b, o + (lo + hi) / 2 * 7 + 6, none⟩ = some (.slice y.sp y.set.length y.sc))
          (first | assumption | (refine HAll.out _ ?_; first | exact s22_call (by assumption) (by assumption) | exact (Below.refl _ _).drew | exact s22_alloc (by assumption) _))
          (first | (go_at_call 56; (with_reducible refine (HC.out _ (HSy.out.later (And.left (by assumption))) (HSx.out.later (And.left (by assumption)))).mono ?_); rintro e w6 ⟨rfl, b6⟩))
        rename_i hh
        have HB1 := Lib.hid (then_ HBel.out hh.1)
        clear hh
        go_wp2_with fail
        go_roundg ((lo + hi) / 2 - lo)
        case measure => omega
        case rel => exact ⟨lo, (lo + hi) / 2, rfl, by rw [show ((lo : Int) + (hi : Int)) / 2 = (((lo + hi) / 2 : Nat) : Int) by omega], by omega, by omega, Nat.le_refl _, HT, HB1⟩
    · obtain rfl : hi = lo := by omega
      have HPl := Lib.hid (HI.out.place (Nat.le_refl _))
      have HHit : Hid (hitB cmpC l x hi = (decide (hi < l.length) && decide (cmpC (l.getD hi default) x = 0))) := Lib.hid rfl
      by_cases hn : hi < l.length
      · obtain ⟨p1, cap1, b, o, hv, hp, hb, h4⟩ := seven_at HA.out.1 hn
        simp only [Value.slice.injEq] at hv
        obtain ⟨rfl, _, rfl⟩ := hv
        have hidx := idx_c2 p b o l.length cap hi hp hn
        have hBw := then_ HB0.out HBel.out

        have HSy := Lib.hid ((HA.out.at hn).later hBw)
        have HSx := Lib.hid (HX.out.later hBw)

        have hAll := holdc (HX4.out.later HBel.out) (h4.later hBw)
        have hdn : decide (hi < l.length) = true := by simpa using hn
        rw [hdn, Bool.true_and] at HHit
        obtain ⟨y, hy⟩ : ∃ y, l.getD hi default = y := ⟨_, rfl⟩
        rw [hy] at hAll HHit HSy
        have HAll := Lib.hid hAll
        have HC := Lib.hid (fun W h h' => cmpcons_any y x W h h')
        obtain ⟨r, hrr⟩ : ∃ r, cmpC y x = r := ⟨_, rfl⟩
        rw [hrr] at HC HHit
        clear hy hp h4 hAll hBw hrr hb HI
        go_wp2_with fail
        by_cases hr0 : r = 0
        · have HF : Hid (hitB cmpC l x hi = true) := Lib.hid (by rw [HHit.out]; simpa using hr0)
          have hd : (r == 0) = true := by simpa using hr0
          clear hr0
          go_region_held3 (fun w' => Below wr.heap.size wr w' ∧ w'.cell? ⟨w.heap.size, 0, none⟩ = some (.string x.nm) ∧ w'.cell? ⟨w.heap.size, 1, none⟩ = some (.int .i64 x.op) ∧ w'.cell? ⟨w.heap.size, 2, none⟩ = some (.int .i64 x.v.k) ∧ w'.cell? ⟨w.heap.size, 3, none⟩ = some (.int .i64 x.v.n) ∧ w'.cell? ⟨w.heap.size, 4, none⟩ = some (.string x.v.s) ∧ w'.cell? ⟨w.heap.size, 5, none⟩ = some (.bool x.v.b) ∧ w'.cell? ⟨w.heap.size, 6, none⟩ = some (.slice x.sp x.set.length x.sc) ∧ w'.cell? ⟨b, o + hi * 7, none⟩ = some (.string y.nm) ∧ w'.cell? ⟨b, o + hi * 7 + 1, none⟩ = some (.int .i64 y.op) ∧ w'.cell? ⟨b, o + hi * 7 + 2, none⟩ = some (.int .i64 y.v.k) ∧ w'.cell? ⟨b, o + hi * 7 + 3, none⟩ = some (.int .i64 y.v.n) ∧ w'.cell? ⟨b, o + hi * 7 + 4, none⟩ = some (.string y.v.s) ∧ w'.cell? ⟨b, o + hi * 7 + 5, none⟩ = some (.bool y.v.b) ∧ w'.cell? ⟨b, o + hi * 7 + 6, none⟩ = some (.slice y.sp y.set.length y.sc))
            (first | assumption | (refine HAll.out _ ?_; first | exact s22_call (by assumption) (by assumption) | exact (Below.refl _ _).drew | exact s22_alloc (by assumption) _))
            (first | (go_at_call 56; (with_reducible refine (HC.out _ (HSy.out.later (And.left (by assumption))) (HSx.out.later (And.left (by assumption)))).mono ?_); rintro e w6 ⟨rfl, b6⟩))
          rename_i hh
          have HB1 := Lib.hid (then_ HBel.out hh.1)
          clear hh
          go_wp2_with fail
          go_ret2
          exact ⟨hi, HPl.out, by (first | (rw [HF.out]; done) | (rw [HF.out]; rfl)), then_ HB0.out HB1.out⟩
        · have HF : Hid (hitB cmpC l x hi = false) := Lib.hid (by rw [HHit.out]; simpa using hr0)
          have hd : (r == 0) = false := by simpa using hr0
          clear hr0
          go_region_held3 (fun w' => Below wr.heap.size wr w' ∧ w'.cell? ⟨w.heap.size, 0, none⟩ = some (.string x.nm) ∧ w'.cell? ⟨w.heap.size, 1, none⟩ = some (.int .i64 x.op) ∧ w'.cell? ⟨w.heap.size, 2, none⟩ = some (.int .i64 x.v.k) ∧ w'.cell? ⟨w.heap.size, 3, none⟩ = some (.int .i64 x.v.n) ∧ w'.cell? ⟨w.heap.size, 4, none⟩ = some (.string x.v.s) ∧ w'.cell? ⟨w.heap.size, 5, none⟩ = some (.bool x.v.b) ∧ w'.cell? ⟨w.heap.size, 6, none⟩ = some (.slice x.sp x.set.length x.sc) ∧ w'.cell? ⟨b, o + hi * 7, none⟩ = some (.string y.nm) ∧ w'.cell? ⟨b, o + hi * 7 + 1, none⟩ = some (.int .i64 y.op) ∧ w'.cell? ⟨b, o + hi * 7 + 2, none⟩ = some (.int .i64 y.v.k) ∧ w'.cell? ⟨b, o + hi * 7 + 3, none⟩ = some (.int .i64 y.v.n) ∧ w'.cell? ⟨b, o + hi * 7 + 4, none⟩ = some (.string y.v.s) ∧ w'.cell? ⟨b, o + hi * 7 + 5, none⟩ = some (.bool y.v.b) ∧ w'.cell? ⟨b, o + hi * 7 + 6, none⟩ = some (.slice y.sp y.set.length y.sc))
            (first | assumption | (refine HAll.out _ ?_; first | exact s22_call (by assumption) (by assumption) | exact (Below.refl _ _).drew | exact s22_alloc (by assumption) _))
            (first | (go_at_call 56; (with_reducible refine (HC.out _ (HSy.out.later (And.left (by assumption))) (HSx.out.later (And.left (by assumption)))).mono ?_); rintro e w6 ⟨rfl, b6⟩))
          rename_i hh
          have HB1 := Lib.hid (then_ HBel.out hh.1)
          clear hh
          go_wp2_with fail
          go_ret2
          exact ⟨hi, HPl.out, by (first | (rw [HF.out]; done) | (rw [HF.out]; rfl)), then_ HB0.out HB1.out⟩
      · have hdn : decide (hi < l.length) = false := by simpa using hn
        have HF : Hid (hitB cmpC l x hi = false) := Lib.hid (by rw [HHit.out, hdn]; rfl)
        clear HHit HI
        go_wp2_with fail
        go_quiet (fail)
        go_wp2_with fail
        go_ret2
        exact ⟨hi, HPl.out, by (first | (rw [HF.out]; done) | (rw [HF.out]; rfl)), then_ HB0.out (bel_drewN HBel.out _)⟩
end Go.Proofs.YtlnjmcodgdebmaaGreat.Gm
