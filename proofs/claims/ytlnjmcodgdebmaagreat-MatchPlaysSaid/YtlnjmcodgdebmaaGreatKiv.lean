/- The contract of slices.BinarySearchFunc at values in order, with package pred's own order. -/
import Derived.Test.YtlnjmcodgdebmaaGreatKh
import Derived.IntWalk
set_option linter.unusedSimpArgs false
set_option linter.unusedVariables false
namespace Go.Proofs.YtlnjmcodgdebmaaGreat.Gm
open Go Go.RowKit
attribute [local go_sem ↓] Go.wp_at_zero Go.wp_at_succ

/-- A place in a row: all ahead of it are below x, and it is not. -/
def Place {α : Type} [Inhabited α] (f : α → α → Int) (l : List α) (x : α) (p : Nat) : Prop := p ≤ l.length ∧ (∀ i, i < p → f (l.getD i default) x < 0) ∧ (p < l.length → ¬ f (l.getD p default) x < 0)
theorem rising_at {α : Type} [Inhabited α] {f : α → α → Int} {l : List α} (h : Rising f l) {i j : Nat} (hij : i < j) (hj : j < l.length) : f (l.getD i default) (l.getD j default) < 0 := by
  have := List.pairwise_iff_getElem.1 h i j (by omega) hj hij
  rwa [List.getD_eq_getElem?_getD, List.getD_eq_getElem?_getD, List.getElem?_eq_getElem hj, List.getElem?_eq_getElem (by omega : i < l.length)]
/-- What a search has found out: below i all are below x, from j on none is. -/
def Between {α : Type} [Inhabited α] (f : α → α → Int) (l : List α) (x : α) (i j : Nat) : Prop := i ≤ j ∧ j ≤ l.length ∧ (∀ t, t < i → f (l.getD t default) x < 0) ∧ (∀ t, j ≤ t → t < l.length → ¬ f (l.getD t default) x < 0)
theorem Between.low {α : Type} [Inhabited α] {f : α → α → Int} (hf : Weak f) {l : List α} {x : α} {i j h : Nat} (hr : Rising f l) (hb : Between f l x i j) (h1 : i ≤ h) (h2 : h < j) (hl : f (l.getD h default) x < 0) : Between f l x (h + 1) j := by
  refine ⟨by omega, hb.2.1, fun t ht => ?_, hb.2.2.2⟩
  by_cases e : t = h
  · rw [e]; exact hl
  · have := rising_at hr (by omega : t < h) (by have := hb.2.1; omega)
    exact weak_lt hf this (by omega)
theorem Between.high {α : Type} [Inhabited α] {f : α → α → Int} (hf : Weak f) {l : List α} {x : α} {i j h : Nat} (hr : Rising f l) (hb : Between f l x i j) (h1 : i ≤ h) (h2 : h < j) (hl : ¬ f (l.getD h default) x < 0) : Between f l x i h := by
  refine ⟨by omega, by have := hb.2.1; omega, hb.2.2.1, fun t ht htl h3 => hl ?_⟩
  by_cases e : h = t
  · rw [e]; exact h3
  · exact weak_lt hf (rising_at hr (by omega : h < t) htl) (by omega)
theorem Between.place {α : Type} [Inhabited α] {f : α → α → Int} {l : List α} {x : α} {i j : Nat} (hb : Between f l x i j) (h : j ≤ i) : Place f l x i := ⟨by have := hb.2.1; have := hb.1; omega, hb.2.2.1, fun hl => hb.2.2.2 i (by omega) hl⟩
/-- Whether x is there. -/
def hitB {α : Type} [Inhabited α] (f : α → α → Int) (l : List α) (x : α) (p : Nat) : Bool := decide (p < l.length) && decide (f (l.getD p default) x = 0)

/-- What the search leaves: a place. -/
def Foundv (l : List Vl) (x : Vl) (w : World) (e : Ending) (w' : World) : Prop := ∃ p : Nat, Place cmpW l x p ∧ e = .returned (.tuple #[.int .i64 p, .bool (hitB cmpW l x p)]) ∧ Below w.heap.size w w'

/-- Two elements in memory, in whatever world comes later. -/
theorem holdv {W : World} {g b o : Nat} {x y : Vl} (h1 : Four W g 0 x) (h2 : Four W b o y) (w' : World) (h : Below W.heap.size W w') : Below W.heap.size W w' ∧ w'.cell? ⟨g, 0, none⟩ = some (.int .i64 x.k) ∧ w'.cell? ⟨g, 1, none⟩ = some (.int .i64 x.n) ∧ w'.cell? ⟨g, 2, none⟩ = some (.string x.s) ∧ w'.cell? ⟨g, 3, none⟩ = some (.bool x.b) ∧ w'.cell? ⟨b, o, none⟩ = some (.int .i64 y.k) ∧ w'.cell? ⟨b, o + 1, none⟩ = some (.int .i64 y.n) ∧ w'.cell? ⟨b, o + 2, none⟩ = some (.string y.s) ∧ w'.cell? ⟨b, o + 3, none⟩ = some (.bool y.b) := by
  obtain ⟨c0, c1, c2, c3⟩ := h1.later h
  obtain ⟨d0, d1, d2, d3⟩ := h2.later h
  exact ⟨h, c0, c1, c2, c3, d0, d1, d2, d3⟩
set_option maxHeartbeats 8000000 in
set_option maxRecDepth 100000 in
theorem bsearch_v (v : Value) (l : List Vl) (x : Vl) (w : World) (hA : Vs w v l) (hr : Rising cmpW l) :
    Calls Tryz.prog 120 #[v, vv x, .func (.func 93) #[] #[]] w (Foundv l x w) := by
  obtain ⟨p, cap, rfl⟩ := hA.1.form
  have hla : l.length ≤ 3518437208883 := by have := hA.2; omega
  have HA := Lib.hid hA
  have HR := Lib.hid hr

  clear hA hr
  obtain ⟨W0, hW0⟩ : ∃ W0, W0 = w.alloc (.cells #[.int .i64 x.k, .int .i64 x.n, .string x.s, .bool x.b] 42) := ⟨_, rfl⟩
  have hx4 : Four W0 w.heap.size 0 x := by
    have h : Blk W0 w.heap.size 42 #[.int .i64 x.k, .int .i64 x.n, .string x.s, .bool x.b] := by rw [hW0]; exact Blk.new _ _ _
    refine ⟨h.cell 0 rfl, h.cell 1 rfl, h.cell 2 rfl, h.cell 3 rfl⟩
  have HX4 := Lib.hid hx4
  have HB0 : Hid (Below w.heap.size w W0) := Lib.hid (by rw [hW0]; exact below_one _ _)
  have HW0 := Lib.hid hW0
  clear hW0 hx4
  go_enter Tryz.func120, Tryz.ntmps120
  go_wp2
  rw [← HW0.out]
  go_loopg [9, 10] l.length (fun kx s9 s10 wr => ∃ lo hi : Nat, s9 = .int .i64 lo ∧ s10 = .int .i64 hi ∧ lo ≤ hi ∧ hi ≤ l.length ∧ hi - lo ≤ kx ∧ Hid (Between cmpW l x lo hi) ∧ Hid (Below W0.heap.size W0 wr))
  case atStart => exact ⟨0, l.length, rfl, rfl, Nat.zero_le _, Nat.le_refl _, by omega, Lib.hid ⟨Nat.zero_le _, Nat.le_refl _, fun t ht => absurd ht (Nat.not_lt_zero _), fun t h1 h2 => by omega⟩, Lib.hid (Below.refl _ _)⟩
  case round =>
    obtain ⟨lo, hi, rfl, rfl, hlh, hin, hg, HI, HBel⟩ := hrel
    by_cases hlt : lo < hi
    · have hml : (lo + hi) / 2 < l.length := by omega
      obtain ⟨p1, cap1, b, o, hv, hp, hb, h4⟩ := four_at HA.out.1 hml
      simp only [Value.slice.injEq] at hv
      obtain ⟨rfl, _, rfl⟩ := hv
      have hidx : ∀ W, (Instr.indexAt 113 (.slice p l.length cap) (.int .i64 (((lo : Int) + (hi : Int)) / 2))).run Tryz.prog W = .ok (.pointer (some ⟨b, o + (lo + hi) / 2 * 4, none⟩)) W := fun W => by
        rw [show ((lo : Int) + (hi : Int)) / 2 = (((lo + hi) / 2 : Nat) : Int) by omega]; exact idx_v2 p b o l.length cap ((lo + hi) / 2) hp hml W
      have hBw := then_ HB0.out HBel.out

      have hAll := holdv (HX4.out.later HBel.out) (h4.later hBw)
      have HLow := Lib.hid (fun h => HI.out.low weakW HR.out (h := (lo + hi) / 2) (by omega) (by omega) h)
      have HHigh := Lib.hid (fun h => HI.out.high weakW HR.out (h := (lo + hi) / 2) (by omega) (by omega) h)
      obtain ⟨y, hy⟩ : ∃ y, l.getD ((lo + hi) / 2) default = y := ⟨_, rfl⟩
      rw [hy] at hAll HLow HHigh
      have HAll := Lib.hid hAll
      have HC := Lib.hid (fun W  => cmpvals_any y x W )
      obtain ⟨r, hrr⟩ : ∃ r, cmpW y x = r := ⟨_, rfl⟩
      rw [hrr] at HC HLow HHigh
      clear hy hp h4 hAll hBw hrr hb
      go_wp2_with fail
      by_cases hrx : r < 0
      · have HT := Lib.hid (HLow.out hrx)
        have hd : decide (r < 0) = true := by simpa using hrx
        go_region_held3 (fun w' => Below wr.heap.size wr w' ∧ w'.cell? ⟨w.heap.size, 0, none⟩ = some (.int .i64 x.k) ∧ w'.cell? ⟨w.heap.size, 1, none⟩ = some (.int .i64 x.n) ∧ w'.cell? ⟨w.heap.size, 2, none⟩ = some (.string x.s) ∧ w'.cell? ⟨w.heap.size, 3, none⟩ = some (.bool x.b) ∧ w'.cell? ⟨b, o + (lo + hi) / 2 * 4, none⟩ = some (.int .i64 y.k) ∧ w'.cell? ⟨b, o + (lo + hi) / 2 * 4 + 1, none⟩ = some (.int .i64 y.n) ∧ w'.cell? ⟨b, o + (lo + hi) / 2 * 4 + 2, none⟩ = some (.string y.s) ∧ w'.cell? ⟨b, o + (lo + hi) / 2 * 4 + 3, none⟩ = some (.bool y.b))
          (first | assumption | (refine HAll.out _ ?_; first | exact s22_call (by assumption) (by assumption) | exact (Below.refl _ _).drew | exact s22_alloc (by assumption) _))
          (first | (go_at_call 93; (with_reducible refine (HC.out _ ).mono ?_); rintro e w6 ⟨rfl, b6⟩))
        rename_i hh
        have HB1 := Lib.hid (then_ HBel.out hh.1)
        clear hh
        go_wp2_with fail
        go_roundg (hi - ((lo + hi) / 2 + 1))
        case measure => omega
        case rel => exact ⟨(lo + hi) / 2 + 1, hi, by rw [show ((lo : Int) + (hi : Int)) / 2 + 1 = (((lo + hi) / 2 + 1 : Nat) : Int) by omega], rfl, by omega, hin, Nat.le_refl _, HT, HB1⟩
      · have HT := Lib.hid (HHigh.out (by omega))
        have hd : decide (r < 0) = false := by simpa using hrx
        go_region_held3 (fun w' => Below wr.heap.size wr w' ∧ w'.cell? ⟨w.heap.size, 0, none⟩ = some (.int .i64 x.k) ∧ w'.cell? ⟨w.heap.size, 1, none⟩ = some (.int .i64 x.n) ∧ w'.cell? ⟨w.heap.size, 2, none⟩ = some (.string x.s) ∧ w'.cell? ⟨w.heap.size, 3, none⟩ = some (.bool x.b) ∧ w'.cell? ⟨b, o + (lo + hi) / 2 * 4, none⟩ = some (.int .i64 y.k) ∧ w'.cell? ⟨b, o + (lo + hi) / 2 * 4 + 1, none⟩ = some (.int .i64 y.n) ∧ w'.cell? ⟨b, o + (lo + hi) / 2 * 4 + 2, none⟩ = some (.string y.s) ∧ w'.cell? ⟨b, o + (lo + hi) / 2 * 4 + 3, none⟩ = some (.bool y.b))
          (first | assumption | (refine HAll.out _ ?_; first | exact s22_call (by assumption) (by assumption) | exact (Below.refl _ _).drew | exact s22_alloc (by assumption) _))
          (first | (go_at_call 93; (with_reducible refine (HC.out _ ).mono ?_); rintro e w6 ⟨rfl, b6⟩))
        rename_i hh
        have HB1 := Lib.hid (then_ HBel.out hh.1)
        clear hh
        go_wp2_with fail
        go_roundg ((lo + hi) / 2 - lo)
        case measure => omega
        case rel => exact ⟨lo, (lo + hi) / 2, rfl, by rw [show ((lo : Int) + (hi : Int)) / 2 = (((lo + hi) / 2 : Nat) : Int) by omega], by omega, by omega, Nat.le_refl _, HT, HB1⟩
    · obtain rfl : hi = lo := by omega
      have HPl := Lib.hid (HI.out.place (Nat.le_refl _))
      have HHit : Hid (hitB cmpW l x hi = (decide (hi < l.length) && decide (cmpW (l.getD hi default) x = 0))) := Lib.hid rfl
      by_cases hn : hi < l.length
      · obtain ⟨p1, cap1, b, o, hv, hp, hb, h4⟩ := four_at HA.out.1 hn
        simp only [Value.slice.injEq] at hv
        obtain ⟨rfl, _, rfl⟩ := hv
        have hidx := idx_v2 p b o l.length cap hi hp hn
        have hBw := then_ HB0.out HBel.out

        have hAll := holdv (HX4.out.later HBel.out) (h4.later hBw)
        have hdn : decide (hi < l.length) = true := by simpa using hn
        rw [hdn, Bool.true_and] at HHit
        obtain ⟨y, hy⟩ : ∃ y, l.getD hi default = y := ⟨_, rfl⟩
        rw [hy] at hAll HHit
        have HAll := Lib.hid hAll
        have HC := Lib.hid (fun W  => cmpvals_any y x W )
        obtain ⟨r, hrr⟩ : ∃ r, cmpW y x = r := ⟨_, rfl⟩
        rw [hrr] at HC HHit
        clear hy hp h4 hAll hBw hrr hb HI
        go_wp2_with fail
        by_cases hr0 : r = 0
        · have HF : Hid (hitB cmpW l x hi = true) := Lib.hid (by rw [HHit.out]; simpa using hr0)
          have hd : (r == 0) = true := by simpa using hr0
          clear hr0
          go_region_held3 (fun w' => Below wr.heap.size wr w' ∧ w'.cell? ⟨w.heap.size, 0, none⟩ = some (.int .i64 x.k) ∧ w'.cell? ⟨w.heap.size, 1, none⟩ = some (.int .i64 x.n) ∧ w'.cell? ⟨w.heap.size, 2, none⟩ = some (.string x.s) ∧ w'.cell? ⟨w.heap.size, 3, none⟩ = some (.bool x.b) ∧ w'.cell? ⟨b, o + hi * 4, none⟩ = some (.int .i64 y.k) ∧ w'.cell? ⟨b, o + hi * 4 + 1, none⟩ = some (.int .i64 y.n) ∧ w'.cell? ⟨b, o + hi * 4 + 2, none⟩ = some (.string y.s) ∧ w'.cell? ⟨b, o + hi * 4 + 3, none⟩ = some (.bool y.b))
            (first | assumption | (refine HAll.out _ ?_; first | exact s22_call (by assumption) (by assumption) | exact (Below.refl _ _).drew | exact s22_alloc (by assumption) _))
            (first | (go_at_call 93; (with_reducible refine (HC.out _ ).mono ?_); rintro e w6 ⟨rfl, b6⟩))
          rename_i hh
          have HB1 := Lib.hid (then_ HBel.out hh.1)
          clear hh
          go_wp2_with fail
          go_ret2
          exact ⟨hi, HPl.out, by (first | (rw [HF.out]; done) | (rw [HF.out]; rfl)), then_ HB0.out HB1.out⟩
        · have HF : Hid (hitB cmpW l x hi = false) := Lib.hid (by rw [HHit.out]; simpa using hr0)
          have hd : (r == 0) = false := by simpa using hr0
          clear hr0
          go_region_held3 (fun w' => Below wr.heap.size wr w' ∧ w'.cell? ⟨w.heap.size, 0, none⟩ = some (.int .i64 x.k) ∧ w'.cell? ⟨w.heap.size, 1, none⟩ = some (.int .i64 x.n) ∧ w'.cell? ⟨w.heap.size, 2, none⟩ = some (.string x.s) ∧ w'.cell? ⟨w.heap.size, 3, none⟩ = some (.bool x.b) ∧ w'.cell? ⟨b, o + hi * 4, none⟩ = some (.int .i64 y.k) ∧ w'.cell? ⟨b, o + hi * 4 + 1, none⟩ = some (.int .i64 y.n) ∧ w'.cell? ⟨b, o + hi * 4 + 2, none⟩ = some (.string y.s) ∧ w'.cell? ⟨b, o + hi * 4 + 3, none⟩ = some (.bool y.b))
            (first | assumption | (refine HAll.out _ ?_; first | exact s22_call (by assumption) (by assumption) | exact (Below.refl _ _).drew | exact s22_alloc (by assumption) _))
            (first | (go_at_call 93; (with_reducible refine (HC.out _ ).mono ?_); rintro e w6 ⟨rfl, b6⟩))
          rename_i hh
          have HB1 := Lib.hid (then_ HBel.out hh.1)
          clear hh
          go_wp2_with fail
          go_ret2
          exact ⟨hi, HPl.out, by (first | (rw [HF.out]; done) | (rw [HF.out]; rfl)), then_ HB0.out HB1.out⟩
      · have hdn : decide (hi < l.length) = false := by simpa using hn
        have HF : Hid (hitB cmpW l x hi = false) := Lib.hid (by rw [HHit.out, hdn]; rfl)
        clear HHit HI
        go_wp2_with fail
        go_quiet (fail)
        go_wp2_with fail
        go_ret2
        exact ⟨hi, HPl.out, by (first | (rw [HF.out]; done) | (rw [HF.out]; rfl)), then_ HB0.out (bel_drewN HBel.out _)⟩
end Go.Proofs.YtlnjmcodgdebmaaGreat.Gm
