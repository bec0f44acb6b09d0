/- The contract of package pred's put at constraints: a row in order takes one more. -/
import Derived.Test.YtfjfdajachcnjaaGreatKic
import Derived.Test.YtfjfdajachcnjaaGreatKkc
import Derived.Test.YtfjfdajachcnjaaGreatKlv
set_option linter.unusedSimpArgs false
set_option linter.unusedVariables false
namespace Go.Proofs.YtfjfdajachcnjaaGreat.Gm
open Go Go.RowKit
attribute [local go_sem ↓] Go.wp_at_zero Go.wp_at_succ

set_option maxHeartbeats 4000000 in
set_option maxRecDepth 100000 in
theorem put_c (base : Nat) (v : Value) (l : List Cn) (x : Cn) (w : World) (hO : w.ownsRow base 35 7 v l.length (l.flatMap encC)) (hA : Cs w v l) (hr : Rising cmpC l) (hbase : base ≤ w.heap.size) (hl : l.length ≤ 1000000) (hX : Vs w x.sv x.set) :
    Calls Tryz.prog 34 #[v, cc x, .func (.func 35) #[] #[]] w (Puts cmpC encC 35 7 base v l x w) := by
  obtain ⟨p0, cap0, rfl⟩ := own_shape hO
  obtain ⟨W0, hW0⟩ : ∃ W0, W0 = w.alloc (.cells #[.string x.nm, .int .i64 x.op, .int .i64 x.v.k, .int .i64 x.v.n, .string x.v.s, .bool x.v.b, .slice x.sp x.set.length x.sc] 35) := ⟨_, rfl⟩
  have hB0 : Below w.heap.size w W0 := by rw [hW0]; exact below_one _ _
  have hx : Blk W0 w.heap.size 35 #[.string x.nm, .int .i64 x.op, .int .i64 x.v.k, .int .i64 x.v.n, .string x.v.s, .bool x.v.b, .slice x.sp x.set.length x.sc] := by rw [hW0]; exact Blk.new _ _ _
  have HS := Lib.hid (bsearch_c (.slice p0 l.length cap0) l x W0 (hA.later hB0) hr (hX.later hB0))
  have HO := Lib.hid hO
  have HB0 := Lib.hid hB0
  have HX := Lib.hid hx
  have HW0 := Lib.hid hW0
  clear hA hr hO hB0 hx hW0 hX
  go_enter Tryz.func34, Tryz.ntmps34
  go_wp2_with fail
  rw [← HW0.out]
  refine HS.out.mono ?_; rintro e w1 ⟨p, hP, rfl, b1⟩
  have HPl := Lib.hid (place_ins hP)
  have hpl : p ≤ l.length := hP.1
  have HX1 := Lib.hid (HX.out.later b1)
  have HB1 := Lib.hid (then_ HB0.out b1)
  obtain ⟨h, hh⟩ : ∃ h, hitB cmpC l x p = h := ⟨_, rfl⟩
  rw [hh] at HPl ⊢
  clear hP hh b1
  cases h with
  | true =>
    go_wp2_with fail
    go_ret
    refine ⟨.slice p0 l.length cap0, rfl, ?_, grown_below HB1.out _⟩
    rw [HPl.out.1 (by trivial)]
    exact own_later HO.out HB1.out
  | false =>
    have hxc : Seven w1 w.heap.size 0 x := ⟨HX1.out.cell 0 rfl, HX1.out.cell 1 rfl, HX1.out.cell 2 rfl, HX1.out.cell 3 rfl, HX1.out.cell 4 rfl, HX1.out.cell 5 rfl, HX1.out.cell 6 rfl⟩
    obtain ⟨c0, c1, c2, c3, c4, c5, c6⟩ := hxc
    go_wp2_with fail
    refine (ins_c base _ l p x _ w1.heap.size (Blk.new w1 _ _) ((own_later HO.out HB1.out).alloc _) ?_ hl hpl ?_).mono ?_
    · have := HB1.out.size; simp; omega
    · intro hv
      have := (World.ownsRow.lt HO.out _ hv).2
      have := HB1.out.size; omega
    · rintro e w2 ⟨v2, rfl, hO2, hg2⟩
      have HO2 := Lib.hid hO2
      have HG2 := Lib.hid (grown_then (HB1.out.alloc HB1.out.size _) hg2)
      clear hO2 hg2
      go_wp2_with fail
      go_ret
      have hE := HPl.out.2 (by trivial)
      have hLen : (insL cmpC l x).length = l.length + 1 := by rw [hE]; simp; omega
      exact ⟨v2, rfl, by rw [hLen, hE]; exact HO2.out, HG2.out⟩
end Go.Proofs.YtfjfdajachcnjaaGreat.Gm
