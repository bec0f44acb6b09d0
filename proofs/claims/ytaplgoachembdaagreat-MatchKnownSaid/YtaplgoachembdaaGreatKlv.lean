/- The contract of package pred's put at values: a row in order takes one more. -/
import Derived.Test.YtaplgoachembdaaGreatKiv
import Derived.Test.YtaplgoachembdaaGreatKkv
set_option linter.unusedSimpArgs false
set_option linter.unusedVariables false
namespace Go.Proofs.YtaplgoachembdaaGreat.Gm
open Go Go.RowKit
attribute [local go_sem ↓] Go.wp_at_zero Go.wp_at_succ

/-- What put leaves: a row of the call's own that has taken x; of what was there the old row's block alone may have changed. -/
def Puts {α : Type} (f : α → α → Int) (enc : α → List Value) (T : TypeId) (n : Nat) (base : Nat) (v : Value) (l : List α) (x : α) (w : World) (e : Ending) (w' : World) : Prop :=
  ∃ v', e = .returned v' ∧ w'.ownsRow base T n v' (insL f l x).length ((insL f l x).flatMap enc) ∧ w.grownBy w' v.ownBlock
theorem grown_then {w w1 w2 : World} {r : Option Nat} (h : Below w.heap.size w w1) (k : w1.grownBy w2 r) : w.grownBy w2 r := World.grownBy.trans (grown_below h r) k
theorem place_ins {α : Type} [Inhabited α] {f : α → α → Int} {l : List α} {x : α} {p : Nat} (h : Place f l x p) : (hitB f l x p = true → insL f l x = l) ∧ (hitB f l x p = false → insL f l x = l.take p ++ x :: l.drop p) := by
  have hi := insL_at l x p h.1 h.2.1 h.2.2
  unfold hitB
  refine ⟨fun hh => ?_, fun hh => hi.2 fun h1 h2 => ?_⟩
  · simp only [Bool.and_eq_true, decide_eq_true_eq] at hh
    exact hi.1 hh.1 hh.2
  · rw [decide_eq_true h1, decide_eq_true h2] at hh
    cases hh

set_option maxHeartbeats 4000000 in
set_option maxRecDepth 100000 in
theorem put_v (base : Nat) (v : Value) (l : List Vl) (x : Vl) (w : World) (hO : w.ownsRow base 42 4 v l.length (l.flatMap encV)) (hA : Vs w v l) (hr : Rising cmpW l) (hbase : base ≤ w.heap.size) (hl : l.length ≤ 1000000) :
    Calls Tryz.prog 101 #[v, vv x, .func (.func 94) #[] #[]] w (Puts cmpW encV 42 4 base v l x w) := by
  obtain ⟨p0, cap0, rfl⟩ := own_shape hO
  obtain ⟨W0, hW0⟩ : ∃ W0, W0 = w.alloc (.cells #[.int .i64 x.k, .int .i64 x.n, .string x.s, .bool x.b] 42) := ⟨_, rfl⟩
  have hB0 : Below w.heap.size w W0 := by rw [hW0]; exact below_one _ _
  have hx : Blk W0 w.heap.size 42 #[.int .i64 x.k, .int .i64 x.n, .string x.s, .bool x.b] := by rw [hW0]; exact Blk.new _ _ _
  have HS := Lib.hid (bsearch_v (.slice p0 l.length cap0) l x W0 (hA.later hB0) hr)
  have HO := Lib.hid hO
  have HB0 := Lib.hid hB0
  have HX := Lib.hid hx
  have HW0 := Lib.hid hW0
  clear hA hr hO hB0 hx hW0
  go_enter Tryz.func101, Tryz.ntmps101
  go_wp2_with fail
  rw [← HW0.out]
  refine HS.out.mono ?_; rintro e w1 ⟨p, hP, rfl, b1⟩
  have HPl := Lib.hid (place_ins hP)
  have hpl : p ≤ l.length := hP.1
  have HX1 := Lib.hid (HX.out.later b1)
  have HB1 := Lib.hid (then_ HB0.out b1)
  obtain ⟨h, hh⟩ : ∃ h, hitB cmpW l x p = h := ⟨_, rfl⟩
  rw [hh] at HPl ⊢
  clear hP hh b1
  cases h with
  | true =>
    go_wp2_with fail
    go_ret
    refine ⟨.slice p0 l.length cap0, rfl, ?_, grown_below HB1.out _⟩
    rw [HPl.out.1 (by trivial)]
    exact own_later HO.out HB1.out
  | false =>
    have hxc : Four w1 w.heap.size 0 x := ⟨HX1.out.cell 0 rfl, HX1.out.cell 1 rfl, HX1.out.cell 2 rfl, HX1.out.cell 3 rfl⟩
    obtain ⟨c0, c1, c2, c3⟩ := hxc
    go_wp2_with fail
    refine (ins_v base _ l p x _ w1.heap.size (Blk.new w1 _ _) ((own_later HO.out HB1.out).alloc _) ?_ hl hpl ?_).mono ?_
    · have := HB1.out.size; simp; omega
    · intro hv
      have := (World.ownsRow.lt HO.out _ hv).2
      have := HB1.out.size; omega
    · rintro e w2 ⟨v2, rfl, hO2, hg2⟩
      have HO2 := Lib.hid hO2
      have HG2 := Lib.hid (grown_then (HB1.out.alloc HB1.out.size _) hg2)
      clear hO2 hg2
      go_wp2_with fail
      go_ret
      have hE := HPl.out.2 (by trivial)
      have hLen : (insL cmpW l x).length = l.length + 1 := by rw [hE]; simp; omega
      exact ⟨v2, rfl, by rw [hLen, hE]; exact HO2.out, HG2.out⟩
end Go.Proofs.YtaplgoachembdaaGreat.Gm
