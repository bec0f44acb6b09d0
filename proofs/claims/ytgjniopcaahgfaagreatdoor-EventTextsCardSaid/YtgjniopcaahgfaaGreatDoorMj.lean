/- Attributes sorted by their names: what sorting gives; the contracts of the closure that Make hands to the sort. -/
import Derived.Test.YtgjniopcaahgfaaGreatDoorMi
import Derived.Test.YtgjniopcaahgfaaGreatDoorPo
import Derived.Shelf.SlSortCmp.WholeK
import Derived.Shelf.SlSortCmp.NoneTotal
import Derived.Shelf.SlicesE.Clone
set_option linter.unusedSimpArgs false
set_option linter.unusedVariables false
namespace Go.Proofs.YtgjniopcaahgfaaGreatDoor
open Go.RowKit
attribute [local go_sem ↓] Go.wp_at_zero Go.wp_at_succ

/-- How two attributes stand by their names. -/
def cmpN (x y : Attr) : Int := Lib.compareBytes x.nm.data.toList y.nm.data.toList
theorem lessN_cmp (x y : Attr) : lessN x.nm y.nm = decide (cmpN x y < 0) := by
  unfold lessN cmpN
  rw [less_iff, toList_data, toList_data]
  rcases compareBytes_three x.nm.data.toList y.nm.data.toList with h | ⟨h, _⟩ | h <;> rw [h] <;> decide
theorem cmpN_lt {x y : Attr} : cmpN x y < 0 ↔ cmpN x y = -1 := by
  unfold cmpN
  rcases compareBytes_three x.nm.data.toList y.nm.data.toList with h | ⟨h, _⟩ | h <;> rw [h] <;> decide
theorem cmpN_neg (x y : Attr) : cmpN y x = - cmpN x y := compareBytes_neg _ _
theorem cmpN_trans {x y z : Attr} (h : cmpN x y < 0) (h2 : cmpN y z < 0) : cmpN x z < 0 := by
  rw [cmpN_lt] at *
  exact bytes_lt3 _ _ _ h h2
theorem cmpN_zero {x y : Attr} (h : cmpN x y = 0) : x.nm = y.nm := by
  unfold cmpN at h
  rcases compareBytes_three x.nm.data.toList y.nm.data.toList with h1 | ⟨_, h1⟩ | h1
  · omega
  · exact bytes_eq h1
  · omega
theorem cmpN_self (x : Attr) : cmpN x x = 0 := compareBytes_self _
theorem cmpN_same {x y z : Attr} (h : x.nm = y.nm) : cmpN x z = cmpN y z ∧ cmpN z x = cmpN z y := by unfold cmpN; rw [h]; exact ⟨rfl, rfl⟩
theorem swoN : Sort.SWO (ltOf cmpN) where
  irrefl x := by unfold ltOf; rw [cmpN_self]; decide
  trans x y z h h2 := by
    unfold ltOf at *
    exact decide_eq_true (cmpN_trans (of_decide_eq_true h) (of_decide_eq_true h2))
  ntrans x y z h h2 := by
    unfold ltOf at *
    rw [decide_eq_false_iff_not] at *
    intro h3
    by_cases e1 : cmpN x y = 0
    · exact h2 ((cmpN_same (z := z) (cmpN_zero e1)).1 ▸ h3)
    · by_cases e2 : cmpN y z = 0
      · exact h ((cmpN_same (z := x) (cmpN_zero e2)).2 ▸ h3)
      · have a1 : cmpN y x < 0 := by rw [cmpN_neg]; omega
        have a2 : cmpN z y < 0 := by rw [cmpN_neg]; omega
        have := cmpN_trans a2 a1
        rw [cmpN_neg] at this; omega

/-- None stands ahead of one that its name is less than. -/
def SortN (l : List Attr) : Prop := l.Pairwise fun a b => ¬ cmpN b a < 0
theorem rise_less : ∀ {p : List UInt8} {l : List Attr}, riseB p l = true → l.Pairwise fun a b => cmpN a b < 0
  | _, [], _ => .nil
  | p, [a], _ => .cons (by simp) .nil
  | p, a :: b :: r, h => by
    have h1 := h
    simp only [riseB, Bool.and_eq_true] at h1
    have ih := rise_less (p := a.nm.data.toList) (l := b :: r) (by simp only [riseB, Bool.and_eq_true]; exact h1.2)
    have hab : cmpN a b < 0 := by
      have h2 : lessN a.nm b.nm = true := by unfold lessN; rw [toList_data, toList_data]; exact h1.2.1.2
      rw [lessN_cmp] at h2; exact of_decide_eq_true h2
    refine .cons (fun x hx => ?_) ih
    rcases List.mem_cons.1 hx with rfl | hx
    · exact hab
    · exact cmpN_trans hab (List.rel_of_pairwise_cons ih hx)
/-- Attributes that rise are the only sorted row of themselves. -/
theorem sort_unique {l l' : List Attr} {key : ByteArray} (hp : l.Perm l') (hs : SortN l) (hm : mayE key l' = true) : l = l' := by
  have hr := rise_less (rise_of_may hm)
  have inj : ∀ (r : List Attr), r.Pairwise (fun a b => cmpN a b < 0) → ∀ a b, a ∈ r → b ∈ r → cmpN a b = 0 → a = b := by
    intro r hr
    induction hr with
    | nil => intro a b ha; simp at ha
    | @cons c r hc _ ih =>
      intro a b ha hb h0
      rcases List.mem_cons.1 ha with e1 | ha2 <;> rcases List.mem_cons.1 hb with e2 | hb2
      · rw [e1, e2]
      · rw [e1] at h0; have := hc b hb2; omega
      · rw [e2] at h0; have := hc a ha2; rw [cmpN_neg] at h0; omega
      · exact ih a b ha2 hb2 h0
  refine List.Perm.eq_of_pairwise (le := fun a b => ¬ cmpN b a < 0) (fun a b ha hb h1 h2 => ?_) hs (hr.imp fun {a b} h => by have := cmpN_neg a b; omega) hp
  refine inj l' hr a b (hp.subset ha) hb ?_
  have := cmpN_neg a b; omega

open Go.Sort in
set_option maxHeartbeats 1000000 in
/-- The closure that Make hands to the sort. -/
theorem closure_any (x y : Attr) (W : World) : Calls Tryz.prog 39 #[.agg (encA x).toArray, .agg (encA y).toArray] W fun e w' => e = .returned (.int .i64 (cmpN x y)) ∧ ∃ q os', w' = grow (W.drewN q) os' := by
  have hcon := fun W' => Tryz.strings_Compare x.nm y.nm W'
  unfold cmpN
  generalize Lib.compareBytes x.nm.data.toList y.nm.data.toList = r at hcon ⊢
  show Calls Tryz.prog 39 #[.agg #[.string x.nm, .int .i64 x.k, .int .i64 x.n, .string x.s, .bool x.b], .agg #[.string y.nm, .int .i64 y.k, .int .i64 y.n, .string y.s, .bool y.b]] W _
  go_enter Tryz.func39, Tryz.ntmps39
  go_wp2_with (go_at_call 40; refine (hcon _).mono ?_; rintro e w' ⟨rfl, rfl⟩)
  go_ret
  exact ⟨rfl, 0, _, by rw [alloc_eq_grow, alloc_eq_grow, grow_grow]; rfl⟩
theorem cmpLays (blk off size : Nat) (w : World) : CmpLays Tryz.prog 39 #[] encA 5 cmpN blk off size w := fun _ _ _ _ x y => closure_any x y _
end Go.Proofs.YtgjniopcaahgfaaGreatDoor
