/- The contract of package pred's gather at values: they are put in order, one by one. -/
import Derived.Test.YtaplgoachembdaaGreatKlv
set_option linter.unusedSimpArgs false
set_option linter.unusedVariables false
namespace Go.Proofs.YtaplgoachembdaaGreat.Gm
open Go Go.RowKit
attribute [local go_sem ↓] Go.wp_at_zero Go.wp_at_succ

set_option maxHeartbeats 4000000 in
set_option maxRecDepth 100000 in
theorem with_v (base : Nat) (v : Value) (l : List Vl) (x : Vl) (w : World) (hO : w.ownsRow base 42 4 v l.length (l.flatMap encV)) (hr : Rising cmpW l) (hbase : base ≤ w.heap.size) (hl : l.length ≤ 1000000) :
    Calls Tryz.prog 63 #[v, vv x] w (Puts cmpW encV 42 4 base v l x w) := by
  obtain ⟨p0, cap0, rfl⟩ := own_shape hO
  have hB0 := below_one w (.cells #[.int .i64 x.k, .int .i64 x.n, .string x.s, .bool x.b] 42)
  have HP := Lib.hid (put_v base (.slice p0 l.length cap0) l x _ (own_later hO hB0) (OwnV.vs (own_later hO hB0) (by omega)) hr (by simp; omega) hl)
  have HB0 := Lib.hid hB0
  clear hO hr hB0
  go_enter Tryz.func63, Tryz.ntmps63
  go_wp2_with fail
  refine HP.out.mono ?_; rintro e w1 ⟨v1, rfl, h1, h2⟩
  have H1 := Lib.hid h1
  have H2 := Lib.hid (grown_then HB0.out h2)
  clear h1 h2
  go_wp2_with fail
  go_ret
  exact ⟨v1, rfl, H1.out, H2.out⟩

/-- What gather leaves of values: a row of the call's own, in order. -/
def GathV (l : List Vl) (w : World) (e : Ending) (w' : World) : Prop := ∃ p c, e = .returned (.slice p (sortL cmpW l).length c) ∧ OwnV w' w.heap.size (.slice p (sortL cmpW l).length c) (sortL cmpW l) ∧ Below w.heap.size w w'
theorem fold_step {α : Type} [Inhabited α] {f : List α → α → List α} {l a : List α} {k : Nat} (h : k < l.length) : (l.take (k + 1)).foldl f a = f ((l.take k).foldl f a) (l.getD k default) := by
  rw [List.take_succ_eq_append_getElem h, List.foldl_append, List.getD_eq_getElem?_getD, List.getElem?_eq_getElem h]
  rfl
theorem take_len {α : Type} {f : α → α → Int} (l : List α) (k : Nat) : ((l.take k).foldl (insL f) []).length ≤ l.length := by
  have := foldl_length (f := f) (l.take k) []
  have h2 := List.length_take_le k l
  have h3 := List.length_take (i := k) (l := l)
  simp only [List.length_nil] at this; omega
theorem grown_in {B : Nat} {w0 w w' : World} {v : Value} {e : TypeId} {n m : Nat} {xs : List Value} (h : Below B w0 w) (hO : w.ownsRow B e n v m xs) (hB : B ≤ w.heap.size) (hg : w.grownBy w' v.ownBlock) : Below B w0 w' :=
  h.grown hg hB (fun k hk => (World.ownsRow.lt hO k hk).1)
set_option maxHeartbeats 4000000 in
set_option maxRecDepth 100000 in
theorem gather_v (v : Value) (l : List Vl) (w : World) (hA : Vs w v l) (hl : l.length ≤ 100000) :
    Calls Tryz.prog 62 #[v, .func (.func 63) #[] #[]] w (GathV l w) := by
  obtain ⟨p, cap, rfl⟩ := hA.1.form
  have HA := Lib.hid hA
  clear hA
  go_enter Tryz.func62, Tryz.ntmps62
  go_wp2
  go_loopw [5, 10] (fun into i wr => ∃ k : Nat, k ≤ l.length ∧ i = .int .i64 k ∧ Hid (OwnV wr w.heap.size into ((l.take k).foldl (insL cmpW) [])) ∧ Hid (Below w.heap.size w wr)) (fun _ i _ => l.length - (intOf i).toNat)
  case atStart => exact ⟨0, Nat.zero_le _, rfl, Lib.hid (OwnV.nil _ _), Lib.hid (Below.refl _ _)⟩
  case round =>
    obtain ⟨k, hk, rfl, HO, HBel⟩ := hrel
    obtain ⟨pI, capI, rfl⟩ := own_shape HO.out
    by_cases hkl : k < l.length
    · obtain ⟨p1, cap1, b, o, hv, hp, hb, h4⟩ := four_at HA.out.1 hkl
      simp only [Value.slice.injEq] at hv
      obtain ⟨rfl, _, rfl⟩ := hv
      have hidx := idx_v1 p b o l.length cap k hp hkl
      obtain ⟨c0, c1, c2, c3⟩ := h4.later HBel.out
      have HF := Lib.hid (fold_step (f := insL cmpW) (a := []) hkl)
      have HLen := Lib.hid (take_len (f := cmpW) l k)
      have HRs := Lib.hid (foldl_rising weakW (l.take k) [] .nil)
      obtain ⟨M, hM⟩ : ∃ M, (l.take k).foldl (insL cmpW) [] = M := ⟨_, rfl⟩
      rw [hM] at HO HF HLen HRs ⊢
      obtain ⟨x, hx⟩ : ∃ x, l.getD k default = x := ⟨_, rfl⟩
      rw [hx] at c0 c1 c2 c3 HF
      clear hM hx hp h4 hb
      go_wp2_with fail
      refine (with_v w.heap.size (.slice pI M.length capI) M x _ ((own_later HO.out (below_one wr _))) HRs.out (by have := HBel.out.size; simp; omega) (by have := HLen.out; omega)).mono ?_
      rintro e w1 ⟨v1, rfl, h1, h2⟩
      have H1 := Lib.hid h1
      have H2 := Lib.hid (grown_in (HBel.out.alloc HBel.out.size _) (own_later HO.out (below_one wr _)) (by have := HBel.out.size; simp; omega) h2)
      clear h1 h2
      go_wp2_with fail
      go_roundw
      case rel => exact ⟨k + 1, by omega, by simp, Lib.hid (by unfold OwnV; rw [HF.out]; exact H1.out), H2⟩
      case measure => simp [intOf]; omega
    · have hke : k = l.length := by omega
      subst hke
      have HE : Hid ((l.take l.length).foldl (insL cmpW) [] = sortL cmpW l) := Lib.hid (by rw [List.take_length]; rfl)
      have HR : Hid (OwnV wr w.heap.size (.slice pI (sortL cmpW l).length capI) (sortL cmpW l)) := Lib.hid (by have := HO.out; rw [HE.out] at this; exact this)
      rw [HE.out]
      clear HO
      go_wp2
      go_ret
      exact ⟨pI, capI, rfl, HR.out, HBel.out⟩
end Go.Proofs.YtaplgoachembdaaGreat.Gm
