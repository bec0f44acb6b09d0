/- Layer 8, plain: the document's index is a rising row: has, put in, taken out. -/
import Derived.Test.YtlnjmcodgdebmaaGreatHi
import Derived.Test.YtlnjmcodgdebmaaGreatKh
/- Layer 8: the document's Get. -/
/- Layer 8: the document's has, Get of one that is not there. -/
set_option linter.unusedSimpArgs false
set_option linter.unusedVariables false
namespace Go.Proofs.YtlnjmcodgdebmaaGreat.Gm
open Go Go.RowKit
attribute [local go_sem ↓] Go.wp_at_zero Go.wp_at_succ

/-- Is there one of that number? -/
def hasOf (l : List Itm) (id : Int) : Bool := if atOf l id < l.length then decide ((l.getD (atOf l id) default).1 = id) else false
theorem atOf_le (l : List Itm) (id : Int) : atOf l id ≤ l.length := List.findIdx_le_length
set_option maxHeartbeats 2000000 in
set_option maxRecDepth 20000 in
theorem has_any (g : Nat) (v : Value) (l : List Itm) (id : Int) (w : World) (h : Ref8 w g v l) :
    Calls Tryz.prog 30 #[.pointer (some ⟨g, 0, none⟩), .int .i64 id] w (Gives (.bool (hasOf l id)) w) := by
  obtain ⟨p, cap, rfl⟩ := h.row.form
  have HR := Lib.hid h
  have HC := Lib.hid (at_any g _ l id w h)
  have hlen := h.len
  clear h
  obtain ⟨k, hk⟩ : ∃ k, atOf l id = k := ⟨_, rfl⟩
  have hkl := atOf_le l id
  have HH : Hid (hasOf l id = if k < l.length then decide ((l.getD k default).1 = id) else false) := Lib.hid (by rw [← hk]; rfl)
  rw [hk] at HC hkl
  clear hk
  go_enter Tryz.func30, Tryz.ntmps30
  go_wp2_with fail
  refine HC.out.mono ?_; rintro e w1 ⟨rfl, b1⟩
  have h0 := (HR.out.later b1).c
  have hl0 := (HR.out.later b1).lt
  have HB := Lib.hid b1
  clear b1
  by_cases hlt : k < l.length
  · obtain ⟨p1, cap1, b, o, hv, hp, hb, c0, c1⟩ := itm_at (HR.out.later HB.out).row hlt
    simp only [Value.slice.injEq] at hv
    obtain ⟨rfl, _, rfl⟩ := hv
    have hidx := idx_i p b o l.length cap k hp hlt
    have HE := Lib.hid HH.out
    rw [if_pos hlt] at HE
    obtain ⟨x, hx⟩ : ∃ x, l.getD k default = x := ⟨_, rfl⟩
    rw [hx] at c0 HE
    clear hx hp c1
    by_cases hq : x.1 = id
    · have HF : Hid (hasOf l id = true) := Lib.hid (by rw [HE.out]; simp [hq])
      go_wp2_with fail
      go_ret
      exact ⟨ret_bool (by rw [HF.out]), HB.out⟩
    · have HF : Hid (hasOf l id = false) := Lib.hid (by rw [HE.out]; simp [hq])
      go_wp2_with fail
      go_ret
      exact ⟨ret_bool (by rw [HF.out]; exact beq_eq_false_iff_ne.2 hq), HB.out⟩
  · have HF : Hid (hasOf l id = false) := Lib.hid (by rw [HH.out, if_neg hlt])
    go_wp2_with fail
    go_ret
    exact ⟨ret_bool (by rw [HF.out]), HB.out⟩
end Go.Proofs.YtlnjmcodgdebmaaGreat.Gm
set_option linter.unusedSimpArgs false
set_option linter.unusedVariables false
namespace Go.Proofs.YtlnjmcodgdebmaaGreat.Gm
open Go Go.RowKit
attribute [local go_sem ↓] Go.wp_at_zero Go.wp_at_succ

set_option maxHeartbeats 2000000 in
set_option maxRecDepth 20000 in
theorem rget_not (g : Nat) (v : Value) (l : List Itm) (id : Int) (w : World) (h : Ref8 w g v l) (hn : hasOf l id = false) :
    Calls Tryz.prog 18 #[.pointer (some ⟨g, 0, none⟩), .int .i64 id] w (Gives (.tuple #[.slice none 0 0, .bool false]) w) := by
  have HC := Lib.hid (has_any g _ l id w h)
  rw [hn] at HC
  clear h hn
  go_enter Tryz.func18, Tryz.ntmps18
  go_wp2_with fail
  refine HC.out.mono ?_; rintro e w1 ⟨rfl, b1⟩
  have HB := Lib.hid b1
  clear b1
  go_wp2_with fail
  go_ret2
  exact ⟨rfl, HB.out⟩
theorem has_lt {l : List Itm} {id : Int} (h : hasOf l id = true) : atOf l id < l.length := by
  by_cases hl : atOf l id < l.length
  · exact hl
  · rw [hasOf, if_neg hl] at h; cases h
set_option maxHeartbeats 2000000 in
set_option maxRecDepth 20000 in
theorem rget_there (g : Nat) (v : Value) (l : List Itm) (id : Int) (w : World) (h : Ref8 w g v l) (hn : hasOf l id = true) (p0 : Option Addr) (n0 cap0 : Nat) (hv0 : (l.getD (atOf l id) default).2 = .slice p0 n0 cap0) :
    Calls Tryz.prog 18 #[.pointer (some ⟨g, 0, none⟩), .int .i64 id] w (Gives (.tuple #[.slice p0 n0 cap0, .bool true]) w) := by
  obtain ⟨p, cap, rfl⟩ := h.row.form
  have HC := Lib.hid (has_any g _ l id w h)
  have HA := Lib.hid (fun W (hb : Below w.heap.size w W) => at_any g _ l id W (h.later hb))
  have HR := Lib.hid h
  have hlt := has_lt hn
  rw [hn] at HC
  obtain ⟨k, hk⟩ : ∃ k, atOf l id = k := ⟨_, rfl⟩
  rw [hk] at HA hlt hv0
  clear h hn hk
  go_enter Tryz.func18, Tryz.ntmps18
  go_wp2_with fail
  refine HC.out.mono ?_; rintro e w1 ⟨rfl, b1⟩
  have HB := Lib.hid b1
  have h0 := (HR.out.later b1).c
  have hl0 := (HR.out.later b1).lt
  clear b1
  obtain ⟨p1, cap1, b, o, hv, hp, hb, c0, c1⟩ := itm_at (HR.out.later HB.out).row hlt
  simp only [Value.slice.injEq] at hv
  obtain ⟨rfl, _, rfl⟩ := hv
  rw [hv0] at c1
  have hidx := idx_i p b o l.length cap k hp hlt
  have HAll := Lib.hid (fun W (hb1 : Below w1.heap.size w1 W) => show Below w1.heap.size w1 W ∧ W.cell? ⟨g, 0, none⟩ = some (.slice p l.length cap) ∧ W.cell? ⟨b, o + k * 2 + 1, none⟩ = some (.slice p0 n0 cap0) from ⟨hb1, (Below.cell hb1 (p := ⟨g, 0, none⟩) hl0).trans h0, (Below.cell hb1 (p := ⟨b, o + k * 2 + 1, none⟩) hb).trans c1⟩)
  clear hp c0 hv0 hb
  go_wp2_with fail
  go_region_held3 (fun w' => Below w1.heap.size w1 w' ∧ w'.cell? ⟨g, 0, none⟩ = some (.slice p l.length cap) ∧ w'.cell? ⟨b, o + k * 2 + 1, none⟩ = some (.slice p0 n0 cap0))
    (first | assumption | (refine HAll.out _ ?_; first | exact s22_call (by assumption) (by assumption) | exact (Below.refl _ _).drew))
    (first | (go_at_call 31; (with_reducible refine (HA.out _ (then_ HB.out (And.left (by assumption)))).mono ?_); rintro e w6 ⟨rfl, b6⟩))
  rename_i hh
  have HEnd := Lib.hid (then_ HB.out hh.1)
  clear hh
  go_wp2
  go_ret2
  exact ⟨rfl, HEnd.out⟩
end Go.Proofs.YtlnjmcodgdebmaaGreat.Gm
set_option linter.unusedSimpArgs false
set_option linter.unusedVariables false
namespace Go.Proofs.YtlnjmcodgdebmaaGreat.Gm
open Go Go.RowKit

def Rise8 (l : List Itm) : Prop := l.Pairwise fun a b => a.1 < b.1
theorem atOf_cons (x : Itm) (l : List Itm) (id : Int) : atOf (x :: l) id = if x.1 < id then atOf l id + 1 else 0 := by
  unfold atOf
  rw [List.findIdx_cons]
  by_cases h : x.1 < id <;> simp [h]
theorem hasOf_cons (x : Itm) (l : List Itm) (id : Int) : hasOf (x :: l) id = if x.1 < id then hasOf l id else decide (x.1 = id) := by
  unfold hasOf
  rw [atOf_cons]
  by_cases h : x.1 < id
  · rw [if_pos h, if_pos h]
    by_cases hl : atOf l id < l.length
    · rw [if_pos hl, if_pos (by simpa using hl)]; simp
    · rw [if_neg hl, if_neg (by simpa using hl)]
  · rw [if_neg h, if_neg h]; simp
theorem hasOf_iff {l : List Itm} (h : Rise8 l) (id : Int) : hasOf l id = true ↔ ∃ e ∈ l, e.1 = id := by
  induction l with
  | nil => simp [hasOf, atOf]
  | cons x l ih =>
    obtain ⟨h1, h2⟩ := List.pairwise_cons.1 h
    rw [hasOf_cons]
    by_cases hx : x.1 < id
    · rw [if_pos hx, ih h2]
      constructor
      · rintro ⟨e, he, hi⟩; exact ⟨e, List.mem_cons_of_mem _ he, hi⟩
      · rintro ⟨e, he, hi⟩
        rcases List.mem_cons.1 he with rfl | he
        · omega
        · exact ⟨e, he, hi⟩
    · rw [if_neg hx, decide_eq_true_iff]
      constructor
      · intro hi; exact ⟨x, List.mem_cons_self, hi⟩
      · rintro ⟨e, he, hi⟩
        rcases List.mem_cons.1 he with rfl | he
        · exact hi
        · have := h1 e he; omega
/-- One is put in at its place. -/
def putIn (l : List Itm) (e : Itm) : List Itm := l.take (atOf l e.1) ++ e :: l.drop (atOf l e.1)
theorem putIn_cons (x : Itm) (l : List Itm) (e : Itm) : putIn (x :: l) e = if x.1 < e.1 then x :: putIn l e else e :: x :: l := by
  unfold putIn
  rw [atOf_cons]
  by_cases h : x.1 < e.1 <;> simp [h]
theorem putIn_perm (l : List Itm) (e : Itm) : (putIn l e).Perm (e :: l) := by
  induction l with
  | nil => exact List.Perm.refl _
  | cons x l ih =>
    rw [putIn_cons]
    by_cases h : x.1 < e.1
    · rw [if_pos h]; exact (List.Perm.cons x ih).trans (List.Perm.swap e x l)
    · rw [if_neg h]
theorem putIn_rise {l : List Itm} (h : Rise8 l) {e : Itm} (hn : hasOf l e.1 = false) : Rise8 (putIn l e) := by
  induction l with
  | nil => simp [putIn, Rise8]
  | cons x l ih =>
    obtain ⟨h1, h2⟩ := List.pairwise_cons.1 h
    rw [hasOf_cons] at hn
    rw [putIn_cons]
    by_cases hx : x.1 < e.1
    · rw [if_pos hx] at hn ⊢
      refine List.pairwise_cons.2 ⟨fun y hy => ?_, ih h2 hn⟩
      rcases List.mem_cons.1 ((putIn_perm l e).mem_iff.1 hy) with rfl | hy
      · exact hx
      · exact h1 y hy
    · rw [if_neg hx] at hn ⊢
      have hne : ¬ x.1 = e.1 := by simpa using hn
      refine List.pairwise_cons.2 ⟨fun y hy => ?_, h⟩
      rcases List.mem_cons.1 hy with rfl | hy
      · omega
      · have := h1 y hy; omega
/-- One is taken out. -/
def takeOut (l : List Itm) (id : Int) : List Itm := l.take (atOf l id) ++ l.drop (atOf l id + 1)
theorem takeOut_cons (x : Itm) (l : List Itm) (id : Int) : takeOut (x :: l) id = if x.1 < id then x :: takeOut l id else l := by
  unfold takeOut
  rw [atOf_cons]
  by_cases h : x.1 < id <;> simp [h]
theorem takeOut_filter {l : List Itm} (h : Rise8 l) {id : Int} (hi : hasOf l id = true) : takeOut l id = l.filter fun e => !decide (e.1 = id) := by
  induction l with
  | nil => simp [hasOf, atOf] at hi
  | cons x l ih =>
    obtain ⟨h1, h2⟩ := List.pairwise_cons.1 h
    rw [hasOf_cons] at hi
    rw [takeOut_cons, List.filter_cons]
    by_cases hx : x.1 < id
    · rw [if_pos hx] at hi ⊢
      rw [ih h2 hi, if_pos (by simp; omega)]
    · rw [if_neg hx] at hi ⊢
      have he : x.1 = id := by simpa using hi
      rw [if_neg (by simp [he])]
      symm
      rw [List.filter_eq_self]
      intro y hy
      have := h1 y hy
      simp; omega
theorem takeOut_rise {l : List Itm} (h : Rise8 l) {id : Int} (hi : hasOf l id = true) : Rise8 (takeOut l id) := by
  rw [takeOut_filter h hi]; exact List.Pairwise.filter _ h
/-- What is picked out of two rows of the same numbers, the one rising, is the same when sorted. -/
theorem pick_sorted {l : List Itm} (h : Rise8 l) (D : List Itm) (hp : l.Perm D) (f : Itm → Bool) :
    ((D.filter f).map (·.1)).mergeSort (fun x y => decide (x ≤ y)) = (l.filter f).map (·.1) := by
  have hq : ((l.filter f).map (·.1)).Perm (((D.filter f).map (·.1)).mergeSort fun x y => decide (x ≤ y)) :=
    ((hp.filter f).map _).trans (List.mergeSort_perm _ _).symm
  have hs : ((l.filter f).map (·.1)).Pairwise (fun x y : Int => x ≤ y) := by
    rw [List.pairwise_map]
    exact (List.Pairwise.filter f h).imp fun {a b} hab => Int.le_of_lt hab
  have ht : (((D.filter f).map (·.1)).mergeSort fun x y => decide (x ≤ y)).Pairwise (fun x y : Int => x ≤ y) := by
    have := List.pairwise_mergeSort (le := fun x y : Int => decide (x ≤ y)) (fun a b c h1 h2 => by simp at *; omega) (fun a b => by simp; omega) ((D.filter f).map (·.1))
    exact this.imp fun {a b} hab => by simpa using hab
  exact (hq.eq_of_pairwise (fun a b _ _ h1 h2 => Int.le_antisymm h1 h2) hs ht).symm
end Go.Proofs.YtlnjmcodgdebmaaGreat.Gm
