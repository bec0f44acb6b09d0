/- Layer 8: the document's Remove. -/
import Derived.Test.YtaplgoachembdaaGreatHh
import Derived.Test.YtaplgoachembdaaGreatKgv
import Derived.Test.YtaplgoachembdaaGreatRMe
/- Layer 8: the document's has, Get of one that is not there. -/
/- Layer 8: the document's index in memory; at. -/
set_option linter.unusedSimpArgs false
set_option linter.unusedVariables false
namespace Go.Proofs.YtaplgoachembdaaGreat.Gm
open Go Go.RowKit
attribute [local go_sem ↓] Go.wp_at_zero Go.wp_at_succ

/-- An item: a number and a slice. -/
abbrev Itm := Int × Value
def encItm (x : Itm) : List Value := [.int .i64 x.1, x.2]
theorem itm_at {w : World} {v : Value} {l : List Itm} (h : RowIn encItm 2 w v l) {i : Nat} (hi : i < l.length) : ∃ p cap b o, v = .slice p l.length cap ∧ p = some ⟨b, o, none⟩ ∧ b < w.heap.size ∧ w.cell? ⟨b, o + i * 2, none⟩ = some (.int .i64 (l.getD i default).1) ∧ w.cell? ⟨b, o + i * 2 + 1, none⟩ = some (l.getD i default).2 := by
  obtain ⟨p, cap, b, o, h1, _, h3, _, h5⟩ := h
  have hl : l ≠ [] := by rintro rfl; simp at hi
  exact ⟨p, cap, b, o, h1, (h3 hl).1, (h3 hl).2, h5 i hi 0 _ rfl, h5 i hi 1 _ rfl⟩
theorem idx_i (p : Option Addr) (b o n cap k : Nat) (hp : p = some ⟨b, o, none⟩) (hk : k < n) (W : World) : (Instr.indexAt 27 (.slice p n cap) (.int .i64 (k : Int))).run Tryz.prog W = .ok (.pointer (some ⟨b, o + k * 2, none⟩)) W := by subst hp; go_simp
/-- The place of the first number that is not below one. -/
def atOf (l : List Itm) (id : Int) : Nat := l.findIdx fun e => !decide (e.1 < id)
theorem atOf_here {l : List Itm} {id : Int} {k : Nat} (hk : k < l.length) (h : ∀ j, j < k → (l.getD j default).1 < id) (hn : ¬ (l.getD k default).1 < id) : atOf l id = k := by
  have g : ∀ j (hj : j < l.length), l.getD j default = l[j] := fun j hj => by simp [List.getD_eq_getElem?_getD, List.getElem?_eq_getElem hj]
  rw [atOf, List.findIdx_eq hk]
  refine ⟨by rw [← g k hk]; simp only [Bool.not_eq_true', decide_eq_false_iff_not]; exact hn, fun j hj => ?_⟩
  rw [← g j (by omega), decide_eq_true (h j hj)]; simp
theorem atOf_end {l : List Itm} {id : Int} (h : ∀ j, j < l.length → (l.getD j default).1 < id) : atOf l id = l.length := by
  rw [atOf, List.findIdx_eq_length]
  intro x hx
  obtain ⟨j, hj, rfl⟩ := List.getElem_of_mem hx
  have := h j hj
  simp only [List.getD_eq_getElem?_getD, List.getElem?_eq_getElem hj, Option.getD_some] at this
  simp [this]
/-- The document's index in memory. -/
structure Ref8 (W : World) (g : Nat) (v : Value) (l : List Itm) : Prop where
  c : W.cell? ⟨g, 0, none⟩ = some v
  lt : g < W.heap.size
  row : RowIn encItm 2 W v l
  len : l.length ≤ 256
theorem Ref8.later {w w' : World} {g : Nat} {v : Value} {l : List Itm} (h : Ref8 w g v l) (hb : Below w.heap.size w w') : Ref8 w' g v l :=
  ⟨cell_later hb h.c, Nat.lt_of_lt_of_le h.lt hb.size, h.row.later hb, h.len⟩
set_option maxHeartbeats 2000000 in
set_option maxRecDepth 20000 in
theorem at_any (g : Nat) (v : Value) (l : List Itm) (id : Int) (w : World) (h : Ref8 w g v l) :
    Calls Tryz.prog 32 #[.pointer (some ⟨g, 0, none⟩), .int .i64 id] w (Gives (.int .i64 (atOf l id : Int)) w) := by
  obtain ⟨p, cap, rfl⟩ := h.row.form
  have HR := Lib.hid h
  have hlen := h.len
  clear h
  go_enter Tryz.func32, Tryz.ntmps32
  go_wp2
  go_loopw [5] (fun i wr => ∃ k : Nat, k ≤ l.length ∧ i = .int .i64 k ∧ (∀ j, j < k → (l.getD j default).1 < id) ∧ Below w.heap.size w wr) (fun i _ => l.length - (intOf i).toNat)
  case atStart => exact ⟨0, Nat.zero_le _, rfl, fun j hj => absurd hj (Nat.not_lt_zero j), Below.refl _ _⟩
  case round =>
    obtain ⟨k, hk, rfl, hall, hbel⟩ := hrel
    have HAl := Lib.hid hall
    have HBel := Lib.hid hbel
    have h0 := (HR.out.later hbel).c
    have hl0 := (HR.out.later hbel).lt
    clear hall hbel
    by_cases hkl : k < l.length
    · obtain ⟨p1, cap1, b, o, hv, hp, hb, c0, c1⟩ := itm_at (HR.out.later HBel.out).row hkl
      simp only [Value.slice.injEq] at hv
      obtain ⟨rfl, _, rfl⟩ := hv
      have hidx := idx_i p b o l.length cap k hp hkl
      have HS := Lib.hid (fun hn => atOf_here hkl HAl.out hn)
      have HX := Lib.hid (fun (hx : (l.getD k default).1 < id) j (hj : j < k + 1) => show (l.getD j default).1 < id from by
        by_cases hjk : j = k
        · rw [hjk]; exact hx
        · exact HAl.out j (by omega))
      obtain ⟨x, hx⟩ : ∃ x, l.getD k default = x := ⟨_, rfl⟩
      rw [hx] at c0 HS HX
      clear hx hp c1
      by_cases hlt : x.1 < id
      · have HE := Lib.hid (HX.out hlt)
        go_wp2_with fail
        go_roundw
        case rel => exact ⟨k + 1, by omega, by simp, HE.out, HBel.out⟩
        case measure => simp [intOf]; omega
      · have HE := Lib.hid (HS.out hlt)
        go_wp2_with fail
        go_ret
        exact ⟨ret_int (by rw [HE.out]), HBel.out⟩
    · have HE : Hid (atOf l id = k) := Lib.hid (by
        have h1 : k = l.length := by omega
        rw [h1]; exact atOf_end (by rw [← h1]; exact HAl.out))
      go_wp2_with fail
      go_ret
      exact ⟨ret_int (by rw [HE.out]), HBel.out⟩
end Go.Proofs.YtaplgoachembdaaGreat.Gm
set_option linter.unusedSimpArgs false
set_option linter.unusedVariables false
namespace Go.Proofs.YtaplgoachembdaaGreat.Gm
open Go Go.RowKit
attribute [local go_sem ↓] Go.wp_at_zero Go.wp_at_succ

/-- Is there one of that number? -/
def hasOf (l : List Itm) (id : Int) : Bool := if atOf l id < l.length then decide ((l.getD (atOf l id) default).1 = id) else false
theorem atOf_le (l : List Itm) (id : Int) : atOf l id ≤ l.length := List.findIdx_le_length
set_option maxHeartbeats 2000000 in
set_option maxRecDepth 20000 in
theorem has_any (g : Nat) (v : Value) (l : List Itm) (id : Int) (w : World) (h : Ref8 w g v l) :
    Calls Tryz.prog 31 #[.pointer (some ⟨g, 0, none⟩), .int .i64 id] w (Gives (.bool (hasOf l id)) w) := by
  obtain ⟨p, cap, rfl⟩ := h.row.form
  have HR := Lib.hid h
  have HC := Lib.hid (at_any g _ l id w h)
  have hlen := h.len
  clear h
  obtain ⟨k, hk⟩ : ∃ k, atOf l id = k := ⟨_, rfl⟩
  have hkl := atOf_le l id
  have HH : Hid (hasOf l id = if k < l.length then decide ((l.getD k default).1 = id) else false) := Lib.hid (by rw [← hk]; rfl)
  rw [hk] at HC hkl
  clear hk
  go_enter Tryz.func31, Tryz.ntmps31
  go_wp2_with fail
  refine HC.out.mono ?_; rintro e w1 ⟨rfl, b1⟩
  have h0 := (HR.out.later b1).c
  have hl0 := (HR.out.later b1).lt
  have HB := Lib.hid b1
  clear b1
  by_cases hlt : k < l.length
  · obtain ⟨p1, cap1, b, o, hv, hp, hb, c0, c1⟩ := itm_at (HR.out.later HB.out).row hlt
    simp only [Value.slice.injEq] at hv
    obtain ⟨rfl, _, rfl⟩ := hv
    have hidx := idx_i p b o l.length cap k hp hlt
    have HE := Lib.hid HH.out
    rw [if_pos hlt] at HE
    obtain ⟨x, hx⟩ : ∃ x, l.getD k default = x := ⟨_, rfl⟩
    rw [hx] at c0 HE
    clear hx hp c1
    by_cases hq : x.1 = id
    · have HF : Hid (hasOf l id = true) := Lib.hid (by rw [HE.out]; simp [hq])
      go_wp2_with fail
      go_ret
      exact ⟨ret_bool (by rw [HF.out]), HB.out⟩
    · have HF : Hid (hasOf l id = false) := Lib.hid (by rw [HE.out]; simp [hq])
      go_wp2_with fail
      go_ret
      exact ⟨ret_bool (by rw [HF.out]; exact beq_eq_false_iff_ne.2 hq), HB.out⟩
  · have HF : Hid (hasOf l id = false) := Lib.hid (by rw [HH.out, if_neg hlt])
    go_wp2_with fail
    go_ret
    exact ⟨ret_bool (by rw [HF.out]), HB.out⟩
end Go.Proofs.YtaplgoachembdaaGreat.Gm
/- Layer 8, plain: the document's index is a rising row: has, put in, taken out. -/
set_option linter.unusedSimpArgs false
set_option linter.unusedVariables false
namespace Go.Proofs.YtaplgoachembdaaGreat.Gm
open Go Go.RowKit

def Rise8 (l : List Itm) : Prop := l.Pairwise fun a b => a.1 < b.1
theorem atOf_cons (x : Itm) (l : List Itm) (id : Int) : atOf (x :: l) id = if x.1 < id then atOf l id + 1 else 0 := by
  unfold atOf
  rw [List.findIdx_cons]
  by_cases h : x.1 < id <;> simp [h]
theorem hasOf_cons (x : Itm) (l : List Itm) (id : Int) : hasOf (x :: l) id = if x.1 < id then hasOf l id else decide (x.1 = id) := by
  unfold hasOf
  rw [atOf_cons]
  by_cases h : x.1 < id
  · rw [if_pos h, if_pos h]
    by_cases hl : atOf l id < l.length
    · rw [if_pos hl, if_pos (by simpa using hl)]; simp
    · rw [if_neg hl, if_neg (by simpa using hl)]
  · rw [if_neg h, if_neg h]; simp
theorem hasOf_iff {l : List Itm} (h : Rise8 l) (id : Int) : hasOf l id = true ↔ ∃ e ∈ l, e.1 = id := by
  induction l with
  | nil => simp [hasOf, atOf]
  | cons x l ih =>
    obtain ⟨h1, h2⟩ := List.pairwise_cons.1 h
    rw [hasOf_cons]
    by_cases hx : x.1 < id
    · rw [if_pos hx, ih h2]
      constructor
      · rintro ⟨e, he, hi⟩; exact ⟨e, List.mem_cons_of_mem _ he, hi⟩
      · rintro ⟨e, he, hi⟩
        rcases List.mem_cons.1 he with rfl | he
        · omega
        · exact ⟨e, he, hi⟩
    · rw [if_neg hx, decide_eq_true_iff]
      constructor
      · intro hi; exact ⟨x, List.mem_cons_self, hi⟩
      · rintro ⟨e, he, hi⟩
        rcases List.mem_cons.1 he with rfl | he
        · exact hi
        · have := h1 e he; omega
/-- One is put in at its place. -/
def putIn (l : List Itm) (e : Itm) : List Itm := l.take (atOf l e.1) ++ e :: l.drop (atOf l e.1)
theorem putIn_cons (x : Itm) (l : List Itm) (e : Itm) : putIn (x :: l) e = if x.1 < e.1 then x :: putIn l e else e :: x :: l := by
  unfold putIn
  rw [atOf_cons]
  by_cases h : x.1 < e.1 <;> simp [h]
theorem putIn_perm (l : List Itm) (e : Itm) : (putIn l e).Perm (e :: l) := by
  induction l with
  | nil => exact List.Perm.refl _
  | cons x l ih =>
    rw [putIn_cons]
    by_cases h : x.1 < e.1
    · rw [if_pos h]; exact (List.Perm.cons x ih).trans (List.Perm.swap e x l)
    · rw [if_neg h]
theorem putIn_rise {l : List Itm} (h : Rise8 l) {e : Itm} (hn : hasOf l e.1 = false) : Rise8 (putIn l e) := by
  induction l with
  | nil => simp [putIn, Rise8]
  | cons x l ih =>
    obtain ⟨h1, h2⟩ := List.pairwise_cons.1 h
    rw [hasOf_cons] at hn
    rw [putIn_cons]
    by_cases hx : x.1 < e.1
    · rw [if_pos hx] at hn ⊢
      refine List.pairwise_cons.2 ⟨fun y hy => ?_, ih h2 hn⟩
      rcases List.mem_cons.1 ((putIn_perm l e).mem_iff.1 hy) with rfl | hy
      · exact hx
      · exact h1 y hy
    · rw [if_neg hx] at hn ⊢
      have hne : ¬ x.1 = e.1 := by simpa using hn
      refine List.pairwise_cons.2 ⟨fun y hy => ?_, h⟩
      rcases List.mem_cons.1 hy with rfl | hy
      · omega
      · have := h1 y hy; omega
/-- One is taken out. -/
def takeOut (l : List Itm) (id : Int) : List Itm := l.take (atOf l id) ++ l.drop (atOf l id + 1)
theorem takeOut_cons (x : Itm) (l : List Itm) (id : Int) : takeOut (x :: l) id = if x.1 < id then x :: takeOut l id else l := by
  unfold takeOut
  rw [atOf_cons]
  by_cases h : x.1 < id <;> simp [h]
theorem takeOut_filter {l : List Itm} (h : Rise8 l) {id : Int} (hi : hasOf l id = true) : takeOut l id = l.filter fun e => !decide (e.1 = id) := by
  induction l with
  | nil => simp [hasOf, atOf] at hi
  | cons x l ih =>
    obtain ⟨h1, h2⟩ := List.pairwise_cons.1 h
    rw [hasOf_cons] at hi
    rw [takeOut_cons, List.filter_cons]
    by_cases hx : x.1 < id
    · rw [if_pos hx] at hi ⊢
      rw [ih h2 hi, if_pos (by simp; omega)]
    · rw [if_neg hx] at hi ⊢
      have he : x.1 = id := by simpa using hi
      rw [if_neg (by simp [he])]
      symm
      rw [List.filter_eq_self]
      intro y hy
      have := h1 y hy
      simp; omega
theorem takeOut_rise {l : List Itm} (h : Rise8 l) {id : Int} (hi : hasOf l id = true) : Rise8 (takeOut l id) := by
  rw [takeOut_filter h hi]; exact List.Pairwise.filter _ h
/-- What is picked out of two rows of the same numbers, the one rising, is the same when sorted. -/
theorem pick_sorted {l : List Itm} (h : Rise8 l) (D : List Itm) (hp : l.Perm D) (f : Itm → Bool) :
    ((D.filter f).map (·.1)).mergeSort (fun x y => decide (x ≤ y)) = (l.filter f).map (·.1) := by
  have hq : ((l.filter f).map (·.1)).Perm (((D.filter f).map (·.1)).mergeSort fun x y => decide (x ≤ y)) :=
    ((hp.filter f).map _).trans (List.mergeSort_perm _ _).symm
  have hs : ((l.filter f).map (·.1)).Pairwise (fun x y : Int => x ≤ y) := by
    rw [List.pairwise_map]
    exact (List.Pairwise.filter f h).imp fun {a b} hab => Int.le_of_lt hab
  have ht : (((D.filter f).map (·.1)).mergeSort fun x y => decide (x ≤ y)).Pairwise (fun x y : Int => x ≤ y) := by
    have := List.pairwise_mergeSort (le := fun x y : Int => decide (x ≤ y)) (fun a b c h1 h2 => by simp at *; omega) (fun a b => by simp; omega) ((D.filter f).map (·.1))
    exact this.imp fun {a b} hab => by simpa using hab
  exact (hq.eq_of_pairwise (fun a b _ _ h1 h2 => Int.le_antisymm h1 h2) hs ht).symm
end Go.Proofs.YtaplgoachembdaaGreat.Gm
/- Layer 8: the document's Get. -/
set_option linter.unusedSimpArgs false
set_option linter.unusedVariables false
namespace Go.Proofs.YtaplgoachembdaaGreat.Gm
open Go Go.RowKit
attribute [local go_sem ↓] Go.wp_at_zero Go.wp_at_succ

set_option maxHeartbeats 2000000 in
set_option maxRecDepth 20000 in
theorem rget_not (g : Nat) (v : Value) (l : List Itm) (id : Int) (w : World) (h : Ref8 w g v l) (hn : hasOf l id = false) :
    Calls Tryz.prog 19 #[.pointer (some ⟨g, 0, none⟩), .int .i64 id] w (Gives (.tuple #[.slice none 0 0, .bool false]) w) := by
  have HC := Lib.hid (has_any g _ l id w h)
  rw [hn] at HC
  clear h hn
  go_enter Tryz.func19, Tryz.ntmps19
  go_wp2_with fail
  refine HC.out.mono ?_; rintro e w1 ⟨rfl, b1⟩
  have HB := Lib.hid b1
  clear b1
  go_wp2_with fail
  go_ret2
  exact ⟨rfl, HB.out⟩
theorem has_lt {l : List Itm} {id : Int} (h : hasOf l id = true) : atOf l id < l.length := by
  by_cases hl : atOf l id < l.length
  · exact hl
  · rw [hasOf, if_neg hl] at h; cases h
set_option maxHeartbeats 2000000 in
set_option maxRecDepth 20000 in
theorem rget_there (g : Nat) (v : Value) (l : List Itm) (id : Int) (w : World) (h : Ref8 w g v l) (hn : hasOf l id = true) (p0 : Option Addr) (n0 cap0 : Nat) (hv0 : (l.getD (atOf l id) default).2 = .slice p0 n0 cap0) :
    Calls Tryz.prog 19 #[.pointer (some ⟨g, 0, none⟩), .int .i64 id] w (Gives (.tuple #[.slice p0 n0 cap0, .bool true]) w) := by
  obtain ⟨p, cap, rfl⟩ := h.row.form
  have HC := Lib.hid (has_any g _ l id w h)
  have HA := Lib.hid (fun W (hb : Below w.heap.size w W) => at_any g _ l id W (h.later hb))
  have HR := Lib.hid h
  have hlt := has_lt hn
  rw [hn] at HC
  obtain ⟨k, hk⟩ : ∃ k, atOf l id = k := ⟨_, rfl⟩
  rw [hk] at HA hlt hv0
  clear h hn hk
  go_enter Tryz.func19, Tryz.ntmps19
  go_wp2_with fail
  refine HC.out.mono ?_; rintro e w1 ⟨rfl, b1⟩
  have HB := Lib.hid b1
  have h0 := (HR.out.later b1).c
  have hl0 := (HR.out.later b1).lt
  clear b1
  obtain ⟨p1, cap1, b, o, hv, hp, hb, c0, c1⟩ := itm_at (HR.out.later HB.out).row hlt
  simp only [Value.slice.injEq] at hv
  obtain ⟨rfl, _, rfl⟩ := hv
  rw [hv0] at c1
  have hidx := idx_i p b o l.length cap k hp hlt
  have HAll := Lib.hid (fun W (hb1 : Below w1.heap.size w1 W) => show Below w1.heap.size w1 W ∧ W.cell? ⟨g, 0, none⟩ = some (.slice p l.length cap) ∧ W.cell? ⟨b, o + k * 2 + 1, none⟩ = some (.slice p0 n0 cap0) from ⟨hb1, (Below.cell hb1 (p := ⟨g, 0, none⟩) hl0).trans h0, (Below.cell hb1 (p := ⟨b, o + k * 2 + 1, none⟩) hb).trans c1⟩)
  clear hp c0 hv0 hb
  go_wp2_with fail
  go_region_held3 (fun w' => Below w1.heap.size w1 w' ∧ w'.cell? ⟨g, 0, none⟩ = some (.slice p l.length cap) ∧ w'.cell? ⟨b, o + k * 2 + 1, none⟩ = some (.slice p0 n0 cap0))
    (first | assumption | (refine HAll.out _ ?_; first | exact s22_call (by assumption) (by assumption) | exact (Below.refl _ _).drew))
    (first | (go_at_call 32; (with_reducible refine (HA.out _ (then_ HB.out (And.left (by assumption)))).mono ?_); rintro e w6 ⟨rfl, b6⟩))
  rename_i hh
  have HEnd := Lib.hid (then_ HB.out hh.1)
  clear hh
  go_wp2
  go_ret2
  exact ⟨rfl, HEnd.out⟩
end Go.Proofs.YtaplgoachembdaaGreat.Gm
set_option linter.unusedSimpArgs false
set_option linter.unusedVariables false
namespace Go.Proofs.YtaplgoachembdaaGreat.Gm
open Go Go.RowKit
attribute [local go_sem ↓] Go.wp_at_zero Go.wp_at_succ

theorem infoI : (Tryz.prog.info? 57).map (fun i => (i.zero, i.size, i.bytes)) = some (some (.agg #[.int .i64 0, .slice none 0 0]), 2, 32) := by kernel_rfl
theorem encItm_length (x : Itm) : (encItm x).length = 2 := rfl
theorem flat_one_i {l : List Itm} (h1 : ∀ e ∈ l, e.2.oneCell' = true) : ∀ u ∈ l.flatMap encItm, u.oneCell' = true := by
  intro u hu
  obtain ⟨a, ha, h⟩ := List.mem_flatMap.1 hu
  simp only [encItm, List.mem_cons, List.not_mem_nil, or_false] at h
  rcases h with rfl | rfl
  · rfl
  · exact h1 a ha
theorem src_i {w : World} {v : Value} {l : List Itm} (h1 : ∀ e ∈ l, e.2.oneCell' = true) (h : RowIn encItm 2 w v l) : Src w v l.length 2 (l.flatMap encItm) := by
  obtain ⟨p, cap, b, o, rfl, hcap, h3, h4, h5⟩ := h
  cases p with
  | none =>
    have hl : l = [] := by
      by_cases hl : l = []
      · exact hl
      · have := (h3 hl).1; cases this
    subst hl
    have := h4 rfl rfl
    subst this
    exact .inl ⟨rfl, rfl, rfl⟩
  | some a =>
    refine .inr ⟨a, cap, rfl, flat_length encItm_length l, fun j u hu => ?_, flat_one_i h1⟩
    obtain ⟨hi, e, hu2⟩ := flat_back (by decide) encItm_length l j u hu
    have hl : l ≠ [] := by rintro rfl; simp at hi
    obtain ⟨ha, hb⟩ := h3 hl
    simp only [Option.some.injEq] at ha
    subst ha
    have h6 := h5 (j / 2) hi (j % 2) u hu2
    rw [Nat.add_assoc, e] at h6
    rw [add_lit]
    exact h6
theorem slice_pre_i (p : Option Addr) (m cap k : Nat) (hk : k ≤ m) (hc : m ≤ cap) (hp : p = none → cap = 0) (W : World) : (Instr.slice 27 (.slice p m cap) none (some (.int .i64 (k : Int))) none).run Tryz.prog W = .ok (.slice p k cap) W := by
  cases p with
  | none =>
    have := hp rfl
    subst this
    have : k = 0 := by omega
    subst this
    have : m = 0 := by omega
    subst this
    go_simp
  | some a =>
    have h1 : (k : Int) ≤ (cap : Int) := by omega
    have h2 : k ≤ cap := by omega
    go_simp
theorem slice_suf_i (p : Option Addr) (m cap k : Nat) (hk : k ≤ m) (hc : m ≤ cap) (hp : p = none → cap = 0) (W : World) : (Instr.slice 27 (.slice p m cap) (some (.int .i64 (k : Int))) none none).run Tryz.prog W = .ok (.slice (sufP p k 2 cap) (m - k) (cap - k)) W := by
  cases p with
  | none =>
    have := hp rfl
    subst this
    have : k = 0 := by omega
    subst this
    have : m = 0 := by omega
    subst this
    rw [show sufP none 0 2 0 = none from rfl]
    go_simp
  | some a =>
    have h1 : (k : Int) ≤ (cap : Int) := by omega
    have h2 : k ≤ cap := by omega
    by_cases h3 : cap = k
    · subst h3
      have : m = cap := by omega
      subst this
      rw [show sufP (some a) m 2 m = some a by simp [sufP]]
      go_simp
    · have h4 : ¬ ((cap : Int) = (k : Int)) := by omega
      rw [show sufP (some a) k 2 cap = some (a.add (k * 2)) by simp [sufP, h3]]
      go_simp

/-- The document's index, whole. -/
structure RefB (W : World) (g : Nat) (v : Value) (l : List Itm) : Prop where
  blk : Blk W g 29 #[v]
  own : W.ownsRow 0 57 2 v l.length (l.flatMap encItm)
  one : ∀ e ∈ l, e.2.oneCell' = true
  len : l.length ≤ 256
theorem RefB.row {W : World} {g : Nat} {v : Value} {l : List Itm} (h : RefB W g v l) : RowIn encItm 2 W v l := row_of_own encItm_length h.own
theorem RefB.ref {W : World} {g : Nat} {v : Value} {l : List Itm} (h : RefB W g v l) : Ref8 W g v l := ⟨h.blk.cell 0 rfl, h.blk.lt, h.row, h.len⟩
theorem RefB.later {w w' : World} {g : Nat} {v : Value} {l : List Itm} (h : RefB w g v l) (hb : Below w.heap.size w w') : RefB w' g v l := ⟨h.blk.later hb, own_later h.own hb, h.one, h.len⟩
theorem rremove_not (g : Nat) (v : Value) (l : List Itm) (id : Int) (w : World) (h : RefB w g v l) (hn : hasOf l id = false) :
    Calls Tryz.prog 12 #[.pointer (some ⟨g, 0, none⟩), .int .i64 id] w (Gives (.int .i64 6) w) := by
  have HC := Lib.hid (has_any g _ l id w h.ref)
  rw [hn] at HC
  clear h hn
  go_enter Tryz.func12, Tryz.ntmps12
  go_wp2_with fail
  refine HC.out.mono ?_; rintro e w1 ⟨rfl, b1⟩
  have HB := Lib.hid b1
  clear b1
  go_wp2_with fail
  go_ret
  exact ⟨rfl, HB.out⟩
/-- What the document's Remove leaves that takes one out. -/
def RemD (g : Nat) (l : List Itm) (w : World) (e : Ending) (w' : World) : Prop := e = .returned (.int .i64 0) ∧ ∃ v', RefB w' g v' l ∧ Only [g] w w'
theorem drop_one {l : List Itm} {k : Nat} (hk : k < l.length) : (l.take k).length = k ∧ (l.drop (k + 1)).length = l.length - (k + 1) := by
  constructor
  · rw [List.length_take]; omega
  · rw [List.length_drop]
set_option maxHeartbeats 2000000 in
set_option maxRecDepth 100000 in
theorem rremove_there (g : Nat) (v : Value) (l : List Itm) (id : Int) (w : World) (h : RefB w g v l) (hn : hasOf l id = true) :
    Calls Tryz.prog 12 #[.pointer (some ⟨g, 0, none⟩), .int .i64 id] w (RemD g (takeOut l id) w) := by
  obtain ⟨i0, ii, iz0, iz1, iz2⟩ := info_parts infoI
  obtain ⟨p, cap, rfl⟩ := h.row.form
  have HC := Lib.hid (has_any g _ l id w h.ref)
  have HA := Lib.hid (fun W (hb : Below w.heap.size w W) => at_any g _ l id W (h.ref.later hb))
  have HR := Lib.hid h
  have hlt := has_lt hn
  rw [hn] at HC
  obtain ⟨k, hk⟩ : ∃ k, atOf l id = k := ⟨_, rfl⟩
  have HT : Hid (takeOut l id = l.take k ++ l.drop (k + 1)) := Lib.hid (by rw [← hk]; rfl)
  rw [hk] at HA hlt
  have hlen := h.len
  have HL := Lib.hid (drop_one hlt)
  clear h hn hk
  go_enter Tryz.func12, Tryz.ntmps12
  go_wp2_with fail
  refine HC.out.mono ?_; rintro e w1 ⟨rfl, b1⟩
  have HB := Lib.hid b1
  clear b1
  go_wp2_with fail
  refine (HA.out _ HB.out).mono ?_; rintro e w2 ⟨rfl, b2⟩
  have HB2 := Lib.hid (then_ HB.out b2)
  have HR2 := Lib.hid (HR.out.later HB2.out)
  have h0 := HR2.out.blk.cell 0 rfl
  have hl0 := HR2.out.blk.lt
  have hro := row_room HR2.out.row
  have hs1 := fun W => slice_pre_i p l.length cap k (by omega) hro.1 hro.2 W
  have hs2 : ∀ W, (Instr.slice 27 (.slice p l.length cap) (some (.int .i64 ((k : Int) + 1))) none none).run Tryz.prog W = .ok (.slice (sufP p (k + 1) 2 cap) (l.length - (k + 1)) (cap - (k + 1))) W := fun W => by
    rw [show ((k : Int) + 1) = ((k + 1 : Nat) : Int) by omega]; exact slice_suf_i p l.length cap (k + 1) (by omega) hro.1 hro.2 W
  have HSa := Lib.hid (src_i (fun e he => HR2.out.one e (List.mem_of_mem_take he)) (row_pre (k := k) (by omega) HR2.out.row))
  rw [HL.out.1] at HSa
  clear b2 hro HA HC
  go_wp2_with (first
    | (at_builtin; refine wpList_append_src (by rfl) _ _ 27 (by rfl) w2.heap.size 57 i0 (.agg #[.int .i64 0, .slice none 0 0]) 2 32 Tryz.underlying27 ii iz0 iz1 iz2 rfl (by decide) (.slice none 0 0) 0 [] (by rfl) (World.ownsRow_nil _ _ _ _) _ k ((l.take k).flatMap encItm) (by rfl) HSa.out k (by omega) (by unfold maxLen; omega) (by omega) (Nat.le_refl _) ?_; intro pA capA w3 hown3 hgrow3; rw [List.nil_append] at hown3; have HO3 := Lib.hid hown3; have HB3 := Lib.hid ((Below.refl _ w2).grown hgrow3 (Nat.le_refl _) (fun t ht => by simp [Value.ownBlock] at ht)); have x0 := (HR2.out.blk.later HB3.out).cell 0 rfl; have hz3 := HB3.out.size; clear hown3 hgrow3 HSa)
    | (at_builtin; have HSb := Lib.hid (src_i (fun e he => HR2.out.one e (List.mem_of_mem_drop he)) (row_suf (k := k + 1) (by omega) (HR2.out.row.later HB3.out))); rw [HL.out.2] at HSb; refine wpList_append_src (by rfl) _ _ 27 (by rfl) w2.heap.size 57 i0 (.agg #[.int .i64 0, .slice none 0 0]) 2 32 Tryz.underlying27 ii iz0 iz1 iz2 rfl (by decide) _ _ _ (by rfl) HO3.out _ (l.length - (k + 1)) ((l.drop (k + 1)).flatMap encItm) (by rfl) HSb.out (l.length - 1) (by omega) (by unfold maxLen; omega) (by omega) hz3 ?_; intro pB capB w4 hown4 hgrow4; have HO4 := Lib.hid hown4; have HB4 := Lib.hid (HB3.out.grown hgrow4 hz3 (fun t ht => (World.ownsRow.lt HO3.out t ht).1)); have x1 := (HR2.out.blk.later HB4.out).cell 0 rfl; have x2 := (HR2.out.blk.later HB4.out).free 0; have HK4 := Lib.hid (HR2.out.blk.later HB4.out); clear hown4 hgrow4 HSb)
    | fail)
  go_ret
  refine ⟨rfl, _, ⟨HK4.out.set _, ?_, ?_, ?_⟩, only_grown (grown_set (grown_below (then_ HB2.out HB4.out) (some g)) _)⟩
  · have h4 := ownsRow_setCell_other (a := ⟨g, 0, none⟩) HO4.out (HK4.out.apart HO4.out (by decide)) (.slice pB (l.length - 1) capB)
    rw [← List.flatMap_append, ← HT.out] at h4
    rw [show (takeOut l id).length = l.length - 1 by rw [HT.out, List.length_append, HL.out.1, HL.out.2]; omega]
    exact own_base h4 (Nat.zero_le _)
  · intro e he
    rw [HT.out, List.mem_append] at he
    exact HR.out.one e (he.elim List.mem_of_mem_take List.mem_of_mem_drop)
  · rw [HT.out, List.length_append, HL.out.1, HL.out.2]; omega
end Go.Proofs.YtaplgoachembdaaGreat.Gm
