/- Parts of rows in memory, as sources of an append. -/
import Derived.Test.YtlnjmcodgdebmaaGreatKiv
import Derived.Test.YtlnjmcodgdebmaaGreatKkv
import Derived.Test.YtlnjmcodgdebmaaGreatKic
import Derived.Test.YtlnjmcodgdebmaaGreatKkc
import Derived.Test.YtlnjmcodgdebmaaGreatKj
/- The contract of package pred's gather at values: they are put in order, one by one. -/
/- The contract of package pred's put at constraints: a row in order takes one more. -/
/- The contract of package pred's put at values: a row in order takes one more. -/
set_option linter.unusedSimpArgs false
set_option linter.unusedVariables false
namespace Go.Proofs.YtlnjmcodgdebmaaGreat.Gm
open Go Go.RowKit
attribute [local go_sem ↓] Go.wp_at_zero Go.wp_at_succ

/-- What put leaves: a row of the call's own that has taken x; of what was there the old row's block alone may have changed. -/
def Puts {α : Type} (f : α → α → Int) (enc : α → List Value) (T : TypeId) (n : Nat) (base : Nat) (v : Value) (l : List α) (x : α) (w : World) (e : Ending) (w' : World) : Prop :=
  ∃ v', e = .returned v' ∧ w'.ownsRow base T n v' (insL f l x).length ((insL f l x).flatMap enc) ∧ w.grownBy w' v.ownBlock
theorem grown_then {w w1 w2 : World} {r : Option Nat} (h : Below w.heap.size w w1) (k : w1.grownBy w2 r) : w.grownBy w2 r := World.grownBy.trans (grown_below h r) k
theorem place_ins {α : Type} [Inhabited α] {f : α → α → Int} {l : List α} {x : α} {p : Nat} (h : Place f l x p) : (hitB f l x p = true → insL f l x = l) ∧ (hitB f l x p = false → insL f l x = l.take p ++ x :: l.drop p) := by
  have hi := insL_at l x p h.1 h.2.1 h.2.2
  unfold hitB
  refine ⟨fun hh => ?_, fun hh => hi.2 fun h1 h2 => ?_⟩
  · simp only [Bool.and_eq_true, decide_eq_true_eq] at hh
    exact hi.1 hh.1 hh.2
  · rw [decide_eq_true h1, decide_eq_true h2] at hh
    cases hh

set_option maxHeartbeats 4000000 in
set_option maxRecDepth 100000 in
theorem put_v (base : Nat) (v : Value) (l : List Vl) (x : Vl) (w : World) (hO : w.ownsRow base 42 4 v l.length (l.flatMap encV)) (hA : Vs w v l) (hr : Rising cmpW l) (hbase : base ≤ w.heap.size) (hl : l.length ≤ 1000000) :
    Calls Tryz.prog 100 #[v, vv x, .func (.func 93) #[] #[]] w (Puts cmpW encV 42 4 base v l x w) := by
  obtain ⟨p0, cap0, rfl⟩ := own_shape hO
  obtain ⟨W0, hW0⟩ : ∃ W0, W0 = w.alloc (.cells #[.int .i64 x.k, .int .i64 x.n, .string x.s, .bool x.b] 42) := ⟨_, rfl⟩
  have hB0 : Below w.heap.size w W0 := by rw [hW0]; exact below_one _ _
  have hx : Blk W0 w.heap.size 42 #[.int .i64 x.k, .int .i64 x.n, .string x.s, .bool x.b] := by rw [hW0]; exact Blk.new _ _ _
  have HS := Lib.hid (bsearch_v (.slice p0 l.length cap0) l x W0 (hA.later hB0) hr)
  have HO := Lib.hid hO
  have HB0 := Lib.hid hB0
  have HX := Lib.hid hx
  have HW0 := Lib.hid hW0
  clear hA hr hO hB0 hx hW0
  go_enter Tryz.func100, Tryz.ntmps100
  go_wp2_with fail
  rw [← HW0.out]
  refine HS.out.mono ?_; rintro e w1 ⟨p, hP, rfl, b1⟩
  have HPl := Lib.hid (place_ins hP)
  have hpl : p ≤ l.length := hP.1
  have HX1 := Lib.hid (HX.out.later b1)
  have HB1 := Lib.hid (then_ HB0.out b1)
  obtain ⟨h, hh⟩ : ∃ h, hitB cmpW l x p = h := ⟨_, rfl⟩
  rw [hh] at HPl ⊢
  clear hP hh b1
  cases h with
  | true =>
    go_wp2_with fail
    go_ret
    refine ⟨.slice p0 l.length cap0, rfl, ?_, grown_below HB1.out _⟩
    rw [HPl.out.1 (by trivial)]
    exact own_later HO.out HB1.out
  | false =>
    have hxc : Four w1 w.heap.size 0 x := ⟨HX1.out.cell 0 rfl, HX1.out.cell 1 rfl, HX1.out.cell 2 rfl, HX1.out.cell 3 rfl⟩
    obtain ⟨c0, c1, c2, c3⟩ := hxc
    go_wp2_with fail
    refine (ins_v base _ l p x _ w1.heap.size (Blk.new w1 _ _) ((own_later HO.out HB1.out).alloc _) ?_ hl hpl ?_).mono ?_
    · have := HB1.out.size; simp; omega
    · intro hv
      have := (World.ownsRow.lt HO.out _ hv).2
      have := HB1.out.size; omega
    · rintro e w2 ⟨v2, rfl, hO2, hg2⟩
      have HO2 := Lib.hid hO2
      have HG2 := Lib.hid (grown_then (HB1.out.alloc HB1.out.size _) hg2)
      clear hO2 hg2
      go_wp2_with fail
      go_ret
      have hE := HPl.out.2 (by trivial)
      have hLen : (insL cmpW l x).length = l.length + 1 := by rw [hE]; simp; omega
      exact ⟨v2, rfl, by rw [hLen, hE]; exact HO2.out, HG2.out⟩
end Go.Proofs.YtlnjmcodgdebmaaGreat.Gm
set_option linter.unusedSimpArgs false
set_option linter.unusedVariables false
namespace Go.Proofs.YtlnjmcodgdebmaaGreat.Gm
open Go Go.RowKit
attribute [local go_sem ↓] Go.wp_at_zero Go.wp_at_succ

set_option maxHeartbeats 4000000 in
set_option maxRecDepth 100000 in
theorem put_c (base : Nat) (v : Value) (l : List Cn) (x : Cn) (w : World) (hO : w.ownsRow base 45 7 v l.length (l.flatMap encC)) (hA : Cs w v l) (hr : Rising cmpC l) (hbase : base ≤ w.heap.size) (hl : l.length ≤ 1000000) (hX : Vs w x.sv x.set) :
    Calls Tryz.prog 63 #[v, cc x, .func (.func 56) #[] #[]] w (Puts cmpC encC 45 7 base v l x w) := by
  obtain ⟨p0, cap0, rfl⟩ := own_shape hO
  obtain ⟨W0, hW0⟩ : ∃ W0, W0 = w.alloc (.cells #[.string x.nm, .int .i64 x.op, .int .i64 x.v.k, .int .i64 x.v.n, .string x.v.s, .bool x.v.b, .slice x.sp x.set.length x.sc] 45) := ⟨_, rfl⟩
  have hB0 : Below w.heap.size w W0 := by rw [hW0]; exact below_one _ _
  have hx : Blk W0 w.heap.size 45 #[.string x.nm, .int .i64 x.op, .int .i64 x.v.k, .int .i64 x.v.n, .string x.v.s, .bool x.v.b, .slice x.sp x.set.length x.sc] := by rw [hW0]; exact Blk.new _ _ _
  have HS := Lib.hid (bsearch_c (.slice p0 l.length cap0) l x W0 (hA.later hB0) hr (hX.later hB0))
  have HO := Lib.hid hO
  have HB0 := Lib.hid hB0
  have HX := Lib.hid hx
  have HW0 := Lib.hid hW0
  clear hA hr hO hB0 hx hW0 hX
  go_enter Tryz.func63, Tryz.ntmps63
  go_wp2_with fail
  rw [← HW0.out]
  refine HS.out.mono ?_; rintro e w1 ⟨p, hP, rfl, b1⟩
  have HPl := Lib.hid (place_ins hP)
  have hpl : p ≤ l.length := hP.1
  have HX1 := Lib.hid (HX.out.later b1)
  have HB1 := Lib.hid (then_ HB0.out b1)
  obtain ⟨h, hh⟩ : ∃ h, hitB cmpC l x p = h := ⟨_, rfl⟩
  rw [hh] at HPl ⊢
  clear hP hh b1
  cases h with
  | true =>
    go_wp2_with fail
    go_ret
    refine ⟨.slice p0 l.length cap0, rfl, ?_, grown_below HB1.out _⟩
    rw [HPl.out.1 (by trivial)]
    exact own_later HO.out HB1.out
  | false =>
    have hxc : Seven w1 w.heap.size 0 x := ⟨HX1.out.cell 0 rfl, HX1.out.cell 1 rfl, HX1.out.cell 2 rfl, HX1.out.cell 3 rfl, HX1.out.cell 4 rfl, HX1.out.cell 5 rfl, HX1.out.cell 6 rfl⟩
    obtain ⟨c0, c1, c2, c3, c4, c5, c6⟩ := hxc
    go_wp2_with fail
    refine (ins_c base _ l p x _ w1.heap.size (Blk.new w1 _ _) ((own_later HO.out HB1.out).alloc _) ?_ hl hpl ?_).mono ?_
    · have := HB1.out.size; simp; omega
    · intro hv
      have := (World.ownsRow.lt HO.out _ hv).2
      have := HB1.out.size; omega
    · rintro e w2 ⟨v2, rfl, hO2, hg2⟩
      have HO2 := Lib.hid hO2
      have HG2 := Lib.hid (grown_then (HB1.out.alloc HB1.out.size _) hg2)
      clear hO2 hg2
      go_wp2_with fail
      go_ret
      have hE := HPl.out.2 (by trivial)
      have hLen : (insL cmpC l x).length = l.length + 1 := by rw [hE]; simp; omega
      exact ⟨v2, rfl, by rw [hLen, hE]; exact HO2.out, HG2.out⟩
end Go.Proofs.YtlnjmcodgdebmaaGreat.Gm
set_option linter.unusedSimpArgs false
set_option linter.unusedVariables false
namespace Go.Proofs.YtlnjmcodgdebmaaGreat.Gm
open Go Go.RowKit
attribute [local go_sem ↓] Go.wp_at_zero Go.wp_at_succ

set_option maxHeartbeats 4000000 in
set_option maxRecDepth 100000 in
theorem with_v (base : Nat) (v : Value) (l : List Vl) (x : Vl) (w : World) (hO : w.ownsRow base 42 4 v l.length (l.flatMap encV)) (hr : Rising cmpW l) (hbase : base ≤ w.heap.size) (hl : l.length ≤ 1000000) :
    Calls Tryz.prog 62 #[v, vv x] w (Puts cmpW encV 42 4 base v l x w) := by
  obtain ⟨p0, cap0, rfl⟩ := own_shape hO
  have hB0 := below_one w (.cells #[.int .i64 x.k, .int .i64 x.n, .string x.s, .bool x.b] 42)
  have HP := Lib.hid (put_v base (.slice p0 l.length cap0) l x _ (own_later hO hB0) (OwnV.vs (own_later hO hB0) (by omega)) hr (by simp; omega) hl)
  have HB0 := Lib.hid hB0
  clear hO hr hB0
  go_enter Tryz.func62, Tryz.ntmps62
  go_wp2_with fail
  refine HP.out.mono ?_; rintro e w1 ⟨v1, rfl, h1, h2⟩
  have H1 := Lib.hid h1
  have H2 := Lib.hid (grown_then HB0.out h2)
  clear h1 h2
  go_wp2_with fail
  go_ret
  exact ⟨v1, rfl, H1.out, H2.out⟩

/-- What gather leaves of values: a row of the call's own, in order. -/
def GathV (l : List Vl) (w : World) (e : Ending) (w' : World) : Prop := ∃ p c, e = .returned (.slice p (sortL cmpW l).length c) ∧ OwnV w' w.heap.size (.slice p (sortL cmpW l).length c) (sortL cmpW l) ∧ Below w.heap.size w w'
theorem fold_step {α : Type} [Inhabited α] {f : List α → α → List α} {l a : List α} {k : Nat} (h : k < l.length) : (l.take (k + 1)).foldl f a = f ((l.take k).foldl f a) (l.getD k default) := by
  rw [List.take_succ_eq_append_getElem h, List.foldl_append, List.getD_eq_getElem?_getD, List.getElem?_eq_getElem h]
  rfl
theorem take_len {α : Type} {f : α → α → Int} (l : List α) (k : Nat) : ((l.take k).foldl (insL f) []).length ≤ l.length := by
  have := foldl_length (f := f) (l.take k) []
  have h2 := List.length_take_le k l
  have h3 := List.length_take (i := k) (l := l)
  simp only [List.length_nil] at this; omega
theorem grown_in {B : Nat} {w0 w w' : World} {v : Value} {e : TypeId} {n m : Nat} {xs : List Value} (h : Below B w0 w) (hO : w.ownsRow B e n v m xs) (hB : B ≤ w.heap.size) (hg : w.grownBy w' v.ownBlock) : Below B w0 w' :=
  h.grown hg hB (fun k hk => (World.ownsRow.lt hO k hk).1)
set_option maxHeartbeats 4000000 in
set_option maxRecDepth 100000 in
theorem gather_v (v : Value) (l : List Vl) (w : World) (hA : Vs w v l) (hl : l.length ≤ 100000) :
    Calls Tryz.prog 61 #[v, .func (.func 62) #[] #[]] w (GathV l w) := by
  obtain ⟨p, cap, rfl⟩ := hA.1.form
  have HA := Lib.hid hA
  clear hA
  go_enter Tryz.func61, Tryz.ntmps61
  go_wp2
  go_loopw [5, 10] (fun into i wr => ∃ k : Nat, k ≤ l.length ∧ i = .int .i64 k ∧ Hid (OwnV wr w.heap.size into ((l.take k).foldl (insL cmpW) [])) ∧ Hid (Below w.heap.size w wr)) (fun _ i _ => l.length - (intOf i).toNat)
  case atStart => exact ⟨0, Nat.zero_le _, rfl, Lib.hid (OwnV.nil _ _), Lib.hid (Below.refl _ _)⟩
  case round =>
    obtain ⟨k, hk, rfl, HO, HBel⟩ := hrel
    obtain ⟨pI, capI, rfl⟩ := own_shape HO.out
    by_cases hkl : k < l.length
    · obtain ⟨p1, cap1, b, o, hv, hp, hb, h4⟩ := four_at HA.out.1 hkl
      simp only [Value.slice.injEq] at hv
      obtain ⟨rfl, _, rfl⟩ := hv
      have hidx := idx_v1 p b o l.length cap k hp hkl
      obtain ⟨c0, c1, c2, c3⟩ := h4.later HBel.out
      have HF := Lib.hid (fold_step (f := insL cmpW) (a := []) hkl)
      have HLen := Lib.hid (take_len (f := cmpW) l k)
      have HRs := Lib.hid (foldl_rising weakW (l.take k) [] .nil)
      obtain ⟨M, hM⟩ : ∃ M, (l.take k).foldl (insL cmpW) [] = M := ⟨_, rfl⟩
      rw [hM] at HO HF HLen HRs ⊢
      obtain ⟨x, hx⟩ : ∃ x, l.getD k default = x := ⟨_, rfl⟩
      rw [hx] at c0 c1 c2 c3 HF
      clear hM hx hp h4 hb
      go_wp2_with fail
      refine (with_v w.heap.size (.slice pI M.length capI) M x _ ((own_later HO.out (below_one wr _))) HRs.out (by have := HBel.out.size; simp; omega) (by have := HLen.out; omega)).mono ?_
      rintro e w1 ⟨v1, rfl, h1, h2⟩
      have H1 := Lib.hid h1
      have H2 := Lib.hid (grown_in (HBel.out.alloc HBel.out.size _) (own_later HO.out (below_one wr _)) (by have := HBel.out.size; simp; omega) h2)
      clear h1 h2
      go_wp2_with fail
      go_roundw
      case rel => exact ⟨k + 1, by omega, by simp, Lib.hid (by unfold OwnV; rw [HF.out]; exact H1.out), H2⟩
      case measure => simp [intOf]; omega
    · have hke : k = l.length := by omega
      subst hke
      have HE : Hid ((l.take l.length).foldl (insL cmpW) [] = sortL cmpW l) := Lib.hid (by rw [List.take_length]; rfl)
      have HR : Hid (OwnV wr w.heap.size (.slice pI (sortL cmpW l).length capI) (sortL cmpW l)) := Lib.hid (by have := HO.out; rw [HE.out] at this; exact this)
      rw [HE.out]
      clear HO
      go_wp2
      go_ret
      exact ⟨pI, capI, rfl, HR.out, HBel.out⟩
end Go.Proofs.YtlnjmcodgdebmaaGreat.Gm
/- Parts of rows in memory, as sources of an append: of no program. -/
set_option linter.unusedSimpArgs false
set_option linter.unusedVariables false
namespace Go.Proofs.YtlnjmcodgdebmaaGreat.Gm
open Go Go.RowKit
attribute [local go_sem ↓] Go.wp_at_zero Go.wp_at_succ

section
variable {α : Type} [Inhabited α] {enc : α → List Value} {n : Nat} {w : World} {p : Option Addr} {cap : Nat} {l : List α}
theorem flat_back (hn0 : 0 < n) (hn : ∀ x, (enc x).length = n) (l : List α) (t : Nat) (u : Value) (h : (l.flatMap enc)[t]? = some u) : t / n < l.length ∧ t / n * n + t % n = t ∧ (enc (l.getD (t / n) default))[t % n]? = some u := by
  have ht : t < l.length * n := by have := (List.getElem?_eq_some_iff.1 h).1; rwa [flat_length hn] at this
  have hi : t / n < l.length := Nat.div_lt_of_lt_mul (by rw [Nat.mul_comm]; exact ht)
  have e : t / n * n + t % n = t := by rw [Nat.mul_comm]; exact Nat.div_add_mod t n
  have hlt : t % n < (enc (l.getD (t / n) default)).length := by rw [hn]; exact Nat.mod_lt _ hn0
  have h2 := flat_at hn l (t / n) (t % n) _ hi (List.getElem?_eq_getElem hlt)
  rw [e, h] at h2
  exact ⟨hi, e, by rw [List.getElem?_eq_getElem hlt, ← h2]⟩
theorem row_src (hn0 : 0 < n) (hn : ∀ x, (enc x).length = n) (h1 : ∀ x, ∀ u ∈ enc x, u.oneCell' = true) {v : Value} (h : RowIn enc n w v l) : Src w v l.length n (l.flatMap enc) := by
  obtain ⟨p, cap, b, o, rfl, hcap, h3, h4, h5⟩ := h
  cases p with
  | none =>
    have hl : l = [] := by
      by_cases hl : l = []
      · exact hl
      · have := (h3 hl).1; cases this
    subst hl
    have := h4 rfl rfl
    subst this
    exact .inl ⟨rfl, rfl, rfl⟩
  | some a =>
    refine .inr ⟨a, cap, rfl, flat_length hn l, fun j u hu => ?_, flat_one h1 l⟩
    obtain ⟨hi, e, hu2⟩ := flat_back hn0 hn l j u hu
    have hl : l ≠ [] := by rintro rfl; simp at hi
    obtain ⟨ha, hb⟩ := h3 hl
    simp only [Option.some.injEq] at ha
    subst ha
    have h6 := h5 (j / n) hi (j % n) u hu2
    rw [Nat.add_assoc, e] at h6
    rw [add_lit]
    exact h6
theorem row_pre {k : Nat} (hk : k ≤ l.length) (h : RowIn enc n w (.slice p l.length cap) l) : RowIn enc n w (.slice p k cap) (l.take k) := by
  obtain ⟨p', cap', b, o, hv, hcap, h3, h4, h5⟩ := h
  simp only [Value.slice.injEq, true_and] at hv
  obtain ⟨rfl, rfl⟩ := hv
  have hlen : (l.take k).length = k := by rw [List.length_take, Nat.min_eq_left hk]
  refine ⟨p, cap, b, o, by rw [hlen], by omega, fun hl => h3 (by rintro rfl; simp at hl), fun hl hp => ?_, fun i hi j u hu => ?_⟩
  · by_cases h0 : l = []
    · exact h4 h0 hp
    · have := (h3 h0).1; rw [hp] at this; cases this
  · rw [hlen] at hi
    have e : (l.take k).getD i default = l.getD i default := by rw [List.getD_eq_getElem?_getD, List.getD_eq_getElem?_getD, List.getElem?_take, if_pos hi]
    rw [e] at hu
    exact h5 i (by omega) j u hu
/-- Where the part behind k elements lies. -/
def sufP (p : Option Addr) (k n cap : Nat) : Option Addr := if cap = k then p else p.map fun a => a.add (k * n)
theorem row_suf {k : Nat} (hk : k ≤ l.length) (h : RowIn enc n w (.slice p l.length cap) l) : RowIn enc n w (.slice (sufP p k n cap) (l.length - k) (cap - k)) (l.drop k) := by
  obtain ⟨p', cap', b, o, hv, hcap, h3, h4, h5⟩ := h
  simp only [Value.slice.injEq, true_and] at hv
  obtain ⟨rfl, rfl⟩ := hv
  have hlen : (l.drop k).length = l.length - k := List.length_drop
  refine ⟨sufP p k n cap, cap - k, b, o + k * n, by rw [hlen], by omega, fun hl => ?_, fun hl hp => ?_, fun i hi j u hu => ?_⟩
  · have hkl : k < l.length := by
      by_cases h0 : k < l.length
      · exact h0
      · exact absurd (List.drop_eq_nil_of_le (by omega)) hl
    obtain ⟨hp, hb⟩ := h3 (by rintro rfl; simp at hkl)
    refine ⟨?_, hb⟩
    rw [sufP, if_neg (by omega), hp, Option.map_some, add_lit]
  · have hp' : p = none := by
      unfold sufP at hp
      split at hp
      · exact hp
      · simpa using hp
    by_cases h0 : l = []
    · have := h4 h0 hp'; omega
    · have := (h3 h0).1; rw [hp'] at this; cases this
  · rw [hlen] at hi
    have e : (l.drop k).getD i default = l.getD (k + i) default := by rw [List.getD_eq_getElem?_getD, List.getD_eq_getElem?_getD, List.getElem?_drop]
    rw [e] at hu
    have h6 := h5 (k + i) (by omega) j u hu
    rw [Nat.add_mul, ← Nat.add_assoc] at h6
    exact h6
end
/-- A slice's value that lies nowhere has no room. -/
theorem row_room {α : Type} [Inhabited α] {enc : α → List Value} {n : Nat} {w : World} {p : Option Addr} {cap : Nat} {l : List α} (h : RowIn enc n w (.slice p l.length cap) l) : l.length ≤ cap ∧ (p = none → cap = 0) := by
  obtain ⟨p', cap', b, o, hv, hcap, h3, h4, h5⟩ := h
  simp only [Value.slice.injEq, true_and] at hv
  obtain ⟨rfl, rfl⟩ := hv
  refine ⟨hcap, fun hp => ?_⟩
  by_cases h0 : l = []
  · exact h4 h0 hp
  · have := (h3 h0).1; rw [hp] at this; cases this
end Go.Proofs.YtlnjmcodgdebmaaGreat.Gm
set_option linter.unusedSimpArgs false
set_option linter.unusedVariables false
namespace Go.Proofs.YtlnjmcodgdebmaaGreat.Gm
open Go Go.RowKit
attribute [local go_sem ↓] Go.wp_at_zero Go.wp_at_succ

theorem slice_pre_v (p : Option Addr) (m cap k : Nat) (hk : k ≤ m) (hc : m ≤ cap) (hp : p = none → cap = 0) (W : World) : (Instr.slice 43 (.slice p m cap) none (some (.int .i64 (k : Int))) none).run Tryz.prog W = .ok (.slice p k cap) W := by
  cases p with
  | none =>
    have := hp rfl
    subst this
    have : k = 0 := by omega
    subst this
    have : m = 0 := by omega
    subst this
    go_simp
  | some a =>
    have h1 : (k : Int) ≤ (cap : Int) := by omega
    have h2 : k ≤ cap := by omega
    go_simp
theorem slice_suf_v (p : Option Addr) (m cap k : Nat) (hk : k ≤ m) (hc : m ≤ cap) (hp : p = none → cap = 0) (W : World) : (Instr.slice 43 (.slice p m cap) (some (.int .i64 (k : Int))) none none).run Tryz.prog W = .ok (.slice (sufP p k 4 cap) (m - k) (cap - k)) W := by
  cases p with
  | none =>
    have := hp rfl
    subst this
    have : k = 0 := by omega
    subst this
    have : m = 0 := by omega
    subst this
    rw [show sufP none 0 4 0 = none from rfl]
    go_simp
  | some a =>
    have h1 : (k : Int) ≤ (cap : Int) := by omega
    have h2 : k ≤ cap := by omega
    by_cases h3 : cap = k
    · subst h3
      have : m = cap := by omega
      subst this
      rw [show sufP (some a) m 4 m = some a by simp [sufP]]
      go_simp
    · have h4 : ¬ ((cap : Int) = (k : Int)) := by omega
      rw [show sufP (some a) k 4 cap = some (a.add (k * 4)) by simp [sufP, h3]]
      go_simp
theorem slice_pre_c (p : Option Addr) (m cap k : Nat) (hk : k ≤ m) (hc : m ≤ cap) (hp : p = none → cap = 0) (W : World) : (Instr.slice 31 (.slice p m cap) none (some (.int .i64 (k : Int))) none).run Tryz.prog W = .ok (.slice p k cap) W := by
  cases p with
  | none =>
    have := hp rfl
    subst this
    have : k = 0 := by omega
    subst this
    have : m = 0 := by omega
    subst this
    go_simp
  | some a =>
    have h1 : (k : Int) ≤ (cap : Int) := by omega
    have h2 : k ≤ cap := by omega
    go_simp
theorem slice_suf_c (p : Option Addr) (m cap k : Nat) (hk : k ≤ m) (hc : m ≤ cap) (hp : p = none → cap = 0) (W : World) : (Instr.slice 31 (.slice p m cap) (some (.int .i64 (k : Int))) none none).run Tryz.prog W = .ok (.slice (sufP p k 7 cap) (m - k) (cap - k)) W := by
  cases p with
  | none =>
    have := hp rfl
    subst this
    have : k = 0 := by omega
    subst this
    have : m = 0 := by omega
    subst this
    rw [show sufP none 0 7 0 = none from rfl]
    go_simp
  | some a =>
    have h1 : (k : Int) ≤ (cap : Int) := by omega
    have h2 : k ≤ cap := by omega
    by_cases h3 : cap = k
    · subst h3
      have : m = cap := by omega
      subst this
      rw [show sufP (some a) m 7 m = some a by simp [sufP]]
      go_simp
    · have h4 : ¬ ((cap : Int) = (k : Int)) := by omega
      rw [show sufP (some a) k 7 cap = some (a.add (k * 7)) by simp [sufP, h3]]
      go_simp
end Go.Proofs.YtlnjmcodgdebmaaGreat.Gm
