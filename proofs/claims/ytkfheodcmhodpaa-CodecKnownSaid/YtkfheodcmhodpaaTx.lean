/- Package codec's reader: value, attr, event, item, gap, constraint, pred, page. (Written by tools/gen_tx.py.) -/
import Derived.Test.YtkfheodcmhodpaaTw
import Derived.Test.YtkfheodcmhodpaaA
import Derived.Test.YtkfheodcmhodpaaTp
set_option linter.unusedSimpArgs false
set_option linter.unusedVariables false
namespace Go.Proofs.Ytkfheodcmhodpaa.Gm
open Go Go.RowKit
attribute [local go_sem ↓] Go.wp_at_zero Go.wp_at_succ

theorem Blk.setAt {w : World} {g : Nat} {t : TypeId} {cs : Array Value} (h : Blk w g t cs) (i : Nat) (u : Value) : Blk (w.setCell ⟨g, i, none⟩ u) g t (cs.setIfInBounds i u) := by
  have hlt := h.lt
  have h' : w.heap[g] = .cells cs t (0, 0) := by
    have := h; unfold Blk at this; rw [Array.getElem?_eq_getElem hlt] at this; exact Option.some.inj this
  show (w.heap.modify g _)[g]? = _
  rw [Array.getElem?_eq_getElem (by simpa using hlt), Array.getElem_modify_self, h']
  rfl
/-- Stores into cells of one block. -/
def sets (w : World) (g : Nat) : List (Nat × Value) → World
  | [] => w
  | (i, u) :: r => sets (w.setCell ⟨g, i, none⟩ u) g r
theorem sets_blk {g : Nat} {t : TypeId} : ∀ (l : List (Nat × Value)) {w : World} {cs : Array Value}, Blk w g t cs → Blk (sets w g l) g t (l.foldl (fun c p => c.setIfInBounds p.1 p.2) cs)
  | [], _, _, h => h
  | (i, u) :: r, _, _, h => sets_blk r (h.setAt i u)
theorem sets_keep {g : Nat} {t : TypeId} : ∀ (l : List (Nat × Value)) {w : World} {cs : Array Value}, Blk w g t cs → Keep [t] w (sets w g l)
  | [], w, _, _ => Keep.refl _ w
  | (i, u) :: r, _, _, h => (keep_set h (by simp) u).trans (sets_keep r (h.setAt i u))
theorem sets_below {g B : Nat} (hg : B ≤ g) : ∀ (l : List (Nat × Value)) {w : World}, Below B w (sets w g l)
  | [], w => Below.refl B w
  | (i, u) :: r, w => ((Below.refl B w).setCell hg u).trans (sets_below hg r)
/-- Behind stores into a block that the call has made. -/
structure EndS (w : World) (base : Nat) (q : Value) (L : List UInt8) (T : List TypeId) (w3 w' : World) : Prop where
  rd : RdC w' base q L
  bel : Below base w w'
  kp : Keep TR w w'
  kt : Keep T w3 w'
theorem sets_end {w w3 : World} {g base : Nat} {t : TypeId} {cs : Array Value} {q : Value} {L : List UInt8} (h : Blk w3 g t cs) (h1 : 139 ∉ [t]) (h2 : 169 ∉ [t]) (h3 : 5 ∉ [t]) (hz : base ≤ w.heap.size) (hg : w.heap.size ≤ g) (hr : RdC w3 base q L) (hb : Below base w w3) (hk : Keep TR w w3) (l : List (Nat × Value)) : EndS w base q L [t] w3 (sets w3 g l) :=
  ⟨hr.keep (sets_keep l h) h1 h2 h3, hb.trans (sets_below (by omega) l), hk.below (sets_below hg l), sets_keep l h⟩
theorem fin_ok {ρ α : Type} {rd : Rd α} (toZ : ρ → α) (val : ρ → Value) (inv : World → Nat → ρ → Prop) {base : Nat} {q : Value} {L L' : List UInt8} {T : List TypeId} {w w3 w' : World} {x : α} {v : Value} (hE : EndS w base q L' T w3 w') (hr : rd L = some (x, L')) (hv : OneR toZ val inv base x v w') : GetE rd (OneR toZ val inv base) base q L w (.returned v) w' :=
  getE_ok hr hv hE.rd hE.bel hE.kp
theorem bel_lt {base : Nat} {w w1 : World} (h : Below base w w1) (hz : base ≤ w.heap.size) : base ≤ w1.heap.size := Nat.le_trans hz h.size
theorem vS_of {k : Nat} {L L1 L2 : List UInt8} {x : Vl} (h : nR 3 L = some (k, L1)) (h2 : vtR k L1 = some (x, L2)) (h0 : x.k ≠ 0) : vS L = some (x, L2) := by
  have e : vR L = some (x, L2) := by unfold vR; rw [bindR_of h]; exact h2
  unfold vS; rw [e]; simp only; rw [if_neg h0]
theorem vS_no {k : Nat} {L L1 : List UInt8} (h : nR 3 L = some (k, L1)) (h2 : vtR k L1 = none) : vS L = none := by
  have e : vR L = none := by unfold vR; rw [bindR_of h]; exact h2
  unfold vS; rw [e]
theorem vS_none {L : List UInt8} (h : nR 3 L = none) : vS L = none := by
  have e : vR L = none := by unfold vR; rw [bindR_none h]
  unfold vS; rw [e]
theorem vS_zero {L L1 : List UInt8} (h : nR 3 L = some (0, L1)) : vS L = none := by
  have e : vR L = some (⟨0, 0, ⟨#[]⟩, false⟩, L1) := by unfold vR; rw [bindR_of h]; rfl
  unfold vS; rw [e]; rfl
/-- Two blocks of the call's own: the result's, and the one it is made in. -/
structure St (w : World) (base : Nat) (q : Value) (L : List UInt8) (R C : Nat) (t : TypeId) (cs' cs : Array Value) (W : World) : Prop where
  rd : RdC W base q L
  bel : Below base w W
  kp : Keep TR w W
  kr : Blk W R t cs'
  kc : Blk W C t cs
theorem St.step {w W W' : World} {base R C : Nat} {q : Value} {L L' : List UInt8} {t : TypeId} {cs' cs : Array Value} (h : St w base q L R C t cs' cs W) (ht : t ∉ TR) (h1 : RdC W' base q L') (h2 : Below base W W') (h3 : Keep TR W W') : St w base q L' R C t cs' cs W' :=
  ⟨h1, h.bel.trans h2, h.kp.trans h3, h.kr.keep h3 ht, h.kc.keep h3 ht⟩
theorem blk_other {R C : Nat} {t : TypeId} {cs : Array Value} (hne : R ≠ C) : ∀ (l : List (Nat × Value)) {W : World}, Blk W R t cs → Blk (sets W C l) R t cs
  | [], _, h => h
  | (i, u) :: r, _, h => blk_other hne r (h.other hne u)
theorem St.sets {w W : World} {base R C : Nat} {q : Value} {L : List UInt8} {t : TypeId} {cs' cs : Array Value} (h : St w base q L R C t cs' cs W) (h1 : 139 ∉ [t]) (h2 : 169 ∉ [t]) (h3 : 5 ∉ [t]) (hz : base ≤ w.heap.size) (hR : w.heap.size ≤ R) (hC : R < C) (l : List (Nat × Value)) : St w base q L R C t cs' (l.foldl (fun c p => c.setIfInBounds p.1 p.2) cs) (sets W C l) :=
  ⟨h.rd.keep (sets_keep l h.kc) h1 h2 h3, h.bel.trans (sets_below (by omega) l), h.kp.below (sets_below (by omega) l), blk_other (by omega) l h.kr, sets_blk l h.kc⟩
theorem pair_some {α β : Type} {rd : Rd α} {rd' : Rd β} {L L1 L2 : List UInt8} {x : α} {y : β} (h1 : rd L = some (x, L1)) (h2 : rd' L1 = some (y, L2)) : (bindR rd fun x => mapR rd' fun y => (x, y)) L = some ((x, y), L2) := by rw [bindR_of h1, mapR_of h2]
theorem pair_n1 {α β : Type} {rd : Rd α} {rd' : Rd β} {L : List UInt8} (h1 : rd L = none) : (bindR rd fun x => mapR rd' fun y => (x, y)) L = none := bindR_none h1
theorem pair_n2 {α β : Type} {rd : Rd α} {rd' : Rd β} {L L1 : List UInt8} {x : α} (h1 : rd L = some (x, L1)) (h2 : rd' L1 = none) : (bindR rd fun x => mapR rd' fun y => (x, y)) L = none := by rw [bindR_of h1, mapR_none h2]
/-- An event that was read. -/
def EvR (base : Nat) : Ev → Value → World → Prop := fun x v w => ∃ (p : Option Addr) (cap : Nat), v = .agg #[.string x.1, .slice p x.2.length cap] ∧ w.ownsRow base 81 5 (.slice p x.2.length cap) x.2.length (x.2.flatMap encA)
/-- A predicate that was read. -/
abbrev PrR (base : Nat) : Pz → Value → World → Prop := RowR toCz encC 99 7 invC base
set_option maxHeartbeats 8000000 in
set_option maxRecDepth 20000 in
theorem rc_value (base : Nat) (q : Value) (L : List UInt8) (w : World) (hR : RdC w base q L) : Calls Try.prog 119 #[q] w (GetE (vS) (OneR id vv invV base) base q L w) := by
  have hz := hR.lt
  have HB0 := Lib.hid ((below_one w (.cells #[.int .i64 0, .int .i64 0, .string ⟨#[]⟩, .bool false] 79)).mono hz)
  have HT0 := Lib.hid (keep_alloc TR w (.cells #[.int .i64 0, .int .i64 0, .string ⟨#[]⟩, .bool false] 79))
  have HK0 := Lib.hid (Blk.new w 79 #[.int .i64 0, .int .i64 0, .string ⟨#[]⟩, .bool false])
  have HR0 := Lib.hid (hR.later (below_one w (.cells #[.int .i64 0, .int .i64 0, .string ⟨#[]⟩, .bool false] 79)))
  obtain ⟨g, rfl⟩ := hR.form
  clear hR
  have HN := Lib.hid (rc_num 3 (by decide) base _ L _ HR0.out)
  cases hr : nR 3 L with
  | none =>
    go_enter Try.func119, Try.ntmps119
    go_wp2_with fail
    refine HN.out.mono ?_; intro e w1 h
    obtain ⟨rfl, h2, h3⟩ := h.none hr
    have H2 := Lib.hid (HB0.out.trans h2)
    have H3 := Lib.hid (HT0.out.trans h3)
    clear h h2 h3
    go_wp2_with fail
    exact ⟨rfl, getE_no (vS_none hr) H2.out H3.out⟩
  | some pr =>
    obtain ⟨k, L1⟩ := pr
    have hk : k ≤ 3 := ((codec_n (most := 3) (by decide)).only L k L1 hr).1
    have HR := Lib.hid hr
    clear hr
    go_enter Try.func119, Try.ntmps119
    go_wp2_with fail
    refine HN.out.mono ?_; intro e w1 h
    obtain ⟨v, rfl, rfl, h1, h2, h3⟩ := h.some HR.out
    have H1 := Lib.hid h1
    have H2 := Lib.hid (HB0.out.trans h2)
    have H3 := Lib.hid (HT0.out.trans h3)
    have HKr := Lib.hid (HK0.out.keep h3 (by decide))
    clear h h1 h2 h3 HN
    obtain rfl | rfl | rfl | rfl : k = 0 ∨ k = 1 ∨ k = 2 ∨ k = 3 := by omega
    · go_wp2_with fail
      exact ⟨rfl, getE_no (vS_zero HR.out) H2.out H3.out⟩
    · have HS := Lib.hid (rc_signed base _ L1 w1 H1.out)
      go_wp2_with fail
      cases hr2 : iR L1 with
      | none =>
        refine HS.out.mono ?_; intro e w2 h
        obtain ⟨rfl, h2, h3⟩ := h.none hr2
        have G2 := Lib.hid (H2.out.trans h2)
        have G3 := Lib.hid (H3.out.trans h3)
        clear h h2 h3
        go_wp2_with fail
        exact ⟨rfl, getE_no (vS_no HR.out (mapR_none hr2)) G2.out G3.out⟩
      | some p2 =>
        obtain ⟨n, L2⟩ := p2
        refine HS.out.mono ?_; intro e w2 h
        obtain ⟨v, rfl, rfl, h1, h2, h3⟩ := h.some hr2
        have G1 := Lib.hid h1
        have G2 := Lib.hid (H2.out.trans h2)
        have G3 := Lib.hid (H3.out.trans h3)
        have HKs := Lib.hid (HKr.out.keep h3 (by decide))
        clear h h1 h2 h3
        go_wp2_with fail
        refine (number_any n _).mono ?_; rintro e w3 ⟨rfl, b3⟩
        have f0 := (HKs.out.later b3).free 0
        have f1 := (HKs.out.later b3).free 1
        have f2 := (HKs.out.later b3).free 2
        have f3 := (HKs.out.later b3).free 3
        have d0 := (HKs.out.later b3).cell 0 rfl
        have d1 := (HKs.out.later b3).cell 1 rfl
        have d2 := (HKs.out.later b3).cell 2 rfl
        have d3 := (HKs.out.later b3).cell 3 rfl
        have GKs := Lib.hid (HKs.out.later b3)
        have GR := Lib.hid (G1.out.later b3)
        have GB := Lib.hid (G2.out.trans (b3.mono (bel_lt G2.out hz)))
        have GK := Lib.hid (G3.out.trans (keep_below TR b3))
        clear b3
        go_wp2_with fail
        refine bodyPost_ret (v := val 1 n ⟨#[]⟩ false) (by simp [results, Try.results119, go_sem, d0, d1, d2, d3, val]) rfl ?_
        exact fin_ok id vv invV (sets_end GKs.out (by decide) (by decide) (by decide) hz (Nat.le_refl _) GR.out GB.out GK.out [(0, .int .i64 1), (1, .int .i64 n), (2, .string ⟨#[]⟩), (3, .bool false)]) (vS_of HR.out (mapR_of hr2) (by intro h; simp at h)) ⟨⟨1, n, ⟨#[]⟩, false⟩, rfl, rfl, trivial⟩
    · have HS := Lib.hid (rc_text 32 (by decide) base _ L1 w1 H1.out)
      go_wp2_with fail
      cases hr2 : (sR 32) L1 with
      | none =>
        refine HS.out.mono ?_; intro e w2 h
        obtain ⟨rfl, h2, h3⟩ := h.none hr2
        have G2 := Lib.hid (H2.out.trans h2)
        have G3 := Lib.hid (H3.out.trans h3)
        clear h h2 h3
        go_wp2_with fail
        exact ⟨rfl, getE_no (vS_no HR.out (mapR_none hr2)) G2.out G3.out⟩
      | some p2 =>
        obtain ⟨n, L2⟩ := p2
        refine HS.out.mono ?_; intro e w2 h
        obtain ⟨v, rfl, rfl, h1, h2, h3⟩ := h.some hr2
        have G1 := Lib.hid h1
        have G2 := Lib.hid (H2.out.trans h2)
        have G3 := Lib.hid (H3.out.trans h3)
        have HKs := Lib.hid (HKr.out.keep h3 (by decide))
        clear h h1 h2 h3
        go_wp2_with fail
        refine (word_any n _).mono ?_; rintro e w3 ⟨rfl, b3⟩
        have f0 := (HKs.out.later b3).free 0
        have f1 := (HKs.out.later b3).free 1
        have f2 := (HKs.out.later b3).free 2
        have f3 := (HKs.out.later b3).free 3
        have d0 := (HKs.out.later b3).cell 0 rfl
        have d1 := (HKs.out.later b3).cell 1 rfl
        have d2 := (HKs.out.later b3).cell 2 rfl
        have d3 := (HKs.out.later b3).cell 3 rfl
        have GKs := Lib.hid (HKs.out.later b3)
        have GR := Lib.hid (G1.out.later b3)
        have GB := Lib.hid (G2.out.trans (b3.mono (bel_lt G2.out hz)))
        have GK := Lib.hid (G3.out.trans (keep_below TR b3))
        clear b3
        go_wp2_with fail
        refine bodyPost_ret (v := val 2 0 n false) (by simp [results, Try.results119, go_sem, d0, d1, d2, d3, val]) rfl ?_
        exact fin_ok id vv invV (sets_end GKs.out (by decide) (by decide) (by decide) hz (Nat.le_refl _) GR.out GB.out GK.out [(0, .int .i64 2), (1, .int .i64 0), (2, .string n), (3, .bool false)]) (vS_of HR.out (mapR_of hr2) (by intro h; simp at h)) ⟨⟨2, 0, n, false⟩, rfl, rfl, trivial⟩
    · have HS := Lib.hid (rc_truth base _ L1 w1 H1.out)
      go_wp2_with fail
      cases hr2 : bR L1 with
      | none =>
        refine HS.out.mono ?_; intro e w2 h
        obtain ⟨rfl, h2, h3⟩ := h.none hr2
        have G2 := Lib.hid (H2.out.trans h2)
        have G3 := Lib.hid (H3.out.trans h3)
        clear h h2 h3
        go_wp2_with fail
        exact ⟨rfl, getE_no (vS_no HR.out (mapR_none hr2)) G2.out G3.out⟩
      | some p2 =>
        obtain ⟨n, L2⟩ := p2
        refine HS.out.mono ?_; intro e w2 h
        obtain ⟨v, rfl, rfl, h1, h2, h3⟩ := h.some hr2
        have G1 := Lib.hid h1
        have G2 := Lib.hid (H2.out.trans h2)
        have G3 := Lib.hid (H3.out.trans h3)
        have HKs := Lib.hid (HKr.out.keep h3 (by decide))
        clear h h1 h2 h3
        go_wp2_with fail
        refine (truth_any n _).mono ?_; rintro e w3 ⟨rfl, b3⟩
        have f0 := (HKs.out.later b3).free 0
        have f1 := (HKs.out.later b3).free 1
        have f2 := (HKs.out.later b3).free 2
        have f3 := (HKs.out.later b3).free 3
        have d0 := (HKs.out.later b3).cell 0 rfl
        have d1 := (HKs.out.later b3).cell 1 rfl
        have d2 := (HKs.out.later b3).cell 2 rfl
        have d3 := (HKs.out.later b3).cell 3 rfl
        have GKs := Lib.hid (HKs.out.later b3)
        have GR := Lib.hid (G1.out.later b3)
        have GB := Lib.hid (G2.out.trans (b3.mono (bel_lt G2.out hz)))
        have GK := Lib.hid (G3.out.trans (keep_below TR b3))
        clear b3
        go_wp2_with fail
        refine bodyPost_ret (v := val 3 0 ⟨#[]⟩ n) (by simp [results, Try.results119, go_sem, d0, d1, d2, d3, val]) rfl ?_
        exact fin_ok id vv invV (sets_end GKs.out (by decide) (by decide) (by decide) hz (Nat.le_refl _) GR.out GB.out GK.out [(0, .int .i64 3), (1, .int .i64 0), (2, .string ⟨#[]⟩), (3, .bool n)]) (vS_of HR.out (mapR_of hr2) (by intro h; simp at h)) ⟨⟨3, 0, ⟨#[]⟩, n⟩, rfl, rfl, trivial⟩
set_option maxHeartbeats 8000000 in
set_option maxRecDepth 20000 in
theorem rc_attr (base : Nat) (q : Value) (L : List UInt8) (w : World) (hR : RdC w base q L) : Calls Try.prog 87 #[q] w (GetE (aS) (OneR id aa' invA base) base q L w) := by
  have hz := hR.lt
  have HB0 := Lib.hid ((below_one w (.cells #[.string ⟨#[]⟩, .int .i64 0, .int .i64 0, .string ⟨#[]⟩, .bool false] 81)).mono hz)
  have HT0 := Lib.hid (keep_alloc TR w (.cells #[.string ⟨#[]⟩, .int .i64 0, .int .i64 0, .string ⟨#[]⟩, .bool false] 81))
  have HK0 := Lib.hid (Blk.new w 81 #[.string ⟨#[]⟩, .int .i64 0, .int .i64 0, .string ⟨#[]⟩, .bool false])
  have HR0 := Lib.hid (hR.later (below_one w (.cells #[.string ⟨#[]⟩, .int .i64 0, .int .i64 0, .string ⟨#[]⟩, .bool false] 81)))
  obtain ⟨g, rfl⟩ := hR.form
  clear hR
  have HC1 := Lib.hid (rc_text 16 (by decide) base _ L _ HR0.out)
  cases hr1 : sR 16 L with
  | none =>
    go_enter Try.func87, Try.ntmps87
    go_wp2_with fail
    refine HC1.out.mono ?_; intro e w1 h
    obtain ⟨rfl, h2, h3⟩ := h.none hr1
    have G2 := Lib.hid (HB0.out.trans h2)
    have G3 := Lib.hid (HT0.out.trans h3)
    clear h h2 h3
    go_wp2_with fail
    exact ⟨rfl, getE_no (mapR_none (pair_n1 hr1)) G2.out G3.out⟩
  | some pr1 =>
    obtain ⟨nm, L1⟩ := pr1
    go_enter Try.func87, Try.ntmps87
    go_wp2_with fail
    refine HC1.out.mono ?_; intro e w1 h
    obtain ⟨v1, rfl, rfl, h1, h2, h3⟩ := h.some hr1
    have HR1 := Lib.hid h1
    have HB1 := Lib.hid (HB0.out.trans h2)
    have HT1 := Lib.hid (HT0.out.trans h3)
    have HK1 := Lib.hid (HK0.out.keep h3 (by decide))
    clear h h1 h2 h3
    have HC2 := Lib.hid (rc_value base _ L1 w1 HR1.out)
    cases hr2 : vS L1 with
    | none =>
      go_wp2_with fail
      refine HC2.out.mono ?_; intro e w2 h
      obtain ⟨rfl, h2, h3⟩ := h.none hr2
      have G2 := Lib.hid (HB1.out.trans h2)
      have G3 := Lib.hid (HT1.out.trans h3)
      clear h h2 h3
      go_wp2_with fail
      exact ⟨rfl, getE_no (mapR_none (pair_n2 hr1 hr2)) G2.out G3.out⟩
    | some pr2 =>
      obtain ⟨y, L2⟩ := pr2
      go_wp2_with fail
      refine HC2.out.mono ?_; intro e w2 h
      obtain ⟨v2, rfl, ⟨y2, hy, rfl, _⟩, h1, h2, h3⟩ := h.some hr2
      have HR2 := Lib.hid h1
      have HB2 := Lib.hid (HB1.out.trans h2)
      have HT2 := Lib.hid (HT1.out.trans h3)
      have HK2 := Lib.hid (HK1.out.keep h3 (by decide))
      obtain rfl : y2 = y := hy
      clear h h1 h2 h3
      have f0 := (HK2.out).free 0
      have f1 := (HK2.out).free 1
      have f2 := (HK2.out).free 2
      have f3 := (HK2.out).free 3
      have f4 := (HK2.out).free 4
      have d0 := (HK2.out).cell 0 rfl
      have d1 := (HK2.out).cell 1 rfl
      have d2 := (HK2.out).cell 2 rfl
      have d3 := (HK2.out).cell 3 rfl
      have d4 := (HK2.out).cell 4 rfl
      go_wp2_with fail
      refine bodyPost_ret (v := .agg #[.string nm, .int .i64 y2.k, .int .i64 y2.n, .string y2.s, .bool y2.b]) (by simp [results, Try.results87, go_sem, d0, d1, d2, d3, d4, val]) rfl ?_
      exact fin_ok id aa' invA (sets_end HK2.out (by decide) (by decide) (by decide) hz (Nat.le_refl _) HR2.out HB2.out HT2.out [(0, .string nm), (1, .int .i64 y2.k), (2, .int .i64 y2.n), (3, .string y2.s), (4, .bool y2.b)]) (mapR_of (pair_some hr1 hr2)) ⟨⟨nm, y2.k, y2.n, y2.s, y2.b⟩, rfl, rfl, trivial⟩
set_option maxHeartbeats 8000000 in
set_option maxRecDepth 20000 in
theorem rc_gap (base : Nat) (q : Value) (L : List UInt8) (w : World) (hR : RdC w base q L) : Calls Try.prog 112 #[q] w (GetE (gS) (OneR id gg invG base) base q L w) := by
  have hz := hR.lt
  have HB0 := Lib.hid ((below_one w (.cells #[.int .u64 0, .int .u64 0] 83)).mono hz)
  have HT0 := Lib.hid (keep_alloc TR w (.cells #[.int .u64 0, .int .u64 0] 83))
  have HK0 := Lib.hid (Blk.new w 83 #[.int .u64 0, .int .u64 0])
  have HR0 := Lib.hid (hR.later (below_one w (.cells #[.int .u64 0, .int .u64 0] 83)))
  obtain ⟨g, rfl⟩ := hR.form
  clear hR
  have HC1 := Lib.hid (rc_num 1099511627777 (by decide) base _ L _ HR0.out)
  cases hr1 : nR 1099511627777 L with
  | none =>
    go_enter Try.func112, Try.ntmps112
    go_wp2_with fail
    refine HC1.out.mono ?_; intro e w1 h
    obtain ⟨rfl, h2, h3⟩ := h.none hr1
    have G2 := Lib.hid (HB0.out.trans h2)
    have G3 := Lib.hid (HT0.out.trans h3)
    clear h h2 h3
    go_wp2_with fail
    exact ⟨rfl, getE_no (pair_n1 hr1) G2.out G3.out⟩
  | some pr1 =>
    obtain ⟨x, L1⟩ := pr1
    go_enter Try.func112, Try.ntmps112
    go_wp2_with fail
    refine HC1.out.mono ?_; intro e w1 h
    obtain ⟨v1, rfl, rfl, h1, h2, h3⟩ := h.some hr1
    have HR1 := Lib.hid h1
    have HB1 := Lib.hid (HB0.out.trans h2)
    have HT1 := Lib.hid (HT0.out.trans h3)
    have HK1 := Lib.hid (HK0.out.keep h3 (by decide))
    clear h h1 h2 h3
    have HC2 := Lib.hid (rc_num 1099511627777 (by decide) base _ L1 w1 HR1.out)
    cases hr2 : nR 1099511627777 L1 with
    | none =>
      go_wp2_with fail
      refine HC2.out.mono ?_; intro e w2 h
      obtain ⟨rfl, h2, h3⟩ := h.none hr2
      have G2 := Lib.hid (HB1.out.trans h2)
      have G3 := Lib.hid (HT1.out.trans h3)
      clear h h2 h3
      go_wp2_with fail
      exact ⟨rfl, getE_no (pair_n2 hr1 hr2) G2.out G3.out⟩
    | some pr2 =>
      obtain ⟨y, L2⟩ := pr2
      go_wp2_with fail
      refine HC2.out.mono ?_; intro e w2 h
      obtain ⟨v2, rfl, rfl, h1, h2, h3⟩ := h.some hr2
      have HR2 := Lib.hid h1
      have HB2 := Lib.hid (HB1.out.trans h2)
      have HT2 := Lib.hid (HT1.out.trans h3)
      have HK2 := Lib.hid (HK1.out.keep h3 (by decide))
      clear h h1 h2 h3
      have f0 := (HK2.out).free 0
      have f1 := (HK2.out).free 1
      have d0 := (HK2.out).cell 0 rfl
      have d1 := (HK2.out).cell 1 rfl
      go_wp2_with fail
      refine bodyPost_ret (v := .agg #[.int .u64 x, .int .u64 y]) (by simp [results, Try.results112, go_sem, d0, d1, val]) rfl ?_
      exact fin_ok id gg invG (sets_end HK2.out (by decide) (by decide) (by decide) hz (Nat.le_refl _) HR2.out HB2.out HT2.out [(0, .int .u64 x), (1, .int .u64 y)]) (pair_some hr1 hr2) ⟨(x, y), rfl, rfl, trivial⟩
set_option maxHeartbeats 8000000 in
set_option maxRecDepth 20000 in
theorem rc_event (base : Nat) (q : Value) (L : List UInt8) (w : World) (hR : RdC w base q L) : Calls Try.prog 42 #[q] w (GetE (eS) (EvR base) base q L w) := by
  have hz := hR.lt
  have HB0 := Lib.hid ((below_one w (.cells #[.string ⟨#[]⟩, .slice none 0 0] 24)).mono hz)
  have HT0 := Lib.hid (keep_alloc TR w (.cells #[.string ⟨#[]⟩, .slice none 0 0] 24))
  have HK0 := Lib.hid (Blk.new w 24 #[.string ⟨#[]⟩, .slice none 0 0])
  have HR0 := Lib.hid (hR.later (below_one w (.cells #[.string ⟨#[]⟩, .slice none 0 0] 24)))
  obtain ⟨g, rfl⟩ := hR.form
  clear hR
  have HC1 := Lib.hid (rc_text 16 (by decide) base _ L _ HR0.out)
  cases hr1 : sR 16 L with
  | none =>
    go_enter Try.func42, Try.ntmps42
    go_wp2_with fail
    refine HC1.out.mono ?_; intro e w1 h
    obtain ⟨rfl, h2, h3⟩ := h.none hr1
    have G2 := Lib.hid (HB0.out.trans h2)
    have G3 := Lib.hid (HT0.out.trans h3)
    clear h h2 h3
    go_wp2_with fail
    exact ⟨rfl, getE_no (pair_n1 hr1) G2.out G3.out⟩
  | some pr1 =>
    obtain ⟨key, L1⟩ := pr1
    go_enter Try.func42, Try.ntmps42
    go_wp2_with fail
    refine HC1.out.mono ?_; intro e w1 h
    obtain ⟨v1, rfl, rfl, h1, h2, h3⟩ := h.some hr1
    have HR1 := Lib.hid h1
    have HB1 := Lib.hid (HB0.out.trans h2)
    have HT1 := Lib.hid (HT0.out.trans h3)
    have HK1 := Lib.hid (HK0.out.keep h3 (by decide))
    clear h h1 h2 h3
    have HC2 := Lib.hid (all_a aS 8 (by decide) base _ L1 w1 HR1.out (fun L' W h1 h2 => rc_attr base _ L' W h2))
    cases hr2 : countR 8 aS L1 with
    | none =>
      go_wp2_with fail
      refine HC2.out.mono ?_; intro e w2 h
      obtain ⟨rfl, h2, h3⟩ := h.none hr2
      have G2 := Lib.hid (HB1.out.trans h2)
      have G3 := Lib.hid (HT1.out.trans h3)
      clear h h2 h3
      go_wp2_with fail
      exact ⟨rfl, getE_no (pair_n2 hr1 hr2) G2.out G3.out⟩
    | some pr2 =>
      obtain ⟨l, L2⟩ := pr2
      go_wp2_with fail
      refine HC2.out.mono ?_; intro e w2 h
      obtain ⟨v2, rfl, ⟨cs, hcs, ho, _⟩, h1, h2, h3⟩ := h.some hr2
      have HR2 := Lib.hid h1
      have HB2 := Lib.hid (HB1.out.trans h2)
      have HT2 := Lib.hid (HT1.out.trans h3)
      have HK2 := Lib.hid (HK1.out.keep h3 (by decide))
      obtain rfl : cs = l := by simpa using hcs
      obtain ⟨p, cap, rfl⟩ := own_shape ho
      have HO := Lib.hid ho
      clear ho hcs
      clear h h1 h2 h3
      have f0 := (HK2.out).free 0
      have f1 := (HK2.out).free 1
      have d0 := (HK2.out).cell 0 rfl
      have d1 := (HK2.out).cell 1 rfl
      go_wp2_with fail
      refine bodyPost_ret (v := .agg #[.string key, .slice p cs.length cap]) (by simp [results, Try.results42, go_sem, d0, d1, val]) rfl ?_
      have HE := sets_end HK2.out (by decide) (by decide) (by decide) hz (Nat.le_refl _) HR2.out HB2.out HT2.out [(0, .string key), (1, .slice p cs.length cap)]
      exact getE_ok (pair_some hr1 hr2) ⟨p, cap, rfl, own_keep HO.out HE.kt (by decide)⟩ HE.rd HE.bel HE.kp
set_option maxHeartbeats 8000000 in
set_option maxRecDepth 20000 in
theorem rc_item (base : Nat) (q : Value) (L : List UInt8) (w : World) (hR : RdC w base q L) : Calls Try.prog 62 #[q] w (GetE (itS) (OneR toIt ii invI base) base q L w) := by
  have hz := hR.lt
  have HB0 := Lib.hid ((below_one w (.cells #[.int .u64 0, .int .u64 0, .string ⟨#[]⟩, .slice none 0 0] 51)).mono hz)
  have HT0 := Lib.hid (keep_alloc TR w (.cells #[.int .u64 0, .int .u64 0, .string ⟨#[]⟩, .slice none 0 0] 51))
  have HK0 := Lib.hid (Blk.new w 51 #[.int .u64 0, .int .u64 0, .string ⟨#[]⟩, .slice none 0 0])
  have HR0 := Lib.hid (hR.later (below_one w (.cells #[.int .u64 0, .int .u64 0, .string ⟨#[]⟩, .slice none 0 0] 51)))
  obtain ⟨g, rfl⟩ := hR.form
  clear hR
  have HC1 := Lib.hid (rc_num 1099511627776 (by decide) base _ L _ HR0.out)
  cases hr1 : nR 1099511627776 L with
  | none =>
    go_enter Try.func62, Try.ntmps62
    go_wp2_with fail
    refine HC1.out.mono ?_; intro e w1 h
    obtain ⟨rfl, h2, h3⟩ := h.none hr1
    have G2 := Lib.hid (HB0.out.trans h2)
    have G3 := Lib.hid (HT0.out.trans h3)
    clear h h2 h3
    go_wp2_with fail
    exact ⟨rfl, getE_no (pair_n1 hr1) G2.out G3.out⟩
  | some pr1 =>
    obtain ⟨x, L1⟩ := pr1
    go_enter Try.func62, Try.ntmps62
    go_wp2_with fail
    refine HC1.out.mono ?_; intro e w1 h
    obtain ⟨v1, rfl, rfl, h1, h2, h3⟩ := h.some hr1
    have HR1 := Lib.hid h1
    have HB1 := Lib.hid (HB0.out.trans h2)
    have HT1 := Lib.hid (HT0.out.trans h3)
    have HK1 := Lib.hid (HK0.out.keep h3 (by decide))
    clear h h1 h2 h3
    have HC2 := Lib.hid (rc_num 1099511627776 (by decide) base _ L1 w1 HR1.out)
    cases hr2 : nR 1099511627776 L1 with
    | none =>
      go_wp2_with fail
      refine HC2.out.mono ?_; intro e w2 h
      obtain ⟨rfl, h2, h3⟩ := h.none hr2
      have G2 := Lib.hid (HB1.out.trans h2)
      have G3 := Lib.hid (HT1.out.trans h3)
      clear h h2 h3
      go_wp2_with fail
      exact ⟨rfl, getE_no (pair_n2 hr1 (pair_n1 hr2)) G2.out G3.out⟩
    | some pr2 =>
      obtain ⟨y, L2⟩ := pr2
      go_wp2_with fail
      refine HC2.out.mono ?_; intro e w2 h
      obtain ⟨v2, rfl, rfl, h1, h2, h3⟩ := h.some hr2
      have HR2 := Lib.hid h1
      have HB2 := Lib.hid (HB1.out.trans h2)
      have HT2 := Lib.hid (HT1.out.trans h3)
      have HK2 := Lib.hid (HK1.out.keep h3 (by decide))
      clear h h1 h2 h3
      have HC3 := Lib.hid (rc_event base _ L2 w2 HR2.out)
      cases hr3 : eS L2 with
      | none =>
        go_wp2_with fail
        refine HC3.out.mono ?_; intro e w3 h
        obtain ⟨rfl, h2, h3⟩ := h.none hr3
        have G2 := Lib.hid (HB2.out.trans h2)
        have G3 := Lib.hid (HT2.out.trans h3)
        clear h h2 h3
        go_wp2_with fail
        exact ⟨rfl, getE_no (pair_n2 hr1 (pair_n2 hr2 hr3)) G2.out G3.out⟩
      | some pr3 =>
        obtain ⟨ev, L3⟩ := pr3
        go_wp2_with fail
        refine HC3.out.mono ?_; intro e w3 h
        obtain ⟨v3, rfl, ⟨p, cap, rfl, ho⟩, h1, h2, h3⟩ := h.some hr3
        have HR3 := Lib.hid h1
        have HB3 := Lib.hid (HB2.out.trans h2)
        have HT3 := Lib.hid (HT2.out.trans h3)
        have HK3 := Lib.hid (HK2.out.keep h3 (by decide))
        obtain ⟨key, cs⟩ := ev
        simp only at ho
        have HO := Lib.hid ho
        clear ho
        clear h h1 h2 h3
        have f0 := (HK3.out).free 0
        have f1 := (HK3.out).free 1
        have f2 := (HK3.out).free 2
        have f3 := (HK3.out).free 3
        have d0 := (HK3.out).cell 0 rfl
        have d1 := (HK3.out).cell 1 rfl
        have d2 := (HK3.out).cell 2 rfl
        have d3 := (HK3.out).cell 3 rfl
        go_wp2_with fail
        refine bodyPost_ret (v := .agg #[.int .u64 x, .int .u64 y, .string key, .slice p cs.length cap]) (by simp [results, Try.results62, go_sem, d0, d1, d2, d3, val]) rfl ?_
        have HE := sets_end HK3.out (by decide) (by decide) (by decide) hz (Nat.le_refl _) HR3.out HB3.out HT3.out [(0, .int .u64 x), (1, .int .u64 y), (2, .string key), (3, .slice p cs.length cap)]
        exact fin_ok toIt ii invI HE (pair_some hr1 (pair_some hr2 hr3)) ⟨⟨x, y, key, p, cap, cs⟩, rfl, rfl, own_keep HO.out HE.kt (by decide)⟩
/-- A page that was read. -/
def PgR (base : Nat) : Pg → Value → World → Prop := fun x v w => ∃ p : Pm, toPg p = x ∧ v = pp p ∧ w.ownsRow base 51 4 p.iv p.its.length (p.its.flatMap encI) ∧ (∀ c ∈ p.its, invI w base c) ∧ w.ownsRow base 83 2 p.gv p.gps.length (p.gps.flatMap encG)
set_option maxHeartbeats 8000000 in
set_option maxRecDepth 20000 in
theorem rc_page (base : Nat) (q : Value) (L : List UInt8) (w : World) (hR : RdC w base q L) : Calls Try.prog 70 #[q] w (GetE (pgS) (PgR base) base q L w) := by
  have hz := hR.lt
  have HB0 := Lib.hid ((below_one w (.cells #[.int .u64 0, .int .u64 0, .slice none 0 0, .slice none 0 0, .bool false] 64)).mono hz)
  have HT0 := Lib.hid (keep_alloc TR w (.cells #[.int .u64 0, .int .u64 0, .slice none 0 0, .slice none 0 0, .bool false] 64))
  have HK0 := Lib.hid (Blk.new w 64 #[.int .u64 0, .int .u64 0, .slice none 0 0, .slice none 0 0, .bool false])
  have HR0 := Lib.hid (hR.later (below_one w (.cells #[.int .u64 0, .int .u64 0, .slice none 0 0, .slice none 0 0, .bool false] 64)))
  obtain ⟨g, rfl⟩ := hR.form
  clear hR
  have HC0 := Lib.hid (Blk.new (w.alloc (.cells #[.int .u64 0, .int .u64 0, .slice none 0 0, .slice none 0 0, .bool false] 64)) 64 #[.int .u64 0, .int .u64 0, .slice none 0 0, .slice none 0 0, .bool false])
  have HS0 : Hid (St w base (.pointer (some ⟨g, 0, none⟩)) L w.heap.size (w.heap.size + 1) 64 #[.int .u64 0, .int .u64 0, .slice none 0 0, .slice none 0 0, .bool false] #[.int .u64 0, .int .u64 0, .slice none 0 0, .slice none 0 0, .bool false] ((w.alloc (.cells #[.int .u64 0, .int .u64 0, .slice none 0 0, .slice none 0 0, .bool false] 64)).alloc (.cells #[.int .u64 0, .int .u64 0, .slice none 0 0, .slice none 0 0, .bool false] 64))) := Lib.hid ⟨HR0.out.later (below_one _ _), HB0.out.trans ((below_one _ _).mono (by simp; omega)), HT0.out.trans (keep_alloc TR _ _), HK0.out.alloc _, by have h := HC0.out; simpa using h⟩
  clear HB0 HT0 HK0 HR0 HC0
  have HC1 := Lib.hid (rc_num 1099511627777 (by decide) base _ L _ HS0.out.rd)
  cases hr1 : nR 1099511627777 L with
  | none =>
    go_enter Try.func70, Try.ntmps70
    go_wp2_with fail
    refine HC1.out.mono ?_; intro e w1 h
    obtain ⟨rfl, h2, h3⟩ := h.none hr1
    have G2 := Lib.hid (HS0.out.bel.trans h2)
    have G3 := Lib.hid (HS0.out.kp.trans h3)
    clear h h2 h3
    go_wp2_with fail
    exact ⟨rfl, getE_no (pair_n1 hr1) G2.out G3.out⟩
  | some pr1 =>
    obtain ⟨fr, L1⟩ := pr1
    go_enter Try.func70, Try.ntmps70
    go_wp2_with fail
    refine HC1.out.mono ?_; intro e w1 h
    obtain ⟨v1, rfl, rfl, h1, h2, h3⟩ := h.some hr1
    have hS1 := HS0.out.step (by decide) h1 h2 h3
    have f := hS1.kc.free 0
    have d := hS1.kc.cell 0 rfl
    have HS1 := Lib.hid (hS1.sets (by decide) (by decide) (by decide) hz (Nat.le_refl _) (by omega) [(0, .int .u64 fr)])
    have kt := sets_keep [(0, .int .u64 fr)] hS1.kc
    clear h h1 h2 h3 hS1 kt
    have HC2 := Lib.hid (rc_num 1099511627777 (by decide) base _ L1 _ HS1.out.rd)
    cases hr2 : nR 1099511627777 L1 with
    | none =>
      go_wp2_with fail
      refine HC2.out.mono ?_; intro e w2 h
      obtain ⟨rfl, h2, h3⟩ := h.none hr2
      have G2 := Lib.hid (HS1.out.bel.trans h2)
      have G3 := Lib.hid (HS1.out.kp.trans h3)
      clear h h2 h3
      go_wp2_with fail
      exact ⟨rfl, getE_no (pair_n2 hr1 (pair_n1 hr2)) G2.out G3.out⟩
    | some pr2 =>
      obtain ⟨en, L2⟩ := pr2
      go_wp2_with fail
      refine HC2.out.mono ?_; intro e w2 h
      obtain ⟨v2, rfl, rfl, h1, h2, h3⟩ := h.some hr2
      have hS2 := HS1.out.step (by decide) h1 h2 h3
      have f := hS2.kc.free 1
      have d := hS2.kc.cell 1 rfl
      have HS2 := Lib.hid (hS2.sets (by decide) (by decide) (by decide) hz (Nat.le_refl _) (by omega) [(1, .int .u64 en)])
      have kt := sets_keep [(1, .int .u64 en)] hS2.kc
      clear h h1 h2 h3 hS2 kt
      have HC3 := Lib.hid (all_i itS 4 (by decide) base _ L2 _ HS2.out.rd (fun L' W h1 h2 => rc_item base _ L' W h2))
      cases hr3 : countR 4 itS L2 with
      | none =>
        go_wp2_with fail
        refine HC3.out.mono ?_; intro e w3 h
        obtain ⟨rfl, h2, h3⟩ := h.none hr3
        have G2 := Lib.hid (HS2.out.bel.trans h2)
        have G3 := Lib.hid (HS2.out.kp.trans h3)
        clear h h2 h3
        go_wp2_with fail
        exact ⟨rfl, getE_no (pair_n2 hr1 (pair_n2 hr2 (pair_n1 hr3))) G2.out G3.out⟩
      | some pr3 =>
        obtain ⟨il, L3⟩ := pr3
        go_wp2_with fail
        refine HC3.out.mono ?_; intro e w3 h
        obtain ⟨v3, rfl, ⟨its, hits, ho, hi⟩, h1, h2, h3⟩ := h.some hr3
        have hS3 := HS2.out.step (by decide) h1 h2 h3
        subst hits
        obtain ⟨ip, ic, rfl⟩ := own_shape ho
        have HOi := Lib.hid ho
        have HIi := Lib.hid hi
        clear ho hi
        have f := hS3.kc.free 2
        have d := hS3.kc.cell 2 rfl
        have HS3 := Lib.hid (hS3.sets (by decide) (by decide) (by decide) hz (Nat.le_refl _) (by omega) [(2, .slice ip its.length ic)])
        have kt := sets_keep [(2, .slice ip its.length ic)] hS3.kc
        have HOi := Lib.hid (own_keep HOi.out kt (by decide))
        have HIi := Lib.hid (fun c hc => own_keep (HIi.out c hc) kt (by decide))
        clear h h1 h2 h3 hS3 kt
        have HC4 := Lib.hid (all_g gS 16 (by decide) base _ L3 _ HS3.out.rd (fun L' W h1 h2 => rc_gap base _ L' W h2))
        cases hr4 : countR 16 gS L3 with
        | none =>
          go_wp2_with fail
          refine HC4.out.mono ?_; intro e w4 h
          obtain ⟨rfl, h2, h3⟩ := h.none hr4
          have G2 := Lib.hid (HS3.out.bel.trans h2)
          have G3 := Lib.hid (HS3.out.kp.trans h3)
          clear h h2 h3
          go_wp2_with fail
          exact ⟨rfl, getE_no (pair_n2 hr1 (pair_n2 hr2 (pair_n2 hr3 (pair_n1 hr4)))) G2.out G3.out⟩
        | some pr4 =>
          obtain ⟨gl, L4⟩ := pr4
          go_wp2_with fail
          refine HC4.out.mono ?_; intro e w4 h
          obtain ⟨v4, rfl, ⟨gps, hgps, ho, _⟩, h1, h2, h3⟩ := h.some hr4
          have hS4 := HS3.out.step (by decide) h1 h2 h3
          obtain rfl : gps = gl := by simpa using hgps
          obtain ⟨gp, gc, rfl⟩ := own_shape ho
          have HOg := Lib.hid ho
          clear ho hgps
          have HOi := Lib.hid (own_keep HOi.out h3 (by decide))
          have HIi := Lib.hid (fun c hc => own_keep (HIi.out c hc) h3 (by decide))
          have f := hS4.kc.free 3
          have d := hS4.kc.cell 3 rfl
          have HS4 := Lib.hid (hS4.sets (by decide) (by decide) (by decide) hz (Nat.le_refl _) (by omega) [(3, .slice gp gps.length gc)])
          have kt := sets_keep [(3, .slice gp gps.length gc)] hS4.kc
          have HOi := Lib.hid (own_keep HOi.out kt (by decide))
          have HIi := Lib.hid (fun c hc => own_keep (HIi.out c hc) kt (by decide))
          have HOg := Lib.hid (own_keep HOg.out kt (by decide))
          clear h h1 h2 h3 hS4 kt
          have HC5 := Lib.hid (rc_truth base _ L4 _ HS4.out.rd)
          cases hr5 : bR L4 with
          | none =>
            go_wp2_with fail
            refine HC5.out.mono ?_; intro e w5 h
            obtain ⟨rfl, h2, h3⟩ := h.none hr5
            have G2 := Lib.hid (HS4.out.bel.trans h2)
            have G3 := Lib.hid (HS4.out.kp.trans h3)
            clear h h2 h3
            go_wp2_with fail
            exact ⟨rfl, getE_no (pair_n2 hr1 (pair_n2 hr2 (pair_n2 hr3 (pair_n2 hr4 hr5)))) G2.out G3.out⟩
          | some pr5 =>
            obtain ⟨last, L5⟩ := pr5
            go_wp2_with fail
            refine HC5.out.mono ?_; intro e w5 h
            obtain ⟨v5, rfl, rfl, h1, h2, h3⟩ := h.some hr5
            have hS5 := HS4.out.step (by decide) h1 h2 h3
            have HOi := Lib.hid (own_keep HOi.out h3 (by decide))
            have HIi := Lib.hid (fun c hc => own_keep (HIi.out c hc) h3 (by decide))
            have HOg := Lib.hid (own_keep HOg.out h3 (by decide))
            have f := hS5.kc.free 4
            have d := hS5.kc.cell 4 rfl
            have HS5 := Lib.hid (hS5.sets (by decide) (by decide) (by decide) hz (Nat.le_refl _) (by omega) [(4, .bool last)])
            have kt := sets_keep [(4, .bool last)] hS5.kc
            have HOi := Lib.hid (own_keep HOi.out kt (by decide))
            have HIi := Lib.hid (fun c hc => own_keep (HIi.out c hc) kt (by decide))
            have HOg := Lib.hid (own_keep HOg.out kt (by decide))
            have e0 : (w5.setCell ⟨w.heap.size + 1, 4, none⟩ (.bool last)).cell? ⟨w.heap.size + 1, 0, none⟩ = some (.int .u64 fr) := HS5.out.kc.cell 0 rfl
            have e1 : (w5.setCell ⟨w.heap.size + 1, 4, none⟩ (.bool last)).cell? ⟨w.heap.size + 1, 1, none⟩ = some (.int .u64 en) := HS5.out.kc.cell 1 rfl
            have e2 : (w5.setCell ⟨w.heap.size + 1, 4, none⟩ (.bool last)).cell? ⟨w.heap.size + 1, 2, none⟩ = some (.slice ip its.length ic) := HS5.out.kc.cell 2 rfl
            have e3 : (w5.setCell ⟨w.heap.size + 1, 4, none⟩ (.bool last)).cell? ⟨w.heap.size + 1, 3, none⟩ = some (.slice gp gps.length gc) := HS5.out.kc.cell 3 rfl
            have e4 : (w5.setCell ⟨w.heap.size + 1, 4, none⟩ (.bool last)).cell? ⟨w.heap.size + 1, 4, none⟩ = some (.bool last) := HS5.out.kc.cell 4 rfl
            have x0 : (w5.setCell ⟨w.heap.size + 1, 4, none⟩ (.bool last)).cell? ⟨w.heap.size, 0, none⟩ = some (.int .u64 0) := HS5.out.kr.cell 0 rfl
            have x1 : (w5.setCell ⟨w.heap.size + 1, 4, none⟩ (.bool last)).cell? ⟨w.heap.size, 1, none⟩ = some (.int .u64 0) := HS5.out.kr.cell 1 rfl
            have x2 : (w5.setCell ⟨w.heap.size + 1, 4, none⟩ (.bool last)).cell? ⟨w.heap.size, 2, none⟩ = some (.slice none 0 0) := HS5.out.kr.cell 2 rfl
            have x3 : (w5.setCell ⟨w.heap.size + 1, 4, none⟩ (.bool last)).cell? ⟨w.heap.size, 3, none⟩ = some (.slice none 0 0) := HS5.out.kr.cell 3 rfl
            have x4 : (w5.setCell ⟨w.heap.size + 1, 4, none⟩ (.bool last)).cell? ⟨w.heap.size, 4, none⟩ = some (.bool false) := HS5.out.kr.cell 4 rfl
            have y0 : (w5.setCell ⟨w.heap.size + 1, 4, none⟩ (.bool last)).frozen? ⟨w.heap.size, 0, none⟩ = false := HS5.out.kr.free 0
            have y1 : (w5.setCell ⟨w.heap.size + 1, 4, none⟩ (.bool last)).frozen? ⟨w.heap.size, 1, none⟩ = false := HS5.out.kr.free 1
            have y2 : (w5.setCell ⟨w.heap.size + 1, 4, none⟩ (.bool last)).frozen? ⟨w.heap.size, 2, none⟩ = false := HS5.out.kr.free 2
            have y3 : (w5.setCell ⟨w.heap.size + 1, 4, none⟩ (.bool last)).frozen? ⟨w.heap.size, 3, none⟩ = false := HS5.out.kr.free 3
            have y4 : (w5.setCell ⟨w.heap.size + 1, 4, none⟩ (.bool last)).frozen? ⟨w.heap.size, 4, none⟩ = false := HS5.out.kr.free 4
            clear h h1 h2 h3 hS5 kt
            go_wp2_with fail
            refine bodyPost_ret (v := .agg #[.int .u64 fr, .int .u64 en, .slice ip its.length ic, .slice gp gps.length gc, .bool last]) (by simp [results, Try.results70, go_sem, x0, x1, x2, x3, x4]) rfl ?_
            have HE := sets_end HS5.out.kr (by decide) (by decide) (by decide) hz (Nat.le_refl _) HS5.out.rd HS5.out.bel HS5.out.kp [(0, .int .u64 fr), (1, .int .u64 en), (2, .slice ip its.length ic), (3, .slice gp gps.length gc), (4, .bool last)]
            refine getE_ok (pair_some hr1 (pair_some hr2 (pair_some hr3 (pair_some hr4 hr5)))) ⟨⟨fr, en, ip, ic, its, gp, gc, gps, last⟩, rfl, rfl, ?_, ?_, ?_⟩ HE.rd HE.bel HE.kp
            · exact own_keep HOi.out HE.kt (by decide)
            · exact fun c hc => own_keep (HIi.out c hc) HE.kt (by decide)
            · exact own_keep HOg.out HE.kt (by decide)
theorem cz_some {L L1 L2 L3 : List UInt8} {nm : ByteArray} {o : Nat} {t : Vl × List Vl} (h1 : sR 16 L = some (nm, L1)) (h2 : nR 9 L1 = some (o, L2)) (h3 : ctS o L2 = some (t, L3)) : czS L = some (((nm, o), t), L3) := by
  unfold czS
  rw [bindR_of (pair_some h1 h2), mapR_of h3]
theorem cz_n1 {L : List UInt8} (h1 : sR 16 L = none) : czS L = none := by unfold czS; rw [bindR_none (pair_n1 h1)]
theorem cz_n2 {L L1 : List UInt8} {nm : ByteArray} (h1 : sR 16 L = some (nm, L1)) (h2 : nR 9 L1 = none) : czS L = none := by unfold czS; rw [bindR_none (pair_n2 h1 h2)]
theorem cz_n3 {L L1 L2 : List UInt8} {nm : ByteArray} {o : Nat} (h1 : sR 16 L = some (nm, L1)) (h2 : nR 9 L1 = some (o, L2)) (h3 : ctS o L2 = none) : czS L = none := by
  unfold czS
  rw [bindR_of (pair_some h1 h2), mapR_none h3]
theorem ct_val {o : Nat} (h1 : o ≠ 1) (h9 : o ≠ 9) : ctS o = mapR vS fun v => (v, []) := by unfold ctS; rw [if_neg h9, if_neg h1]
set_option maxHeartbeats 8000000 in
set_option maxRecDepth 20000 in
theorem rc_cons (base : Nat) (q : Value) (L : List UInt8) (w : World) (hR : RdC w base q L) : Calls Try.prog 96 #[q] w (GetE (czS) (OneR toCz cc invC base) base q L w) := by
  have hz := hR.lt
  have HB0 := Lib.hid ((below_one w (.cells #[.string ⟨#[]⟩, .int .i64 0, .int .i64 0, .int .i64 0, .string ⟨#[]⟩, .bool false, .slice none 0 0] 99)).mono hz)
  have HT0 := Lib.hid (keep_alloc TR w (.cells #[.string ⟨#[]⟩, .int .i64 0, .int .i64 0, .int .i64 0, .string ⟨#[]⟩, .bool false, .slice none 0 0] 99))
  have HK0 := Lib.hid (Blk.new w 99 #[.string ⟨#[]⟩, .int .i64 0, .int .i64 0, .int .i64 0, .string ⟨#[]⟩, .bool false, .slice none 0 0])
  have HR0 := Lib.hid (hR.later (below_one w (.cells #[.string ⟨#[]⟩, .int .i64 0, .int .i64 0, .int .i64 0, .string ⟨#[]⟩, .bool false, .slice none 0 0] 99)))
  obtain ⟨g, rfl⟩ := hR.form
  clear hR
  have HC1 := Lib.hid (rc_text 16 (by decide) base _ L _ HR0.out)
  cases hr1 : sR 16 L with
  | none =>
    go_enter Try.func96, Try.ntmps96
    go_wp2_with fail
    refine HC1.out.mono ?_; intro e w1 h
    obtain ⟨rfl, h2, h3⟩ := h.none hr1
    have G2 := Lib.hid (HB0.out.trans h2)
    have G3 := Lib.hid (HT0.out.trans h3)
    clear h h2 h3
    go_wp2_with fail
    exact ⟨rfl, getE_no (cz_n1 hr1) G2.out G3.out⟩
  | some pr1 =>
    obtain ⟨nm, L1⟩ := pr1
    go_enter Try.func96, Try.ntmps96
    go_wp2_with fail
    refine HC1.out.mono ?_; intro e w1 h
    obtain ⟨v1, rfl, rfl, h1, h2, h3⟩ := h.some hr1
    have hlt : w.heap.size < w1.heap.size := (HK0.out.keep h3 (by decide)).lt
    have HS1 : Hid (St w base (.pointer (some ⟨g, 0, none⟩)) L1 w.heap.size w1.heap.size 99 #[.string ⟨#[]⟩, .int .i64 0, .int .i64 0, .int .i64 0, .string ⟨#[]⟩, .bool false, .slice none 0 0] #[.string nm, .int .i64 0, .int .i64 0, .int .i64 0, .string ⟨#[]⟩, .bool false, .slice none 0 0] (w1.alloc (.cells #[.string nm, .int .i64 0, .int .i64 0, .int .i64 0, .string ⟨#[]⟩, .bool false, .slice none 0 0] 99))) := Lib.hid ⟨h1.later (below_one _ _), (HB0.out.trans h2).trans ((below_one _ _).mono h1.lt), (HT0.out.trans h3).trans (keep_alloc TR _ _), (HK0.out.keep h3 (by decide)).alloc _, Blk.new _ _ _⟩
    clear h h1 h2 h3
    have HC2 := Lib.hid (rc_num 9 (by decide) base _ L1 _ HS1.out.rd)
    go_wp2_with fail
    cases hr2 : nR 9 L1 with
    | none =>
      refine HC2.out.mono ?_; intro e w2 h
      obtain ⟨rfl, h2, h3⟩ := h.none hr2
      have G2 := Lib.hid (HS1.out.bel.trans h2)
      have G3 := Lib.hid (HS1.out.kp.trans h3)
      clear h h2 h3
      go_wp2_with fail
      exact ⟨rfl, getE_no (cz_n2 hr1 hr2) G2.out G3.out⟩
    | some pr2 =>
      obtain ⟨o, L2⟩ := pr2
      have ho9 : o ≤ 9 := ((codec_n (most := 9) (by decide)).only L1 o L2 hr2).1
      refine HC2.out.mono ?_; intro e w2 h
      obtain ⟨v2, rfl, rfl, h1, h2, h3⟩ := h.some hr2
      have hS2 := HS1.out.step (by decide) h1 h2 h3
      have f := hS2.kc.free 1
      have d := hS2.kc.cell 1 rfl
      have hw : wrap64 (o : Int) = (o : Int) := by unfold wrap64; omega
      have hw2 : IntKind.i64.wrap (o : Int) = (o : Int) := (by rw [IntKind.wrap_i64]; omega)
      have HS2 : Hid (St w base (.pointer (some ⟨g, 0, none⟩)) L2 w.heap.size w1.heap.size 99 #[.string ⟨#[]⟩, .int .i64 0, .int .i64 0, .int .i64 0, .string ⟨#[]⟩, .bool false, .slice none 0 0] #[.string nm, .int .i64 o, .int .i64 0, .int .i64 0, .string ⟨#[]⟩, .bool false, .slice none 0 0] (w2.setCell ⟨w1.heap.size, 1, none⟩ (.int .i64 o))) := Lib.hid (hS2.sets (by decide) (by decide) (by decide) hz (Nat.le_refl _) hlt [(1, .int .i64 o)])
      have k1 : (w2.setCell ⟨w1.heap.size, 1, none⟩ (.int .i64 o)).cell? ⟨w1.heap.size, 1, none⟩ = some (.int .i64 o) := HS2.out.kc.cell 1 rfl
      clear h h1 h2 h3 hS2 HC1 HC2
      by_cases e1 : o = 1
      · have t1 : ((o : Int) == 1) = true := by rw [beq_iff_eq]; omega
        have t1n : (o == 1) = true := by rw [beq_iff_eq]; exact e1
        have hct : ctS o L2 = some ((default, []), L2) := by rw [e1]; rfl
        clear e1
        have e0 : (w2.setCell ⟨w1.heap.size, 1, none⟩ (.int .i64 o)).cell? ⟨w1.heap.size, 0, none⟩ = some (.string nm) := HS2.out.kc.cell 0 rfl
        have e1 : (w2.setCell ⟨w1.heap.size, 1, none⟩ (.int .i64 o)).cell? ⟨w1.heap.size, 1, none⟩ = some (.int .i64 o) := HS2.out.kc.cell 1 rfl
        have e2 : (w2.setCell ⟨w1.heap.size, 1, none⟩ (.int .i64 o)).cell? ⟨w1.heap.size, 2, none⟩ = some (.int .i64 0) := HS2.out.kc.cell 2 rfl
        have e3 : (w2.setCell ⟨w1.heap.size, 1, none⟩ (.int .i64 o)).cell? ⟨w1.heap.size, 3, none⟩ = some (.int .i64 0) := HS2.out.kc.cell 3 rfl
        have e4 : (w2.setCell ⟨w1.heap.size, 1, none⟩ (.int .i64 o)).cell? ⟨w1.heap.size, 4, none⟩ = some (.string ⟨#[]⟩) := HS2.out.kc.cell 4 rfl
        have e5 : (w2.setCell ⟨w1.heap.size, 1, none⟩ (.int .i64 o)).cell? ⟨w1.heap.size, 5, none⟩ = some (.bool false) := HS2.out.kc.cell 5 rfl
        have e6 : (w2.setCell ⟨w1.heap.size, 1, none⟩ (.int .i64 o)).cell? ⟨w1.heap.size, 6, none⟩ = some (.slice none 0 0) := HS2.out.kc.cell 6 rfl
        have x0 : (w2.setCell ⟨w1.heap.size, 1, none⟩ (.int .i64 o)).cell? ⟨w.heap.size, 0, none⟩ = some (.string ⟨#[]⟩) := HS2.out.kr.cell 0 rfl
        have x1 : (w2.setCell ⟨w1.heap.size, 1, none⟩ (.int .i64 o)).cell? ⟨w.heap.size, 1, none⟩ = some (.int .i64 0) := HS2.out.kr.cell 1 rfl
        have x2 : (w2.setCell ⟨w1.heap.size, 1, none⟩ (.int .i64 o)).cell? ⟨w.heap.size, 2, none⟩ = some (.int .i64 0) := HS2.out.kr.cell 2 rfl
        have x3 : (w2.setCell ⟨w1.heap.size, 1, none⟩ (.int .i64 o)).cell? ⟨w.heap.size, 3, none⟩ = some (.int .i64 0) := HS2.out.kr.cell 3 rfl
        have x4 : (w2.setCell ⟨w1.heap.size, 1, none⟩ (.int .i64 o)).cell? ⟨w.heap.size, 4, none⟩ = some (.string ⟨#[]⟩) := HS2.out.kr.cell 4 rfl
        have x5 : (w2.setCell ⟨w1.heap.size, 1, none⟩ (.int .i64 o)).cell? ⟨w.heap.size, 5, none⟩ = some (.bool false) := HS2.out.kr.cell 5 rfl
        have x6 : (w2.setCell ⟨w1.heap.size, 1, none⟩ (.int .i64 o)).cell? ⟨w.heap.size, 6, none⟩ = some (.slice none 0 0) := HS2.out.kr.cell 6 rfl
        have y0 : (w2.setCell ⟨w1.heap.size, 1, none⟩ (.int .i64 o)).frozen? ⟨w.heap.size, 0, none⟩ = false := HS2.out.kr.free 0
        have y1 : (w2.setCell ⟨w1.heap.size, 1, none⟩ (.int .i64 o)).frozen? ⟨w.heap.size, 1, none⟩ = false := HS2.out.kr.free 1
        have y2 : (w2.setCell ⟨w1.heap.size, 1, none⟩ (.int .i64 o)).frozen? ⟨w.heap.size, 2, none⟩ = false := HS2.out.kr.free 2
        have y3 : (w2.setCell ⟨w1.heap.size, 1, none⟩ (.int .i64 o)).frozen? ⟨w.heap.size, 3, none⟩ = false := HS2.out.kr.free 3
        have y4 : (w2.setCell ⟨w1.heap.size, 1, none⟩ (.int .i64 o)).frozen? ⟨w.heap.size, 4, none⟩ = false := HS2.out.kr.free 4
        have y5 : (w2.setCell ⟨w1.heap.size, 1, none⟩ (.int .i64 o)).frozen? ⟨w.heap.size, 5, none⟩ = false := HS2.out.kr.free 5
        have y6 : (w2.setCell ⟨w1.heap.size, 1, none⟩ (.int .i64 o)).frozen? ⟨w.heap.size, 6, none⟩ = false := HS2.out.kr.free 6
        go_wp2_with fail
        refine bodyPost_ret (v := .agg #[.string nm, .int .i64 o, .int .i64 0, .int .i64 0, .string ⟨#[]⟩, .bool false, .slice none 0 0]) (by simp [results, Try.results96, go_sem, x0, x1, x2, x3, x4, x5, x6]) rfl ?_
        have HE := sets_end HS2.out.kr (by decide) (by decide) (by decide) hz (Nat.le_refl _) HS2.out.rd HS2.out.bel HS2.out.kp [(0, .string nm), (1, .int .i64 o), (2, .int .i64 0), (3, .int .i64 0), (4, .string ⟨#[]⟩), (5, .bool false), (6, .slice none 0 0)]
        exact fin_ok toCz cc invC HE (cz_some hr1 hr2 hct) ⟨⟨nm, o, default, none, 0, []⟩, rfl, rfl, World.ownsRow_nil _ _ _ _, by simp only; omega⟩
      have t1 : ((o : Int) == 1) = false := by rw [beq_eq_false_iff_ne]; omega
      have t1n : (o == 1) = false := by rw [beq_eq_false_iff_ne]; exact e1
      by_cases e9 : o = 9
      · have t2 : ((o : Int) == 9) = true := by rw [beq_iff_eq]; omega
        have t2n : (o == 9) = true := by rw [beq_iff_eq]; exact e9
        have hct : ctS o L2 = mapR (countR 6 vS) (fun l => (default, l)) L2 := by rw [e9]; rfl
        clear e1 e9
        have HC3 := Lib.hid (all_v vS 6 (by decide) base _ L2 _ HS2.out.rd (fun L' W h1 h2 => rc_value base _ L' W h2))
        go_wp2_with fail
        cases hr3 : countR 6 vS L2 with
        | none =>
          refine HC3.out.mono ?_; intro e w3 h
          obtain ⟨rfl, h2, h3⟩ := h.none hr3
          have G2 := Lib.hid (HS2.out.bel.trans h2)
          have G3 := Lib.hid (HS2.out.kp.trans h3)
          clear h h2 h3
          go_wp2_with fail
          exact ⟨rfl, getE_no (cz_n3 hr1 hr2 (hct.trans (mapR_none hr3))) G2.out G3.out⟩
        | some pr3 =>
          obtain ⟨l, L3⟩ := pr3
          refine HC3.out.mono ?_; intro e w3 h
          obtain ⟨v3, rfl, ⟨set, hset, ho, _⟩, h1, h2, h3⟩ := h.some hr3
          obtain rfl : set = l := by simpa using hset
          obtain ⟨sp, sc, rfl⟩ := own_shape ho
          have HO := Lib.hid ho
          have hS3 := HS2.out.step (by decide) h1 h2 h3
          have f := hS3.kc.free 6
          have d := hS3.kc.cell 6 rfl
          have HS3 : Hid (St w base (.pointer (some ⟨g, 0, none⟩)) L3 w.heap.size w1.heap.size 99 #[.string ⟨#[]⟩, .int .i64 0, .int .i64 0, .int .i64 0, .string ⟨#[]⟩, .bool false, .slice none 0 0] #[.string nm, .int .i64 o, .int .i64 0, .int .i64 0, .string ⟨#[]⟩, .bool false, .slice sp set.length sc] (w3.setCell ⟨w1.heap.size, 6, none⟩ (.slice sp set.length sc))) := Lib.hid (hS3.sets (by decide) (by decide) (by decide) hz (Nat.le_refl _) hlt [(6, .slice sp set.length sc)])
          have HO := Lib.hid (own_keep HO.out (sets_keep [(6, .slice sp set.length sc)] hS3.kc) (by decide))
          clear h h1 h2 h3 hS3 ho hset k1
          have e0 : (w3.setCell ⟨w1.heap.size, 6, none⟩ (.slice sp set.length sc)).cell? ⟨w1.heap.size, 0, none⟩ = some (.string nm) := HS3.out.kc.cell 0 rfl
          have e1 : (w3.setCell ⟨w1.heap.size, 6, none⟩ (.slice sp set.length sc)).cell? ⟨w1.heap.size, 1, none⟩ = some (.int .i64 o) := HS3.out.kc.cell 1 rfl
          have e2 : (w3.setCell ⟨w1.heap.size, 6, none⟩ (.slice sp set.length sc)).cell? ⟨w1.heap.size, 2, none⟩ = some (.int .i64 0) := HS3.out.kc.cell 2 rfl
          have e3 : (w3.setCell ⟨w1.heap.size, 6, none⟩ (.slice sp set.length sc)).cell? ⟨w1.heap.size, 3, none⟩ = some (.int .i64 0) := HS3.out.kc.cell 3 rfl
          have e4 : (w3.setCell ⟨w1.heap.size, 6, none⟩ (.slice sp set.length sc)).cell? ⟨w1.heap.size, 4, none⟩ = some (.string ⟨#[]⟩) := HS3.out.kc.cell 4 rfl
          have e5 : (w3.setCell ⟨w1.heap.size, 6, none⟩ (.slice sp set.length sc)).cell? ⟨w1.heap.size, 5, none⟩ = some (.bool false) := HS3.out.kc.cell 5 rfl
          have e6 : (w3.setCell ⟨w1.heap.size, 6, none⟩ (.slice sp set.length sc)).cell? ⟨w1.heap.size, 6, none⟩ = some (.slice sp set.length sc) := HS3.out.kc.cell 6 rfl
          have x0 : (w3.setCell ⟨w1.heap.size, 6, none⟩ (.slice sp set.length sc)).cell? ⟨w.heap.size, 0, none⟩ = some (.string ⟨#[]⟩) := HS3.out.kr.cell 0 rfl
          have x1 : (w3.setCell ⟨w1.heap.size, 6, none⟩ (.slice sp set.length sc)).cell? ⟨w.heap.size, 1, none⟩ = some (.int .i64 0) := HS3.out.kr.cell 1 rfl
          have x2 : (w3.setCell ⟨w1.heap.size, 6, none⟩ (.slice sp set.length sc)).cell? ⟨w.heap.size, 2, none⟩ = some (.int .i64 0) := HS3.out.kr.cell 2 rfl
          have x3 : (w3.setCell ⟨w1.heap.size, 6, none⟩ (.slice sp set.length sc)).cell? ⟨w.heap.size, 3, none⟩ = some (.int .i64 0) := HS3.out.kr.cell 3 rfl
          have x4 : (w3.setCell ⟨w1.heap.size, 6, none⟩ (.slice sp set.length sc)).cell? ⟨w.heap.size, 4, none⟩ = some (.string ⟨#[]⟩) := HS3.out.kr.cell 4 rfl
          have x5 : (w3.setCell ⟨w1.heap.size, 6, none⟩ (.slice sp set.length sc)).cell? ⟨w.heap.size, 5, none⟩ = some (.bool false) := HS3.out.kr.cell 5 rfl
          have x6 : (w3.setCell ⟨w1.heap.size, 6, none⟩ (.slice sp set.length sc)).cell? ⟨w.heap.size, 6, none⟩ = some (.slice none 0 0) := HS3.out.kr.cell 6 rfl
          have y0 : (w3.setCell ⟨w1.heap.size, 6, none⟩ (.slice sp set.length sc)).frozen? ⟨w.heap.size, 0, none⟩ = false := HS3.out.kr.free 0
          have y1 : (w3.setCell ⟨w1.heap.size, 6, none⟩ (.slice sp set.length sc)).frozen? ⟨w.heap.size, 1, none⟩ = false := HS3.out.kr.free 1
          have y2 : (w3.setCell ⟨w1.heap.size, 6, none⟩ (.slice sp set.length sc)).frozen? ⟨w.heap.size, 2, none⟩ = false := HS3.out.kr.free 2
          have y3 : (w3.setCell ⟨w1.heap.size, 6, none⟩ (.slice sp set.length sc)).frozen? ⟨w.heap.size, 3, none⟩ = false := HS3.out.kr.free 3
          have y4 : (w3.setCell ⟨w1.heap.size, 6, none⟩ (.slice sp set.length sc)).frozen? ⟨w.heap.size, 4, none⟩ = false := HS3.out.kr.free 4
          have y5 : (w3.setCell ⟨w1.heap.size, 6, none⟩ (.slice sp set.length sc)).frozen? ⟨w.heap.size, 5, none⟩ = false := HS3.out.kr.free 5
          have y6 : (w3.setCell ⟨w1.heap.size, 6, none⟩ (.slice sp set.length sc)).frozen? ⟨w.heap.size, 6, none⟩ = false := HS3.out.kr.free 6
          go_wp2_with fail
          refine bodyPost_ret (v := .agg #[.string nm, .int .i64 o, .int .i64 0, .int .i64 0, .string ⟨#[]⟩, .bool false, .slice sp set.length sc]) (by simp [results, Try.results96, go_sem, x0, x1, x2, x3, x4, x5, x6]) rfl ?_
          have HE := sets_end HS3.out.kr (by decide) (by decide) (by decide) hz (Nat.le_refl _) HS3.out.rd HS3.out.bel HS3.out.kp [(0, .string nm), (1, .int .i64 o), (2, .int .i64 0), (3, .int .i64 0), (4, .string ⟨#[]⟩), (5, .bool false), (6, .slice sp set.length sc)]
          exact fin_ok toCz cc invC HE (cz_some hr1 hr2 (hct.trans (mapR_of hr3))) ⟨⟨nm, o, default, sp, sc, set⟩, rfl, rfl, own_keep HO.out HE.kt (by decide), by simp only; omega⟩
      have t2 : ((o : Int) == 9) = false := by rw [beq_eq_false_iff_ne]; omega
      have t2n : (o == 9) = false := by rw [beq_eq_false_iff_ne]; exact e9
      have hct : ctS o L2 = mapR vS (fun v => (v, [])) L2 := by rw [ct_val e1 e9]
      clear e1 e9
      have HC3 := Lib.hid (rc_value base _ L2 _ HS2.out.rd)
      go_wp2_with fail
      cases hr3 : vS L2 with
      | none =>
        refine HC3.out.mono ?_; intro e w3 h
        obtain ⟨rfl, h2, h3⟩ := h.none hr3
        have G2 := Lib.hid (HS2.out.bel.trans h2)
        have G3 := Lib.hid (HS2.out.kp.trans h3)
        clear h h2 h3
        go_wp2_with fail
        exact ⟨rfl, getE_no (cz_n3 hr1 hr2 (hct.trans (mapR_none hr3))) G2.out G3.out⟩
      | some pr3 =>
        obtain ⟨l, L3⟩ := pr3
        refine HC3.out.mono ?_; intro e w3 h
        obtain ⟨v3, rfl, ⟨y, hy, rfl, _⟩, h1, h2, h3⟩ := h.some hr3
        obtain rfl : y = l := hy
        have hS3 := HS2.out.step (by decide) h1 h2 h3
        have f2 := hS3.kc.free 2
        have f3 := hS3.kc.free 3
        have f4 := hS3.kc.free 4
        have f5 := hS3.kc.free 5
        have d2 := hS3.kc.cell 2 rfl
        have d3 := hS3.kc.cell 3 rfl
        have d4 := hS3.kc.cell 4 rfl
        have d5 := hS3.kc.cell 5 rfl
        have HS3 : Hid (St w base (.pointer (some ⟨g, 0, none⟩)) L3 w.heap.size w1.heap.size 99 #[.string ⟨#[]⟩, .int .i64 0, .int .i64 0, .int .i64 0, .string ⟨#[]⟩, .bool false, .slice none 0 0] #[.string nm, .int .i64 o, .int .i64 y.k, .int .i64 y.n, .string y.s, .bool y.b, .slice none 0 0] ((((w3.setCell ⟨w1.heap.size, 2, none⟩ (.int .i64 y.k)).setCell ⟨w1.heap.size, 3, none⟩ (.int .i64 y.n)).setCell ⟨w1.heap.size, 4, none⟩ (.string y.s)).setCell ⟨w1.heap.size, 5, none⟩ (.bool y.b))) := Lib.hid (hS3.sets (by decide) (by decide) (by decide) hz (Nat.le_refl _) hlt [(2, .int .i64 y.k), (3, .int .i64 y.n), (4, .string y.s), (5, .bool y.b)])
        clear h h1 h2 h3 hS3 k1
        have e0 : ((((w3.setCell ⟨w1.heap.size, 2, none⟩ (.int .i64 y.k)).setCell ⟨w1.heap.size, 3, none⟩ (.int .i64 y.n)).setCell ⟨w1.heap.size, 4, none⟩ (.string y.s)).setCell ⟨w1.heap.size, 5, none⟩ (.bool y.b)).cell? ⟨w1.heap.size, 0, none⟩ = some (.string nm) := HS3.out.kc.cell 0 rfl
        have e1 : ((((w3.setCell ⟨w1.heap.size, 2, none⟩ (.int .i64 y.k)).setCell ⟨w1.heap.size, 3, none⟩ (.int .i64 y.n)).setCell ⟨w1.heap.size, 4, none⟩ (.string y.s)).setCell ⟨w1.heap.size, 5, none⟩ (.bool y.b)).cell? ⟨w1.heap.size, 1, none⟩ = some (.int .i64 o) := HS3.out.kc.cell 1 rfl
        have e2 : ((((w3.setCell ⟨w1.heap.size, 2, none⟩ (.int .i64 y.k)).setCell ⟨w1.heap.size, 3, none⟩ (.int .i64 y.n)).setCell ⟨w1.heap.size, 4, none⟩ (.string y.s)).setCell ⟨w1.heap.size, 5, none⟩ (.bool y.b)).cell? ⟨w1.heap.size, 2, none⟩ = some (.int .i64 y.k) := HS3.out.kc.cell 2 rfl
        have e3 : ((((w3.setCell ⟨w1.heap.size, 2, none⟩ (.int .i64 y.k)).setCell ⟨w1.heap.size, 3, none⟩ (.int .i64 y.n)).setCell ⟨w1.heap.size, 4, none⟩ (.string y.s)).setCell ⟨w1.heap.size, 5, none⟩ (.bool y.b)).cell? ⟨w1.heap.size, 3, none⟩ = some (.int .i64 y.n) := HS3.out.kc.cell 3 rfl
        have e4 : ((((w3.setCell ⟨w1.heap.size, 2, none⟩ (.int .i64 y.k)).setCell ⟨w1.heap.size, 3, none⟩ (.int .i64 y.n)).setCell ⟨w1.heap.size, 4, none⟩ (.string y.s)).setCell ⟨w1.heap.size, 5, none⟩ (.bool y.b)).cell? ⟨w1.heap.size, 4, none⟩ = some (.string y.s) := HS3.out.kc.cell 4 rfl
        have e5 : ((((w3.setCell ⟨w1.heap.size, 2, none⟩ (.int .i64 y.k)).setCell ⟨w1.heap.size, 3, none⟩ (.int .i64 y.n)).setCell ⟨w1.heap.size, 4, none⟩ (.string y.s)).setCell ⟨w1.heap.size, 5, none⟩ (.bool y.b)).cell? ⟨w1.heap.size, 5, none⟩ = some (.bool y.b) := HS3.out.kc.cell 5 rfl
        have e6 : ((((w3.setCell ⟨w1.heap.size, 2, none⟩ (.int .i64 y.k)).setCell ⟨w1.heap.size, 3, none⟩ (.int .i64 y.n)).setCell ⟨w1.heap.size, 4, none⟩ (.string y.s)).setCell ⟨w1.heap.size, 5, none⟩ (.bool y.b)).cell? ⟨w1.heap.size, 6, none⟩ = some (.slice none 0 0) := HS3.out.kc.cell 6 rfl
        have x0 : ((((w3.setCell ⟨w1.heap.size, 2, none⟩ (.int .i64 y.k)).setCell ⟨w1.heap.size, 3, none⟩ (.int .i64 y.n)).setCell ⟨w1.heap.size, 4, none⟩ (.string y.s)).setCell ⟨w1.heap.size, 5, none⟩ (.bool y.b)).cell? ⟨w.heap.size, 0, none⟩ = some (.string ⟨#[]⟩) := HS3.out.kr.cell 0 rfl
        have x1 : ((((w3.setCell ⟨w1.heap.size, 2, none⟩ (.int .i64 y.k)).setCell ⟨w1.heap.size, 3, none⟩ (.int .i64 y.n)).setCell ⟨w1.heap.size, 4, none⟩ (.string y.s)).setCell ⟨w1.heap.size, 5, none⟩ (.bool y.b)).cell? ⟨w.heap.size, 1, none⟩ = some (.int .i64 0) := HS3.out.kr.cell 1 rfl
        have x2 : ((((w3.setCell ⟨w1.heap.size, 2, none⟩ (.int .i64 y.k)).setCell ⟨w1.heap.size, 3, none⟩ (.int .i64 y.n)).setCell ⟨w1.heap.size, 4, none⟩ (.string y.s)).setCell ⟨w1.heap.size, 5, none⟩ (.bool y.b)).cell? ⟨w.heap.size, 2, none⟩ = some (.int .i64 0) := HS3.out.kr.cell 2 rfl
        have x3 : ((((w3.setCell ⟨w1.heap.size, 2, none⟩ (.int .i64 y.k)).setCell ⟨w1.heap.size, 3, none⟩ (.int .i64 y.n)).setCell ⟨w1.heap.size, 4, none⟩ (.string y.s)).setCell ⟨w1.heap.size, 5, none⟩ (.bool y.b)).cell? ⟨w.heap.size, 3, none⟩ = some (.int .i64 0) := HS3.out.kr.cell 3 rfl
        have x4 : ((((w3.setCell ⟨w1.heap.size, 2, none⟩ (.int .i64 y.k)).setCell ⟨w1.heap.size, 3, none⟩ (.int .i64 y.n)).setCell ⟨w1.heap.size, 4, none⟩ (.string y.s)).setCell ⟨w1.heap.size, 5, none⟩ (.bool y.b)).cell? ⟨w.heap.size, 4, none⟩ = some (.string ⟨#[]⟩) := HS3.out.kr.cell 4 rfl
        have x5 : ((((w3.setCell ⟨w1.heap.size, 2, none⟩ (.int .i64 y.k)).setCell ⟨w1.heap.size, 3, none⟩ (.int .i64 y.n)).setCell ⟨w1.heap.size, 4, none⟩ (.string y.s)).setCell ⟨w1.heap.size, 5, none⟩ (.bool y.b)).cell? ⟨w.heap.size, 5, none⟩ = some (.bool false) := HS3.out.kr.cell 5 rfl
        have x6 : ((((w3.setCell ⟨w1.heap.size, 2, none⟩ (.int .i64 y.k)).setCell ⟨w1.heap.size, 3, none⟩ (.int .i64 y.n)).setCell ⟨w1.heap.size, 4, none⟩ (.string y.s)).setCell ⟨w1.heap.size, 5, none⟩ (.bool y.b)).cell? ⟨w.heap.size, 6, none⟩ = some (.slice none 0 0) := HS3.out.kr.cell 6 rfl
        have y0 : ((((w3.setCell ⟨w1.heap.size, 2, none⟩ (.int .i64 y.k)).setCell ⟨w1.heap.size, 3, none⟩ (.int .i64 y.n)).setCell ⟨w1.heap.size, 4, none⟩ (.string y.s)).setCell ⟨w1.heap.size, 5, none⟩ (.bool y.b)).frozen? ⟨w.heap.size, 0, none⟩ = false := HS3.out.kr.free 0
        have y1 : ((((w3.setCell ⟨w1.heap.size, 2, none⟩ (.int .i64 y.k)).setCell ⟨w1.heap.size, 3, none⟩ (.int .i64 y.n)).setCell ⟨w1.heap.size, 4, none⟩ (.string y.s)).setCell ⟨w1.heap.size, 5, none⟩ (.bool y.b)).frozen? ⟨w.heap.size, 1, none⟩ = false := HS3.out.kr.free 1
        have y2 : ((((w3.setCell ⟨w1.heap.size, 2, none⟩ (.int .i64 y.k)).setCell ⟨w1.heap.size, 3, none⟩ (.int .i64 y.n)).setCell ⟨w1.heap.size, 4, none⟩ (.string y.s)).setCell ⟨w1.heap.size, 5, none⟩ (.bool y.b)).frozen? ⟨w.heap.size, 2, none⟩ = false := HS3.out.kr.free 2
        have y3 : ((((w3.setCell ⟨w1.heap.size, 2, none⟩ (.int .i64 y.k)).setCell ⟨w1.heap.size, 3, none⟩ (.int .i64 y.n)).setCell ⟨w1.heap.size, 4, none⟩ (.string y.s)).setCell ⟨w1.heap.size, 5, none⟩ (.bool y.b)).frozen? ⟨w.heap.size, 3, none⟩ = false := HS3.out.kr.free 3
        have y4 : ((((w3.setCell ⟨w1.heap.size, 2, none⟩ (.int .i64 y.k)).setCell ⟨w1.heap.size, 3, none⟩ (.int .i64 y.n)).setCell ⟨w1.heap.size, 4, none⟩ (.string y.s)).setCell ⟨w1.heap.size, 5, none⟩ (.bool y.b)).frozen? ⟨w.heap.size, 4, none⟩ = false := HS3.out.kr.free 4
        have y5 : ((((w3.setCell ⟨w1.heap.size, 2, none⟩ (.int .i64 y.k)).setCell ⟨w1.heap.size, 3, none⟩ (.int .i64 y.n)).setCell ⟨w1.heap.size, 4, none⟩ (.string y.s)).setCell ⟨w1.heap.size, 5, none⟩ (.bool y.b)).frozen? ⟨w.heap.size, 5, none⟩ = false := HS3.out.kr.free 5
        have y6 : ((((w3.setCell ⟨w1.heap.size, 2, none⟩ (.int .i64 y.k)).setCell ⟨w1.heap.size, 3, none⟩ (.int .i64 y.n)).setCell ⟨w1.heap.size, 4, none⟩ (.string y.s)).setCell ⟨w1.heap.size, 5, none⟩ (.bool y.b)).frozen? ⟨w.heap.size, 6, none⟩ = false := HS3.out.kr.free 6
        go_wp2_with fail
        refine bodyPost_ret (v := .agg #[.string nm, .int .i64 o, .int .i64 y.k, .int .i64 y.n, .string y.s, .bool y.b, .slice none 0 0]) (by simp [results, Try.results96, go_sem, x0, x1, x2, x3, x4, x5, x6]) rfl ?_
        have HE := sets_end HS3.out.kr (by decide) (by decide) (by decide) hz (Nat.le_refl _) HS3.out.rd HS3.out.bel HS3.out.kp [(0, .string nm), (1, .int .i64 o), (2, .int .i64 y.k), (3, .int .i64 y.n), (4, .string y.s), (5, .bool y.b), (6, .slice none 0 0)]
        exact fin_ok toCz cc invC HE (cz_some hr1 hr2 (hct.trans (mapR_of hr3))) ⟨⟨nm, o, y, none, 0, []⟩, rfl, rfl, World.ownsRow_nil _ _ _ _, by simp only; omega⟩
set_option maxHeartbeats 2000000 in
set_option maxRecDepth 20000 in
theorem rc_pred (base : Nat) (q : Value) (L : List UInt8) (w : World) (hR : RdC w base q L) : Calls Try.prog 53 #[q] w (GetE pzS (PrR base) base q L w) := by
  have HC := Lib.hid (all_c czS 6 (by decide) base q L w hR (fun L' W h1 h2 => rc_cons base _ L' W h2))
  obtain ⟨g, rfl⟩ := hR.form
  clear hR
  cases hr : countR 6 czS L with
  | none =>
    have HR := Lib.hid hr
    go_enter Try.func53, Try.ntmps53
    go_wp2_with fail
    refine HC.out.mono ?_; intro e w1 h
    obtain ⟨rfl, h2, h3⟩ := h.none HR.out
    have G2 := Lib.hid h2
    have G3 := Lib.hid h3
    clear h h2 h3
    go_wp2_with fail
    exact ⟨rfl, getE_no hr G2.out G3.out⟩
  | some pr =>
    obtain ⟨l, L1⟩ := pr
    have HR := Lib.hid hr
    go_enter Try.func53, Try.ntmps53
    go_wp2_with fail
    refine HC.out.mono ?_; intro e w1 h
    obtain ⟨v, rfl, hv, h1, h2, h3⟩ := h.some HR.out
    have HV := Lib.hid hv
    have G1 := Lib.hid h1
    have G2 := Lib.hid h2
    have G3 := Lib.hid h3
    obtain ⟨cs, _, ho, _⟩ := hv
    obtain ⟨p, cap, rfl⟩ := own_shape ho
    clear h h1 h2 h3 ho
    go_wp2_with fail
    go_ret
    exact getE_ok hr HV.out G1.out G2.out G3.out
end Go.Proofs.Ytkfheodcmhodpaa.Gm
