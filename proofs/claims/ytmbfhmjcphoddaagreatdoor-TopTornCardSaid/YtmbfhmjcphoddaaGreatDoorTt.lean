/- What the codec's reader has read: kept, and whether it may be. -/
import Derived.Test.YtmbfhmjcphoddaaGreatDoorTw
import Derived.Test.YtmbfhmjcphoddaaGreatDoorA
import Derived.Test.YtmbfhmjcphoddaaGreatDoorTp
import Derived.Test.YtmbfhmjcphoddaaGreatDoorTr
/- Package codec's reader: value, attr, event, item, gap, constraint, pred, page. (Written by tools/gen_tx.py.) -/
set_option linter.unusedSimpArgs false
set_option linter.unusedVariables false
namespace Go.Proofs.YtmbfhmjcphoddaaGreatDoor.Gm
open Go Go.RowKit
attribute [local go_sem ↓] Go.wp_at_zero Go.wp_at_succ

theorem Blk.setAt {w : World} {g : Nat} {t : TypeId} {cs : Array Value} (h : Blk w g t cs) (i : Nat) (u : Value) : Blk (w.setCell ⟨g, i, none⟩ u) g t (cs.setIfInBounds i u) := by
  have hlt := h.lt
  have h' : w.heap[g] = .cells cs t (0, 0) := by
    have := h; unfold Blk at this; rw [Array.getElem?_eq_getElem hlt] at this; exact Option.some.inj this
  show (w.heap.modify g _)[g]? = _
  rw [Array.getElem?_eq_getElem (by simpa using hlt), Array.getElem_modify_self, h']
  rfl
/-- Stores into cells of one block. -/
def sets (w : World) (g : Nat) : List (Nat × Value) → World
  | [] => w
  | (i, u) :: r => sets (w.setCell ⟨g, i, none⟩ u) g r
theorem sets_blk {g : Nat} {t : TypeId} : ∀ (l : List (Nat × Value)) {w : World} {cs : Array Value}, Blk w g t cs → Blk (sets w g l) g t (l.foldl (fun c p => c.setIfInBounds p.1 p.2) cs)
  | [], _, _, h => h
  | (i, u) :: r, _, _, h => sets_blk r (h.setAt i u)
theorem sets_keep {g : Nat} {t : TypeId} : ∀ (l : List (Nat × Value)) {w : World} {cs : Array Value}, Blk w g t cs → Keep [t] w (sets w g l)
  | [], w, _, _ => Keep.refl _ w
  | (i, u) :: r, _, _, h => (keep_set h (by simp) u).trans (sets_keep r (h.setAt i u))
theorem sets_below {g B : Nat} (hg : B ≤ g) : ∀ (l : List (Nat × Value)) {w : World}, Below B w (sets w g l)
  | [], w => Below.refl B w
  | (i, u) :: r, w => ((Below.refl B w).setCell hg u).trans (sets_below hg r)
/-- Behind stores into a block that the call has made. -/
structure EndS (w : World) (base : Nat) (q : Value) (L : List UInt8) (T : List TypeId) (w3 w' : World) : Prop where
  rd : RdC w' base q L
  bel : Below base w w'
  kp : Keep TR w w'
  kt : Keep T w3 w'
theorem sets_end {w w3 : World} {g base : Nat} {t : TypeId} {cs : Array Value} {q : Value} {L : List UInt8} (h : Blk w3 g t cs) (h1 : 124 ∉ [t]) (h2 : 142 ∉ [t]) (h3 : 5 ∉ [t]) (hz : base ≤ w.heap.size) (hg : w.heap.size ≤ g) (hr : RdC w3 base q L) (hb : Below base w w3) (hk : Keep TR w w3) (l : List (Nat × Value)) : EndS w base q L [t] w3 (sets w3 g l) :=
  ⟨hr.keep (sets_keep l h) h1 h2 h3, hb.trans (sets_below (by omega) l), hk.below (sets_below hg l), sets_keep l h⟩
theorem fin_ok {ρ α : Type} {rd : Rd α} (toZ : ρ → α) (val : ρ → Value) (inv : World → Nat → ρ → Prop) {base : Nat} {q : Value} {L L' : List UInt8} {T : List TypeId} {w w3 w' : World} {x : α} {v : Value} (hE : EndS w base q L' T w3 w') (hr : rd L = some (x, L')) (hv : OneR toZ val inv base x v w') : GetE rd (OneR toZ val inv base) base q L w (.returned v) w' :=
  getE_ok hr hv hE.rd hE.bel hE.kp
theorem bel_lt {base : Nat} {w w1 : World} (h : Below base w w1) (hz : base ≤ w.heap.size) : base ≤ w1.heap.size := Nat.le_trans hz h.size
theorem vS_of {k : Nat} {L L1 L2 : List UInt8} {x : Vl} (h : nR 3 L = some (k, L1)) (h2 : vtR k L1 = some (x, L2)) (h0 : x.k ≠ 0) : vS L = some (x, L2) := by
  have e : vR L = some (x, L2) := by unfold vR; rw [bindR_of h]; exact h2
  unfold vS; rw [e]; simp only; rw [if_neg h0]
theorem vS_no {k : Nat} {L L1 : List UInt8} (h : nR 3 L = some (k, L1)) (h2 : vtR k L1 = none) : vS L = none := by
  have e : vR L = none := by unfold vR; rw [bindR_of h]; exact h2
  unfold vS; rw [e]
theorem vS_none {L : List UInt8} (h : nR 3 L = none) : vS L = none := by
  have e : vR L = none := by unfold vR; rw [bindR_none h]
  unfold vS; rw [e]
theorem vS_zero {L L1 : List UInt8} (h : nR 3 L = some (0, L1)) : vS L = none := by
  have e : vR L = some (⟨0, 0, ⟨#[]⟩, false⟩, L1) := by unfold vR; rw [bindR_of h]; rfl
  unfold vS; rw [e]; rfl
/-- Two blocks of the call's own: the result's, and the one it is made in. -/
structure St (w : World) (base : Nat) (q : Value) (L : List UInt8) (R C : Nat) (t : TypeId) (cs' cs : Array Value) (W : World) : Prop where
  rd : RdC W base q L
  bel : Below base w W
  kp : Keep TR w W
  kr : Blk W R t cs'
  kc : Blk W C t cs
theorem St.step {w W W' : World} {base R C : Nat} {q : Value} {L L' : List UInt8} {t : TypeId} {cs' cs : Array Value} (h : St w base q L R C t cs' cs W) (ht : t ∉ TR) (h1 : RdC W' base q L') (h2 : Below base W W') (h3 : Keep TR W W') : St w base q L' R C t cs' cs W' :=
  ⟨h1, h.bel.trans h2, h.kp.trans h3, h.kr.keep h3 ht, h.kc.keep h3 ht⟩
theorem blk_other {R C : Nat} {t : TypeId} {cs : Array Value} (hne : R ≠ C) : ∀ (l : List (Nat × Value)) {W : World}, Blk W R t cs → Blk (sets W C l) R t cs
  | [], _, h => h
  | (i, u) :: r, _, h => blk_other hne r (h.other hne u)
theorem St.sets {w W : World} {base R C : Nat} {q : Value} {L : List UInt8} {t : TypeId} {cs' cs : Array Value} (h : St w base q L R C t cs' cs W) (h1 : 124 ∉ [t]) (h2 : 142 ∉ [t]) (h3 : 5 ∉ [t]) (hz : base ≤ w.heap.size) (hR : w.heap.size ≤ R) (hC : R < C) (l : List (Nat × Value)) : St w base q L R C t cs' (l.foldl (fun c p => c.setIfInBounds p.1 p.2) cs) (sets W C l) :=
  ⟨h.rd.keep (sets_keep l h.kc) h1 h2 h3, h.bel.trans (sets_below (by omega) l), h.kp.below (sets_below (by omega) l), blk_other (by omega) l h.kr, sets_blk l h.kc⟩
theorem pair_some {α β : Type} {rd : Rd α} {rd' : Rd β} {L L1 L2 : List UInt8} {x : α} {y : β} (h1 : rd L = some (x, L1)) (h2 : rd' L1 = some (y, L2)) : (bindR rd fun x => mapR rd' fun y => (x, y)) L = some ((x, y), L2) := by rw [bindR_of h1, mapR_of h2]
theorem pair_n1 {α β : Type} {rd : Rd α} {rd' : Rd β} {L : List UInt8} (h1 : rd L = none) : (bindR rd fun x => mapR rd' fun y => (x, y)) L = none := bindR_none h1
theorem pair_n2 {α β : Type} {rd : Rd α} {rd' : Rd β} {L L1 : List UInt8} {x : α} (h1 : rd L = some (x, L1)) (h2 : rd' L1 = none) : (bindR rd fun x => mapR rd' fun y => (x, y)) L = none := by rw [bindR_of h1, mapR_none h2]
/-- An event that was read. -/
def EvR (base : Nat) : Ev → Value → World → Prop := fun x v w => ∃ (p : Option Addr) (cap : Nat), v = .agg #[.string x.1, .slice p x.2.length cap] ∧ w.ownsRow base 100 5 (.slice p x.2.length cap) x.2.length (x.2.flatMap encA)
set_option maxHeartbeats 8000000 in
set_option maxRecDepth 20000 in
theorem rc_value (base : Nat) (q : Value) (L : List UInt8) (w : World) (hR : RdC w base q L) : Calls Tryz.prog 108 #[q] w (GetE (vS) (OneR id vv invV base) base q L w) := by
  have hz := hR.lt
  have HB0 := Lib.hid ((below_one w (.cells #[.int .i64 0, .int .i64 0, .string ⟨#[]⟩, .bool false] 98)).mono hz)
  have HT0 := Lib.hid (keep_alloc TR w (.cells #[.int .i64 0, .int .i64 0, .string ⟨#[]⟩, .bool false] 98))
  have HK0 := Lib.hid (Blk.new w 98 #[.int .i64 0, .int .i64 0, .string ⟨#[]⟩, .bool false])
  have HR0 := Lib.hid (hR.later (below_one w (.cells #[.int .i64 0, .int .i64 0, .string ⟨#[]⟩, .bool false] 98)))
  obtain ⟨g, rfl⟩ := hR.form
  clear hR
  have HN := Lib.hid (rc_num 3 (by decide) base _ L _ HR0.out)
  cases hr : nR 3 L with
  | none =>
    go_enter Tryz.func108, Tryz.ntmps108
    go_wp2_with fail
    refine HN.out.mono ?_; intro e w1 h
    obtain ⟨rfl, h2, h3⟩ := h.none hr
    have H2 := Lib.hid (HB0.out.trans h2)
    have H3 := Lib.hid (HT0.out.trans h3)
    clear h h2 h3
    go_wp2_with fail
    exact ⟨rfl, getE_no (vS_none hr) H2.out H3.out⟩
  | some pr =>
    obtain ⟨k, L1⟩ := pr
    have hk : k ≤ 3 := ((codec_n (most := 3) (by decide)).only L k L1 hr).1
    have HR := Lib.hid hr
    clear hr
    go_enter Tryz.func108, Tryz.ntmps108
    go_wp2_with fail
    refine HN.out.mono ?_; intro e w1 h
    obtain ⟨v, rfl, rfl, h1, h2, h3⟩ := h.some HR.out
    have H1 := Lib.hid h1
    have H2 := Lib.hid (HB0.out.trans h2)
    have H3 := Lib.hid (HT0.out.trans h3)
    have HKr := Lib.hid (HK0.out.keep h3 (by decide))
    clear h h1 h2 h3 HN
    obtain rfl | rfl | rfl | rfl : k = 0 ∨ k = 1 ∨ k = 2 ∨ k = 3 := by omega
    · go_wp2_with fail
      exact ⟨rfl, getE_no (vS_zero HR.out) H2.out H3.out⟩
    · have HS := Lib.hid (rc_signed base _ L1 w1 H1.out)
      go_wp2_with fail
      cases hr2 : iR L1 with
      | none =>
        refine HS.out.mono ?_; intro e w2 h
        obtain ⟨rfl, h2, h3⟩ := h.none hr2
        have G2 := Lib.hid (H2.out.trans h2)
        have G3 := Lib.hid (H3.out.trans h3)
        clear h h2 h3
        go_wp2_with fail
        exact ⟨rfl, getE_no (vS_no HR.out (mapR_none hr2)) G2.out G3.out⟩
      | some p2 =>
        obtain ⟨n, L2⟩ := p2
        refine HS.out.mono ?_; intro e w2 h
        obtain ⟨v, rfl, rfl, h1, h2, h3⟩ := h.some hr2
        have G1 := Lib.hid h1
        have G2 := Lib.hid (H2.out.trans h2)
        have G3 := Lib.hid (H3.out.trans h3)
        have HKs := Lib.hid (HKr.out.keep h3 (by decide))
        clear h h1 h2 h3
        go_wp2_with fail
        refine (number_any n _).mono ?_; rintro e w3 ⟨rfl, b3⟩
        have f0 := (HKs.out.later b3).free 0
        have f1 := (HKs.out.later b3).free 1
        have f2 := (HKs.out.later b3).free 2
        have f3 := (HKs.out.later b3).free 3
        have d0 := (HKs.out.later b3).cell 0 rfl
        have d1 := (HKs.out.later b3).cell 1 rfl
        have d2 := (HKs.out.later b3).cell 2 rfl
        have d3 := (HKs.out.later b3).cell 3 rfl
        have GKs := Lib.hid (HKs.out.later b3)
        have GR := Lib.hid (G1.out.later b3)
        have GB := Lib.hid (G2.out.trans (b3.mono (bel_lt G2.out hz)))
        have GK := Lib.hid (G3.out.trans (keep_below TR b3))
        clear b3
        go_wp2_with fail
        refine bodyPost_ret (v := val 1 n ⟨#[]⟩ false) (by simp [results, Tryz.results108, go_sem, d0, d1, d2, d3, val]) rfl ?_
        exact fin_ok id vv invV (sets_end GKs.out (by decide) (by decide) (by decide) hz (Nat.le_refl _) GR.out GB.out GK.out [(0, .int .i64 1), (1, .int .i64 n), (2, .string ⟨#[]⟩), (3, .bool false)]) (vS_of HR.out (mapR_of hr2) (by intro h; simp at h)) ⟨⟨1, n, ⟨#[]⟩, false⟩, rfl, rfl, trivial⟩
    · have HS := Lib.hid (rc_text 32 (by decide) base _ L1 w1 H1.out)
      go_wp2_with fail
      cases hr2 : (sR 32) L1 with
      | none =>
        refine HS.out.mono ?_; intro e w2 h
        obtain ⟨rfl, h2, h3⟩ := h.none hr2
        have G2 := Lib.hid (H2.out.trans h2)
        have G3 := Lib.hid (H3.out.trans h3)
        clear h h2 h3
        go_wp2_with fail
        exact ⟨rfl, getE_no (vS_no HR.out (mapR_none hr2)) G2.out G3.out⟩
      | some p2 =>
        obtain ⟨n, L2⟩ := p2
        refine HS.out.mono ?_; intro e w2 h
        obtain ⟨v, rfl, rfl, h1, h2, h3⟩ := h.some hr2
        have G1 := Lib.hid h1
        have G2 := Lib.hid (H2.out.trans h2)
        have G3 := Lib.hid (H3.out.trans h3)
        have HKs := Lib.hid (HKr.out.keep h3 (by decide))
        clear h h1 h2 h3
        go_wp2_with fail
        refine (word_any n _).mono ?_; rintro e w3 ⟨rfl, b3⟩
        have f0 := (HKs.out.later b3).free 0
        have f1 := (HKs.out.later b3).free 1
        have f2 := (HKs.out.later b3).free 2
        have f3 := (HKs.out.later b3).free 3
        have d0 := (HKs.out.later b3).cell 0 rfl
        have d1 := (HKs.out.later b3).cell 1 rfl
        have d2 := (HKs.out.later b3).cell 2 rfl
        have d3 := (HKs.out.later b3).cell 3 rfl
        have GKs := Lib.hid (HKs.out.later b3)
        have GR := Lib.hid (G1.out.later b3)
        have GB := Lib.hid (G2.out.trans (b3.mono (bel_lt G2.out hz)))
        have GK := Lib.hid (G3.out.trans (keep_below TR b3))
        clear b3
        go_wp2_with fail
        refine bodyPost_ret (v := val 2 0 n false) (by simp [results, Tryz.results108, go_sem, d0, d1, d2, d3, val]) rfl ?_
        exact fin_ok id vv invV (sets_end GKs.out (by decide) (by decide) (by decide) hz (Nat.le_refl _) GR.out GB.out GK.out [(0, .int .i64 2), (1, .int .i64 0), (2, .string n), (3, .bool false)]) (vS_of HR.out (mapR_of hr2) (by intro h; simp at h)) ⟨⟨2, 0, n, false⟩, rfl, rfl, trivial⟩
    · have HS := Lib.hid (rc_truth base _ L1 w1 H1.out)
      go_wp2_with fail
      cases hr2 : bR L1 with
      | none =>
        refine HS.out.mono ?_; intro e w2 h
        obtain ⟨rfl, h2, h3⟩ := h.none hr2
        have G2 := Lib.hid (H2.out.trans h2)
        have G3 := Lib.hid (H3.out.trans h3)
        clear h h2 h3
        go_wp2_with fail
        exact ⟨rfl, getE_no (vS_no HR.out (mapR_none hr2)) G2.out G3.out⟩
      | some p2 =>
        obtain ⟨n, L2⟩ := p2
        refine HS.out.mono ?_; intro e w2 h
        obtain ⟨v, rfl, rfl, h1, h2, h3⟩ := h.some hr2
        have G1 := Lib.hid h1
        have G2 := Lib.hid (H2.out.trans h2)
        have G3 := Lib.hid (H3.out.trans h3)
        have HKs := Lib.hid (HKr.out.keep h3 (by decide))
        clear h h1 h2 h3
        go_wp2_with fail
        refine (truth_any n _).mono ?_; rintro e w3 ⟨rfl, b3⟩
        have f0 := (HKs.out.later b3).free 0
        have f1 := (HKs.out.later b3).free 1
        have f2 := (HKs.out.later b3).free 2
        have f3 := (HKs.out.later b3).free 3
        have d0 := (HKs.out.later b3).cell 0 rfl
        have d1 := (HKs.out.later b3).cell 1 rfl
        have d2 := (HKs.out.later b3).cell 2 rfl
        have d3 := (HKs.out.later b3).cell 3 rfl
        have GKs := Lib.hid (HKs.out.later b3)
        have GR := Lib.hid (G1.out.later b3)
        have GB := Lib.hid (G2.out.trans (b3.mono (bel_lt G2.out hz)))
        have GK := Lib.hid (G3.out.trans (keep_below TR b3))
        clear b3
        go_wp2_with fail
        refine bodyPost_ret (v := val 3 0 ⟨#[]⟩ n) (by simp [results, Tryz.results108, go_sem, d0, d1, d2, d3, val]) rfl ?_
        exact fin_ok id vv invV (sets_end GKs.out (by decide) (by decide) (by decide) hz (Nat.le_refl _) GR.out GB.out GK.out [(0, .int .i64 3), (1, .int .i64 0), (2, .string ⟨#[]⟩), (3, .bool n)]) (vS_of HR.out (mapR_of hr2) (by intro h; simp at h)) ⟨⟨3, 0, ⟨#[]⟩, n⟩, rfl, rfl, trivial⟩
set_option maxHeartbeats 8000000 in
set_option maxRecDepth 20000 in
theorem rc_attr (base : Nat) (q : Value) (L : List UInt8) (w : World) (hR : RdC w base q L) : Calls Tryz.prog 96 #[q] w (GetE (aS) (OneR id aa' invA base) base q L w) := by
  have hz := hR.lt
  have HB0 := Lib.hid ((below_one w (.cells #[.string ⟨#[]⟩, .int .i64 0, .int .i64 0, .string ⟨#[]⟩, .bool false] 100)).mono hz)
  have HT0 := Lib.hid (keep_alloc TR w (.cells #[.string ⟨#[]⟩, .int .i64 0, .int .i64 0, .string ⟨#[]⟩, .bool false] 100))
  have HK0 := Lib.hid (Blk.new w 100 #[.string ⟨#[]⟩, .int .i64 0, .int .i64 0, .string ⟨#[]⟩, .bool false])
  have HR0 := Lib.hid (hR.later (below_one w (.cells #[.string ⟨#[]⟩, .int .i64 0, .int .i64 0, .string ⟨#[]⟩, .bool false] 100)))
  obtain ⟨g, rfl⟩ := hR.form
  clear hR
  have HC1 := Lib.hid (rc_text 16 (by decide) base _ L _ HR0.out)
  cases hr1 : sR 16 L with
  | none =>
    go_enter Tryz.func96, Tryz.ntmps96
    go_wp2_with fail
    refine HC1.out.mono ?_; intro e w1 h
    obtain ⟨rfl, h2, h3⟩ := h.none hr1
    have G2 := Lib.hid (HB0.out.trans h2)
    have G3 := Lib.hid (HT0.out.trans h3)
    clear h h2 h3
    go_wp2_with fail
    exact ⟨rfl, getE_no (mapR_none (pair_n1 hr1)) G2.out G3.out⟩
  | some pr1 =>
    obtain ⟨nm, L1⟩ := pr1
    go_enter Tryz.func96, Tryz.ntmps96
    go_wp2_with fail
    refine HC1.out.mono ?_; intro e w1 h
    obtain ⟨v1, rfl, rfl, h1, h2, h3⟩ := h.some hr1
    have HR1 := Lib.hid h1
    have HB1 := Lib.hid (HB0.out.trans h2)
    have HT1 := Lib.hid (HT0.out.trans h3)
    have HK1 := Lib.hid (HK0.out.keep h3 (by decide))
    clear h h1 h2 h3
    have HC2 := Lib.hid (rc_value base _ L1 w1 HR1.out)
    cases hr2 : vS L1 with
    | none =>
      go_wp2_with fail
      refine HC2.out.mono ?_; intro e w2 h
      obtain ⟨rfl, h2, h3⟩ := h.none hr2
      have G2 := Lib.hid (HB1.out.trans h2)
      have G3 := Lib.hid (HT1.out.trans h3)
      clear h h2 h3
      go_wp2_with fail
      exact ⟨rfl, getE_no (mapR_none (pair_n2 hr1 hr2)) G2.out G3.out⟩
    | some pr2 =>
      obtain ⟨y, L2⟩ := pr2
      go_wp2_with fail
      refine HC2.out.mono ?_; intro e w2 h
      obtain ⟨v2, rfl, ⟨y2, hy, rfl, _⟩, h1, h2, h3⟩ := h.some hr2
      have HR2 := Lib.hid h1
      have HB2 := Lib.hid (HB1.out.trans h2)
      have HT2 := Lib.hid (HT1.out.trans h3)
      have HK2 := Lib.hid (HK1.out.keep h3 (by decide))
      obtain rfl : y2 = y := hy
      clear h h1 h2 h3
      have f0 := (HK2.out).free 0
      have f1 := (HK2.out).free 1
      have f2 := (HK2.out).free 2
      have f3 := (HK2.out).free 3
      have f4 := (HK2.out).free 4
      have d0 := (HK2.out).cell 0 rfl
      have d1 := (HK2.out).cell 1 rfl
      have d2 := (HK2.out).cell 2 rfl
      have d3 := (HK2.out).cell 3 rfl
      have d4 := (HK2.out).cell 4 rfl
      go_wp2_with fail
      refine bodyPost_ret (v := .agg #[.string nm, .int .i64 y2.k, .int .i64 y2.n, .string y2.s, .bool y2.b]) (by simp [results, Tryz.results96, go_sem, d0, d1, d2, d3, d4, val]) rfl ?_
      exact fin_ok id aa' invA (sets_end HK2.out (by decide) (by decide) (by decide) hz (Nat.le_refl _) HR2.out HB2.out HT2.out [(0, .string nm), (1, .int .i64 y2.k), (2, .int .i64 y2.n), (3, .string y2.s), (4, .bool y2.b)]) (mapR_of (pair_some hr1 hr2)) ⟨⟨nm, y2.k, y2.n, y2.s, y2.b⟩, rfl, rfl, trivial⟩
set_option maxHeartbeats 8000000 in
set_option maxRecDepth 20000 in
theorem rc_event (base : Nat) (q : Value) (L : List UInt8) (w : World) (hR : RdC w base q L) : Calls Tryz.prog 74 #[q] w (GetE (eS) (EvR base) base q L w) := by
  have hz := hR.lt
  have HB0 := Lib.hid ((below_one w (.cells #[.string ⟨#[]⟩, .slice none 0 0] 37)).mono hz)
  have HT0 := Lib.hid (keep_alloc TR w (.cells #[.string ⟨#[]⟩, .slice none 0 0] 37))
  have HK0 := Lib.hid (Blk.new w 37 #[.string ⟨#[]⟩, .slice none 0 0])
  have HR0 := Lib.hid (hR.later (below_one w (.cells #[.string ⟨#[]⟩, .slice none 0 0] 37)))
  obtain ⟨g, rfl⟩ := hR.form
  clear hR
  have HC1 := Lib.hid (rc_text 16 (by decide) base _ L _ HR0.out)
  cases hr1 : sR 16 L with
  | none =>
    go_enter Tryz.func74, Tryz.ntmps74
    go_wp2_with fail
    refine HC1.out.mono ?_; intro e w1 h
    obtain ⟨rfl, h2, h3⟩ := h.none hr1
    have G2 := Lib.hid (HB0.out.trans h2)
    have G3 := Lib.hid (HT0.out.trans h3)
    clear h h2 h3
    go_wp2_with fail
    exact ⟨rfl, getE_no (pair_n1 hr1) G2.out G3.out⟩
  | some pr1 =>
    obtain ⟨key, L1⟩ := pr1
    go_enter Tryz.func74, Tryz.ntmps74
    go_wp2_with fail
    refine HC1.out.mono ?_; intro e w1 h
    obtain ⟨v1, rfl, rfl, h1, h2, h3⟩ := h.some hr1
    have HR1 := Lib.hid h1
    have HB1 := Lib.hid (HB0.out.trans h2)
    have HT1 := Lib.hid (HT0.out.trans h3)
    have HK1 := Lib.hid (HK0.out.keep h3 (by decide))
    clear h h1 h2 h3
    have HC2 := Lib.hid (all_a aS 8 (by decide) base _ L1 w1 HR1.out (fun L' W h1 h2 => rc_attr base _ L' W h2))
    cases hr2 : countR 8 aS L1 with
    | none =>
      go_wp2_with fail
      refine HC2.out.mono ?_; intro e w2 h
      obtain ⟨rfl, h2, h3⟩ := h.none hr2
      have G2 := Lib.hid (HB1.out.trans h2)
      have G3 := Lib.hid (HT1.out.trans h3)
      clear h h2 h3
      go_wp2_with fail
      exact ⟨rfl, getE_no (pair_n2 hr1 hr2) G2.out G3.out⟩
    | some pr2 =>
      obtain ⟨l, L2⟩ := pr2
      go_wp2_with fail
      refine HC2.out.mono ?_; intro e w2 h
      obtain ⟨v2, rfl, ⟨cs, hcs, ho, _⟩, h1, h2, h3⟩ := h.some hr2
      have HR2 := Lib.hid h1
      have HB2 := Lib.hid (HB1.out.trans h2)
      have HT2 := Lib.hid (HT1.out.trans h3)
      have HK2 := Lib.hid (HK1.out.keep h3 (by decide))
      obtain rfl : cs = l := by simpa using hcs
      obtain ⟨p, cap, rfl⟩ := own_shape ho
      have HO := Lib.hid ho
      clear ho hcs
      clear h h1 h2 h3
      have f0 := (HK2.out).free 0
      have f1 := (HK2.out).free 1
      have d0 := (HK2.out).cell 0 rfl
      have d1 := (HK2.out).cell 1 rfl
      go_wp2_with fail
      refine bodyPost_ret (v := .agg #[.string key, .slice p cs.length cap]) (by simp [results, Tryz.results74, go_sem, d0, d1, val]) rfl ?_
      have HE := sets_end HK2.out (by decide) (by decide) (by decide) hz (Nat.le_refl _) HR2.out HB2.out HT2.out [(0, .string key), (1, .slice p cs.length cap)]
      exact getE_ok (pair_some hr1 hr2) ⟨p, cap, rfl, own_keep HO.out HE.kt (by decide)⟩ HE.rd HE.bel HE.kp
set_option maxHeartbeats 8000000 in
set_option maxRecDepth 20000 in
theorem rc_item (base : Nat) (q : Value) (L : List UInt8) (w : World) (hR : RdC w base q L) : Calls Tryz.prog 55 #[q] w (GetE (itS) (OneR toIt ii invI base) base q L w) := by
  have hz := hR.lt
  have HB0 := Lib.hid ((below_one w (.cells #[.int .u64 0, .int .u64 0, .string ⟨#[]⟩, .slice none 0 0] 39)).mono hz)
  have HT0 := Lib.hid (keep_alloc TR w (.cells #[.int .u64 0, .int .u64 0, .string ⟨#[]⟩, .slice none 0 0] 39))
  have HK0 := Lib.hid (Blk.new w 39 #[.int .u64 0, .int .u64 0, .string ⟨#[]⟩, .slice none 0 0])
  have HR0 := Lib.hid (hR.later (below_one w (.cells #[.int .u64 0, .int .u64 0, .string ⟨#[]⟩, .slice none 0 0] 39)))
  obtain ⟨g, rfl⟩ := hR.form
  clear hR
  have HC1 := Lib.hid (rc_num 1099511627776 (by decide) base _ L _ HR0.out)
  cases hr1 : nR 1099511627776 L with
  | none =>
    go_enter Tryz.func55, Tryz.ntmps55
    go_wp2_with fail
    refine HC1.out.mono ?_; intro e w1 h
    obtain ⟨rfl, h2, h3⟩ := h.none hr1
    have G2 := Lib.hid (HB0.out.trans h2)
    have G3 := Lib.hid (HT0.out.trans h3)
    clear h h2 h3
    go_wp2_with fail
    exact ⟨rfl, getE_no (pair_n1 hr1) G2.out G3.out⟩
  | some pr1 =>
    obtain ⟨x, L1⟩ := pr1
    go_enter Tryz.func55, Tryz.ntmps55
    go_wp2_with fail
    refine HC1.out.mono ?_; intro e w1 h
    obtain ⟨v1, rfl, rfl, h1, h2, h3⟩ := h.some hr1
    have HR1 := Lib.hid h1
    have HB1 := Lib.hid (HB0.out.trans h2)
    have HT1 := Lib.hid (HT0.out.trans h3)
    have HK1 := Lib.hid (HK0.out.keep h3 (by decide))
    clear h h1 h2 h3
    have HC2 := Lib.hid (rc_num 1099511627776 (by decide) base _ L1 w1 HR1.out)
    cases hr2 : nR 1099511627776 L1 with
    | none =>
      go_wp2_with fail
      refine HC2.out.mono ?_; intro e w2 h
      obtain ⟨rfl, h2, h3⟩ := h.none hr2
      have G2 := Lib.hid (HB1.out.trans h2)
      have G3 := Lib.hid (HT1.out.trans h3)
      clear h h2 h3
      go_wp2_with fail
      exact ⟨rfl, getE_no (pair_n2 hr1 (pair_n1 hr2)) G2.out G3.out⟩
    | some pr2 =>
      obtain ⟨y, L2⟩ := pr2
      go_wp2_with fail
      refine HC2.out.mono ?_; intro e w2 h
      obtain ⟨v2, rfl, rfl, h1, h2, h3⟩ := h.some hr2
      have HR2 := Lib.hid h1
      have HB2 := Lib.hid (HB1.out.trans h2)
      have HT2 := Lib.hid (HT1.out.trans h3)
      have HK2 := Lib.hid (HK1.out.keep h3 (by decide))
      clear h h1 h2 h3
      have HC3 := Lib.hid (rc_event base _ L2 w2 HR2.out)
      cases hr3 : eS L2 with
      | none =>
        go_wp2_with fail
        refine HC3.out.mono ?_; intro e w3 h
        obtain ⟨rfl, h2, h3⟩ := h.none hr3
        have G2 := Lib.hid (HB2.out.trans h2)
        have G3 := Lib.hid (HT2.out.trans h3)
        clear h h2 h3
        go_wp2_with fail
        exact ⟨rfl, getE_no (pair_n2 hr1 (pair_n2 hr2 hr3)) G2.out G3.out⟩
      | some pr3 =>
        obtain ⟨ev, L3⟩ := pr3
        go_wp2_with fail
        refine HC3.out.mono ?_; intro e w3 h
        obtain ⟨v3, rfl, ⟨p, cap, rfl, ho⟩, h1, h2, h3⟩ := h.some hr3
        have HR3 := Lib.hid h1
        have HB3 := Lib.hid (HB2.out.trans h2)
        have HT3 := Lib.hid (HT2.out.trans h3)
        have HK3 := Lib.hid (HK2.out.keep h3 (by decide))
        obtain ⟨key, cs⟩ := ev
        simp only at ho
        have HO := Lib.hid ho
        clear ho
        clear h h1 h2 h3
        have f0 := (HK3.out).free 0
        have f1 := (HK3.out).free 1
        have f2 := (HK3.out).free 2
        have f3 := (HK3.out).free 3
        have d0 := (HK3.out).cell 0 rfl
        have d1 := (HK3.out).cell 1 rfl
        have d2 := (HK3.out).cell 2 rfl
        have d3 := (HK3.out).cell 3 rfl
        go_wp2_with fail
        refine bodyPost_ret (v := .agg #[.int .u64 x, .int .u64 y, .string key, .slice p cs.length cap]) (by simp [results, Tryz.results55, go_sem, d0, d1, d2, d3, val]) rfl ?_
        have HE := sets_end HK3.out (by decide) (by decide) (by decide) hz (Nat.le_refl _) HR3.out HB3.out HT3.out [(0, .int .u64 x), (1, .int .u64 y), (2, .string key), (3, .slice p cs.length cap)]
        exact fin_ok toIt ii invI HE (pair_some hr1 (pair_some hr2 hr3)) ⟨⟨x, y, key, p, cap, cs⟩, rfl, rfl, own_keep HO.out HE.kt (by decide)⟩
theorem cz_some {L L1 L2 L3 : List UInt8} {nm : ByteArray} {o : Nat} {t : Vl × List Vl} (h1 : sR 16 L = some (nm, L1)) (h2 : nR 9 L1 = some (o, L2)) (h3 : ctS o L2 = some (t, L3)) : czS L = some (((nm, o), t), L3) := by
  unfold czS
  rw [bindR_of (pair_some h1 h2), mapR_of h3]
theorem cz_n1 {L : List UInt8} (h1 : sR 16 L = none) : czS L = none := by unfold czS; rw [bindR_none (pair_n1 h1)]
theorem cz_n2 {L L1 : List UInt8} {nm : ByteArray} (h1 : sR 16 L = some (nm, L1)) (h2 : nR 9 L1 = none) : czS L = none := by unfold czS; rw [bindR_none (pair_n2 h1 h2)]
theorem cz_n3 {L L1 L2 : List UInt8} {nm : ByteArray} {o : Nat} (h1 : sR 16 L = some (nm, L1)) (h2 : nR 9 L1 = some (o, L2)) (h3 : ctS o L2 = none) : czS L = none := by
  unfold czS
  rw [bindR_of (pair_some h1 h2), mapR_none h3]
theorem ct_val {o : Nat} (h1 : o ≠ 1) (h9 : o ≠ 9) : ctS o = mapR vS fun v => (v, []) := by unfold ctS; rw [if_neg h9, if_neg h1]
end Go.Proofs.YtmbfhmjcphoddaaGreatDoor.Gm
set_option linter.unusedSimpArgs false
set_option linter.unusedVariables false
namespace Go.Proofs.YtmbfhmjcphoddaaGreatDoor.Gm
open Go Go.RowKit

section
variable {T : List TypeId} {base : Nat} {v : Value} {w w1 : World}
theorem evr_keep {x : Ev} (h : EvR base x v w) (k : Keep T w w1) (h1 : 100 ∉ T) : EvR base x v w1 := by
  obtain ⟨p, cap, e, ho⟩ := h
  exact ⟨p, cap, e, own_keep ho k h1⟩
abbrev ItR (base : Nat) : It → Value → World → Prop := OneR toIt ii invI base
theorem itr_keep {x : It} (h : ItR base x v w) (k : Keep T w w1) (h1 : 100 ∉ T) : ItR base x v w1 := by
  obtain ⟨c, e1, e2, ho⟩ := h
  exact ⟨c, e1, e2, own_keep ho k h1⟩
end
theorem lenA (a : Attr) : (encA a).length = 5 := rfl
theorem sl_own {w : World} {base : Nat} {v : Value} {l : List Attr} (h : w.ownsRow base 100 5 v l.length (l.flatMap encA)) (hl : l.length ≤ 140737488355328) : Sl w v l := by
  obtain ⟨p, cap, b, o, h1, _, h3, _, h5⟩ := row_of_own lenA h
  exact ⟨p, cap, b, o, h1, h3, h5, hl⟩
theorem wfv_fits {v : Vl} (h : WfV v) : FitsI v.n := by
  rcases h with rfl | h | h | h
  · exact ⟨by decide, by decide⟩
  · exact h.2.1
  · rw [h.2.1]; exact ⟨by decide, by decide⟩
  · rw [h.2.1]; exact ⟨by decide, by decide⟩
theorem room_wf {e : Ev} (h : WfEs e) : Room e.2 := fun a ha => ⟨wfv_fits (h.2.2 a ha).2.1, by have := (h.2.2 a ha).1; omega⟩
/-- May of an event that was read. -/
theorem may_ev {base : Nat} {x : Ev} {v : Value} {w : World} (h : EvR base x v w) (hx : WfEs x) : Calls Tryz.prog 42 #[v] w (Gives (.bool (mayE x.1 x.2)) w) := by
  obtain ⟨p, cap, rfl, ho⟩ := h
  exact emay_any x.1 _ x.2 w (sl_own ho (by have := hx.2.1; omega)) (room_wf hx)
theorem may_it {base : Nat} {x : It} {v : Value} {w : World} (h : ItR base x v w) (hx : WfIs x) : Calls Tryz.prog 22 #[v] w (Gives (.bool (mayI x)) w) := by
  obtain ⟨c, rfl, rfl, ho⟩ := h
  have h2 : WfEs (c.key, c.at_) := hx.2.2
  exact mc_item c.n c.t c.key c.av c.at_ w (sl_own ho (by have := h2.2.1; simp only at this; omega)) (room_wf h2)
/-- Whether a predicate may be, wherever it lies. -/
def mayCz (c : Cz) : Bool := decide (1 ≤ c.1.1.size) && decide (c.1.1.size ≤ 16) && mayOp (c.1.2 : Int) c.2.1 c.2.2
def mayPz (p : Pz) : Bool := decide (p.length ≤ 6) && p.all mayCz
theorem mayCz_of {c : Cn} (h : 0 ≤ c.op) : mayCz (toCz c) = mayCn c := by
  unfold mayCz mayCn toCz
  simp only
  rw [show ((c.op.toNat : Nat) : Int) = c.op by omega]
theorem mayPz_of {l : List Cn} (h : ∀ c ∈ l, 0 ≤ c.op) : mayPz (l.map toCz) = mayPr l := by
  unfold mayPz mayPr
  rw [List.length_map, List.all_map]
  congr 1
  rw [Bool.eq_iff_iff, List.all_eq_true, List.all_eq_true]
  constructor
  · intro hh c hc
    have := hh c hc
    simpa [mayCz_of (h c hc)] using this
  · intro hh c hc
    have := hh c hc
    simpa [mayCz_of (h c hc)] using this
/-- Values, constraints that the call owns, as they are read. -/
theorem vs_own {w : World} {base : Nat} {v : Value} {l : List Vl} (h : w.ownsRow base 98 4 v l.length (l.flatMap encV)) (hl : l.length ≤ 3518437208883) : Vs w v l := ⟨row_of_own encV_length h, hl⟩
theorem wfcz_len {c : Cz} (h : WfCzs c) : c.2.2.length ≤ 6 := by
  have := h.2
  unfold WfCts at this
  split at this
  · exact this.2.1
  · split at this
    · rw [this]; simp
    · rw [this.2]; simp
theorem its_own {w : World} {base : Nat} {v : Value} {l : List Im} (h : w.ownsRow base 39 4 v l.length (l.flatMap encI)) (hi : ∀ c ∈ l, invI w base c) (hl : l.length ≤ 4) (hx : ∀ c ∈ l, WfIs (toIt c)) : Its w v l := by
  refine ⟨rowL_in (row_of_own encI_length h), by omega, fun c hc => ?_⟩
  have h1 := hx c hc
  have h2 : WfEs (c.key, c.at_) := h1.2.2
  have h3 := h1.1
  have h4 := h1.2.1
  simp only [toIt] at h3 h4
  exact ⟨sl_own (hi c hc) (by have := h2.2.1; simp only at this; omega), room_wf h2, by omega, by omega⟩
/-- The end of the bytes, as the codec's reader sees it. -/
theorem endC_any {w : World} {base Q R : Nat} {L : List UInt8} (h : RdC w base (.pointer (some ⟨Q, 0, none⟩)) L) (hQ : Blk w Q 124 #[.pointer (some ⟨R, 0, none⟩)]) : Calls Tryz.prog 72 #[.pointer (some ⟨R, 0, none⟩)] w (Gives (.int .i64 (if L = [] then 0 else 3)) w) := by
  obtain ⟨Q', R', b, v, g1, g2, g3, g4, g5, g6, g7, g8, g9⟩ := h
  simp only [Value.pointer.injEq, Option.some.injEq, Addr.mk.injEq, and_true] at g1
  subst g1
  have : R' = R := by
    unfold Blk at g4 hQ
    rw [g4] at hQ
    simp only [Option.some.injEq, Obj.cells.injEq, Array.mk.injEq, List.cons.injEq, Value.pointer.injEq, Addr.mk.injEq, and_true, true_and] at hQ
    exact hQ
  subst this
  by_cases hl : L = []
  · exact wend_any [R'] _ L w ⟨R', b, v, rfl, by simp, g5, g6, g7, fun h => absurd hl h, fun k hk => by simp at hk; rw [hk]; exact Blk.lt g5, g8⟩
  · obtain ⟨cs, fr, hh⟩ := g9 hl
    exact wend_any [R', b] _ L w ⟨R', b, v, rfl, by simp, g5, g6, g7, fun _ => by simp, fun k hk => by
      simp only [List.mem_cons, List.not_mem_nil, or_false] at hk
      rcases hk with rfl | rfl
      · exact Blk.lt g5
      · exact lt_of_block hh, g8⟩
end Go.Proofs.YtmbfhmjcphoddaaGreatDoor.Gm
