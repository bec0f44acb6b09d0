/- The document's TakeEvent and TakeItem. (Written by tools/gen_vq.py.) -/
import Derived.Test.YtkfheodcmhodpaaVp
import Derived.Test.YtkfheodcmhodpaaNv
set_option linter.unusedSimpArgs false
set_option linter.unusedVariables false
namespace Go.Proofs.Ytkfheodcmhodpaa.Gm
open Go Go.RowKit
attribute [local go_sem ↓] Go.wp_at_zero Go.wp_at_succ

theorem own_attr {w : World} {base : Nat} {p : Option Addr} {n cap : Nat} {l : List Attr} (h : Own w base (.slice p n cap) l) : n = l.length ∧ w.ownsRow base 81 5 (.slice p l.length cap) l.length (l.flatMap encA) := by
  obtain ⟨q, c, e⟩ := own_form h
  simp only [Value.slice.injEq] at e
  obtain ⟨rfl, rfl, rfl⟩ := e
  exact ⟨rfl, h⟩
theorem own_slq {w : World} {base : Nat} {p : Option Addr} {n cap : Nat} {l : List Attr} (h : Own w base (.slice p n cap) l) (hn : n ≤ 8) : Sl w (.slice p n cap) l := by
  obtain ⟨rfl, h2⟩ := own_attr h
  exact sl_own h2 (by omega)
theorem evr_of {w : World} {base base' : Nat} {key : ByteArray} {p : Option Addr} {n cap : Nat} {l : List Attr} (h : Own w base (.slice p n cap) l) (hb : base' ≤ base) : EvR base' (key, l) (.agg #[.string key, .slice p n cap]) w := by
  obtain ⟨rfl, h2⟩ := own_attr (h.base hb)
  exact ⟨_, _, rfl, h2⟩
theorem itr_of {w : World} {base base' nn tt : Nat} {key : ByteArray} {p : Option Addr} {n cap : Nat} {l : List Attr} (h : Own w base (.slice p n cap) l) (hb : base' ≤ base) : ItR base' (nn, tt, key, l) (.agg #[.int .u64 nn, .int .u64 tt, .string key, .slice p n cap]) w := by
  obtain ⟨rfl, h2⟩ := own_attr (h.base hb)
  exact ⟨⟨nn, tt, key, p, cap, l⟩, rfl, rfl, h2⟩
theorem takeE_ok' {α : Type} {rd : Rd α} {may : α → Bool} {V : α → Value → World → Prop} {zero : Value} {L : List UInt8} {w w' : World} {x : α} {v : Value} (h : takeR rd may L = some x) (hv : V x v w') (hb : Below w.heap.size w w') : TakeE rd may V zero L w (.returned (.tuple #[v, .int .i64 0])) w' := by
  unfold TakeE; rw [h]; exact ⟨⟨v, rfl, hv⟩, hb⟩
theorem take_bad {α : Type} {rd : Rd α} {may : α → Bool} {L : List UInt8} (h : doneR ((rd L).map Prod.snd) = false) : takeR rd may L = none := by
  unfold takeR
  cases hr : rd L with
  | none => rfl
  | some q =>
    obtain ⟨x, D⟩ := q
    rw [hr] at h
    cases D with
    | nil => cases h
    | cons c D => rfl
theorem take_good {α : Type} {rd : Rd α} {may : α → Bool} {L : List UInt8} (h : doneR ((rd L).map Prod.snd) = true) : ∃ x, rd L = some (x, []) ∧ takeR rd may L = if may x then some x else none := by
  unfold takeR
  cases hr : rd L with
  | none => rw [hr] at h; cases h
  | some q =>
    obtain ⟨x, D⟩ := q
    rw [hr] at h
    cases D with
    | nil => exact ⟨x, rfl, rfl⟩
    | cons c D => cases h
theorem room_r {e : Ev} (h : WfE e) : Room e.2 := fun a ha => ⟨wfv_fits (h.2.2 a ha).2, by have := (h.2.2 a ha).1; omega⟩
set_option maxHeartbeats 8000000 in
set_option maxRecDepth 100000 in
theorem qtake_event (v0 : Value) (L : List UInt8) (w : World) (hB : Bs w v0 L) (hL : L.length ≤ 140737488355328) : Calls Try.prog 14 #[v0] w (TakeE eR (fun x : Ev => mayE x.1 x.2) (EvR w.heap.size) (.agg #[.string ⟨#[]⟩, .slice none 0 0]) L w) := by
  obtain ⟨pv, cv, hv⟩ := hB.form
  obtain ⟨nL, hnL⟩ : ∃ nL, L.length = nL := ⟨_, rfl⟩
  rw [hnL] at hv
  subst hv
  have HB0 := Lib.hid (below_one w (.cells #[.string ⟨#[]⟩, .slice none 0 0] 24))
  have HB1 := Lib.hid (then_ HB0.out (below_one (w.alloc (.cells #[.string ⟨#[]⟩, .slice none 0 0] 24)) (.cells #[.slice pv nL cv, .bool false] 96)))
  have HK1 := Lib.hid ((Blk.new w 24 #[.string ⟨#[]⟩, .slice none 0 0]).alloc (.cells #[.slice pv nL cv, .bool false] 96))
  have HR1 : Hid (Rq ((w.alloc (.cells #[.string ⟨#[]⟩, .slice none 0 0] 24)).alloc (.cells #[.slice pv nL cv, .bool false] 96)) (w.heap.size + 1) (.slice pv nL cv) false) := Lib.hid (by have h := Blk.new (w.alloc (.cells #[.string ⟨#[]⟩, .slice none 0 0] 24)) 96 #[.slice pv nL cv, .bool false]; simpa using h)
  obtain ⟨b, hb, hX⟩ := rx_start hB HR1.out HB1.out (by omega) (by omega)
  have HX := Lib.hid hX
  have Hb := Lib.hid hb
  have hz : w.heap.size + 2 = ((w.alloc (.cells #[.string ⟨#[]⟩, .slice none 0 0] 24)).alloc (.cells #[.slice pv nL cv, .bool false] 96)).heap.size := by simp
  have Hz := Lib.hid hz
  obtain ⟨A, hA⟩ : ∃ A, w.heap.size = A := ⟨_, rfl⟩
  have HA := Lib.hid hA
  rw [hA] at HK1 HB1 HX HR1 Hz ⊢
  clear hX hB hnL hb hL hz
  go_enter Try.func14, Try.ntmps14
  go_wp2_with fail
  refine (reventX (A + 1) b (some L) _ HX.out Hb.out).mono ?_; rintro e w2 ⟨u, rfl, hu, hX2, hG2⟩
  replace hX2 : Rx w2 (A + 1) b ((eR L).map Prod.snd) := hX2
  obtain ⟨key, sl, l, rfl, hO2, hl8, hx⟩ := hu
  rw [← Hz.out] at hO2
  replace hx : ∀ x, (eR L).map Prod.fst = some x → x = (key, l) := hx
  obtain ⟨ps, cs, rfl⟩ := own_form hO2
  obtain ⟨M, hM⟩ : ∃ M, l.length = M := ⟨_, rfl⟩
  rw [hM] at hO2 hl8 ⊢
  have HM := Lib.hid hM
  have hz2 := hG2.size
  rw [← Hz.out] at hz2
  have HB2 : Hid (Below A w w2) := Lib.hid (HB1.out.trans (grown_old (base := A) hG2 (by rw [← Hz.out]; omega) (fun g hg => by have := Option.some.inj hg; omega)))
  have HK2 : Hid (Blk w2 A 24 #[.string ⟨#[]⟩, .slice none 0 0]) := Lib.hid (HK1.out.grown hG2 (by intro e; have := Option.some.inj e; omega))
  have HX2 := Lib.hid (Rx.below hX2 (below_one w2 (.cells #[.string key, .slice ps M cs] 24)) (by omega) (by have := Hb.out; rw [← Hz.out] at this; omega))
  have HE2 := Lib.hid (Blk.new w2 24 #[.string key, .slice ps M cs])
  have HO2 := Lib.hid (hO2.below ((Below.refl _ w2).alloc (Nat.le_refl _) (.cells #[.string key, .slice ps M cs] 24)))
  have HB3 := Lib.hid (HB2.out.trans ((Below.refl A w2).alloc (show A ≤ w2.heap.size by omega) (.cells #[.string key, .slice ps M cs] 24)))
  have HK3 := Lib.hid (HK2.out.alloc (.cells #[.string key, .slice ps M cs] 24))
  have Hx := Lib.hid hx
  clear hX2 hG2 hO2 hx hM
  cases hd : doneR ((eR L).map Prod.snd) with
  | false =>
    have HD := Lib.hid (rdoneX (A + 1) b _ _ HX2.out)
    rw [hd] at HD
    have HN := Lib.hid (take_bad (may := (fun x : Ev => mayE x.1 x.2)) hd)
    have k0 := HK3.out.cell 0 (u := .string ⟨#[]⟩) rfl
    have g0 := HK3.out.free 0
    have k1 := HK3.out.cell 1 (u := .slice none 0 0) rfl
    have g1 := HK3.out.free 1
    clear hd
    go_wp2_with fail
    refine HD.out.mono ?_; rintro e w3 ⟨rfl, rfl⟩
    go_wp2_with fail
    refine bodyPost_ret (v := .tuple #[.agg #[.string ⟨#[]⟩, .slice none 0 0], .int .i64 5]) (by simp [results, Try.results14, go_sem, k0, k1]) rfl ?_
    exact takeE_no HN.out (by rw [HA.out]; exact (below_cell (i := 1) (u := .slice none 0 0) (below_cell (i := 0) (u := .string ⟨#[]⟩) HB3.out (Nat.le_refl _)) (Nat.le_refl _)))
  | true =>
    have HD := Lib.hid (rdoneX (A + 1) b _ _ HX2.out)
    rw [hd] at HD
    obtain ⟨x, hr, ht⟩ := take_good (may := (fun x : Ev => mayE x.1 x.2)) hd
    obtain rfl := Hx.out x (by rw [hr]; rfl)
    have HT := Lib.hid ht
    have HW := Lib.hid (codec_e.only _ _ _ hr).1
    have HMay := Lib.hid (fun (hl : M = l.length) => rmay_any key (.slice ps M cs) l (w2.alloc (.cells #[.string key, .slice ps M cs] 24)) (own_slq HO2.out hl8) (room_r HW.out))
    have l0 := HE2.out.cell 0 rfl
    have l1 := HE2.out.cell 1 rfl
    clear hd hr ht
    go_wp2_with fail
    refine HD.out.mono ?_; rintro e w3 ⟨rfl, rfl⟩
    go_wp2_with fail
    refine (HMay.out HM.out.symm).mono ?_; rintro e w4 ⟨rfl, b4⟩
    have HB4 := Lib.hid (HB3.out.trans (b4.mono (by have := HB3.out.size; have := HK3.out.lt; omega)))
    have HO4 := Lib.hid (Own.below HO2.out b4)
    have HK4 := Lib.hid (HK3.out.later b4)
    have HE4 := Lib.hid ((HE2.out).later b4)
    have k0 := HK4.out.cell 0 (u := .string ⟨#[]⟩) rfl
    have g0 := HK4.out.free 0
    have k1 := HK4.out.cell 1 (u := .slice none 0 0) rfl
    have g1 := HK4.out.free 1
    have m0 := HE4.out.cell 0 rfl
    have m1 := HE4.out.cell 1 rfl
    clear b4
    cases hm : mayE key l with
    | false =>
      have HN : Hid (takeR eR (fun x : Ev => mayE x.1 x.2) L = none) := Lib.hid (by have h := HT.out; simpa only [hm, Bool.false_eq_true, if_false, if_true, reduceIte] using h)
      clear hm HT
      go_wp2_with fail
      refine bodyPost_ret (v := .tuple #[.agg #[.string ⟨#[]⟩, .slice none 0 0], .int .i64 5]) (by simp [results, Try.results14, go_sem, k0, k1]) rfl ?_
      exact takeE_no HN.out (by rw [HA.out]; exact (below_cell (i := 1) (u := .slice none 0 0) (below_cell (i := 0) (u := .string ⟨#[]⟩) HB4.out (Nat.le_refl _)) (Nat.le_refl _)))
    | true =>
      have HY : Hid (takeR eR (fun x : Ev => mayE x.1 x.2) L = some (key, l)) := Lib.hid (by have h := HT.out; simpa only [hm, Bool.false_eq_true, if_false, if_true, reduceIte] using h)
      clear hm HT
      go_wp2_with fail
      refine bodyPost_ret (v := .tuple #[.agg #[.string key, .slice ps M cs], .int .i64 0]) (by simp [results, Try.results14, go_sem, k0, k1]) rfl ?_
      exact takeE_ok' HY.out (evr_of (own_setCell (own_setCell HO4.out HK4.out (by decide) (.string key) (i := 0)) (blk_set HK4.out 0 (.string key)) (by decide) (.slice ps M cs) (i := 1)) (by omega)) (by rw [HA.out]; exact (below_cell (i := 1) (u := .slice ps M cs) (below_cell (i := 0) (u := .string key) HB4.out (Nat.le_refl _)) (Nat.le_refl _)))
set_option maxHeartbeats 8000000 in
set_option maxRecDepth 100000 in
theorem qtake_item (v0 : Value) (L : List UInt8) (w : World) (hB : Bs w v0 L) (hL : L.length ≤ 140737488355328) : Calls Try.prog 26 #[v0] w (TakeE itR mayI (ItR w.heap.size) (.agg #[.int .u64 0, .int .u64 0, .string ⟨#[]⟩, .slice none 0 0]) L w) := by
  obtain ⟨pv, cv, hv⟩ := hB.form
  obtain ⟨nL, hnL⟩ : ∃ nL, L.length = nL := ⟨_, rfl⟩
  rw [hnL] at hv
  subst hv
  have HB0 := Lib.hid (below_one w (.cells #[.int .u64 0, .int .u64 0, .string ⟨#[]⟩, .slice none 0 0] 51))
  have HB1 := Lib.hid (then_ HB0.out (below_one (w.alloc (.cells #[.int .u64 0, .int .u64 0, .string ⟨#[]⟩, .slice none 0 0] 51)) (.cells #[.slice pv nL cv, .bool false] 96)))
  have HK1 := Lib.hid ((Blk.new w 51 #[.int .u64 0, .int .u64 0, .string ⟨#[]⟩, .slice none 0 0]).alloc (.cells #[.slice pv nL cv, .bool false] 96))
  have HR1 : Hid (Rq ((w.alloc (.cells #[.int .u64 0, .int .u64 0, .string ⟨#[]⟩, .slice none 0 0] 51)).alloc (.cells #[.slice pv nL cv, .bool false] 96)) (w.heap.size + 1) (.slice pv nL cv) false) := Lib.hid (by have h := Blk.new (w.alloc (.cells #[.int .u64 0, .int .u64 0, .string ⟨#[]⟩, .slice none 0 0] 51)) 96 #[.slice pv nL cv, .bool false]; simpa using h)
  obtain ⟨b, hb, hX⟩ := rx_start hB HR1.out HB1.out (by omega) (by omega)
  have HX := Lib.hid hX
  have Hb := Lib.hid hb
  have hz : w.heap.size + 2 = ((w.alloc (.cells #[.int .u64 0, .int .u64 0, .string ⟨#[]⟩, .slice none 0 0] 51)).alloc (.cells #[.slice pv nL cv, .bool false] 96)).heap.size := by simp
  have Hz := Lib.hid hz
  obtain ⟨A, hA⟩ : ∃ A, w.heap.size = A := ⟨_, rfl⟩
  have HA := Lib.hid hA
  rw [hA] at HK1 HB1 HX HR1 Hz ⊢
  clear hX hB hnL hb hL hz
  go_enter Try.func26, Try.ntmps26
  go_wp2_with fail
  refine (ritemX (A + 1) b (some L) _ HX.out Hb.out).mono ?_; rintro e w2 ⟨u, rfl, hu, hX2, hG2⟩
  replace hX2 : Rx w2 (A + 1) b ((itR L).map Prod.snd) := hX2
  obtain ⟨nn, tt, key, sl, l, rfl, hO2, hl8, hx⟩ := hu
  rw [← Hz.out] at hO2
  replace hx : ∀ x, (itR L).map Prod.fst = some x → x = (nn, tt, key, l) := hx
  obtain ⟨ps, cs, rfl⟩ := own_form hO2
  obtain ⟨M, hM⟩ : ∃ M, l.length = M := ⟨_, rfl⟩
  rw [hM] at hO2 hl8 ⊢
  have HM := Lib.hid hM
  have hz2 := hG2.size
  rw [← Hz.out] at hz2
  have HB2 : Hid (Below A w w2) := Lib.hid (HB1.out.trans (grown_old (base := A) hG2 (by rw [← Hz.out]; omega) (fun g hg => by have := Option.some.inj hg; omega)))
  have HK2 : Hid (Blk w2 A 51 #[.int .u64 0, .int .u64 0, .string ⟨#[]⟩, .slice none 0 0]) := Lib.hid (HK1.out.grown hG2 (by intro e; have := Option.some.inj e; omega))
  have HX2 := Lib.hid (Rx.below hX2 (below_one w2 (.cells #[.int .u64 nn, .int .u64 tt, .string key, .slice ps M cs] 51)) (by omega) (by have := Hb.out; rw [← Hz.out] at this; omega))
  have HE2 := Lib.hid (Blk.new w2 51 #[.int .u64 nn, .int .u64 tt, .string key, .slice ps M cs])
  have HO2 := Lib.hid (hO2.below ((Below.refl _ w2).alloc (Nat.le_refl _) (.cells #[.int .u64 nn, .int .u64 tt, .string key, .slice ps M cs] 51)))
  have HB3 := Lib.hid (HB2.out.trans ((Below.refl A w2).alloc (show A ≤ w2.heap.size by omega) (.cells #[.int .u64 nn, .int .u64 tt, .string key, .slice ps M cs] 51)))
  have HK3 := Lib.hid (HK2.out.alloc (.cells #[.int .u64 nn, .int .u64 tt, .string key, .slice ps M cs] 51))
  have Hx := Lib.hid hx
  clear hX2 hG2 hO2 hx hM
  cases hd : doneR ((itR L).map Prod.snd) with
  | false =>
    have HD := Lib.hid (rdoneX (A + 1) b _ _ HX2.out)
    rw [hd] at HD
    have HN := Lib.hid (take_bad (may := mayI) hd)
    have k0 := HK3.out.cell 0 (u := .int .u64 0) rfl
    have g0 := HK3.out.free 0
    have k1 := HK3.out.cell 1 (u := .int .u64 0) rfl
    have g1 := HK3.out.free 1
    have k2 := HK3.out.cell 2 (u := .string ⟨#[]⟩) rfl
    have g2 := HK3.out.free 2
    have k3 := HK3.out.cell 3 (u := .slice none 0 0) rfl
    have g3 := HK3.out.free 3
    clear hd
    go_wp2_with fail
    refine HD.out.mono ?_; rintro e w3 ⟨rfl, rfl⟩
    go_wp2_with fail
    refine bodyPost_ret (v := .tuple #[.agg #[.int .u64 0, .int .u64 0, .string ⟨#[]⟩, .slice none 0 0], .int .i64 5]) (by simp [results, Try.results26, go_sem, k0, k1, k2, k3]) rfl ?_
    exact takeE_no HN.out (by rw [HA.out]; exact (below_cell (i := 3) (u := .slice none 0 0) (below_cell (i := 2) (u := .string ⟨#[]⟩) (below_cell (i := 1) (u := .int .u64 0) (below_cell (i := 0) (u := .int .u64 0) HB3.out (Nat.le_refl _)) (Nat.le_refl _)) (Nat.le_refl _)) (Nat.le_refl _)))
  | true =>
    have HD := Lib.hid (rdoneX (A + 1) b _ _ HX2.out)
    rw [hd] at HD
    obtain ⟨x, hr, ht⟩ := take_good (may := mayI) hd
    obtain rfl := Hx.out x (by rw [hr]; rfl)
    have HT := Lib.hid ht
    have HW := Lib.hid (codec_it.only _ _ _ hr).1
    have HMay := Lib.hid (fun (hl : M = l.length) => qmayitem_any nn tt key (.slice ps M cs) l (w2.alloc (.cells #[.int .u64 nn, .int .u64 tt, .string key, .slice ps M cs] 51)) (own_slq HO2.out hl8) (room_r HW.out.2.2))
    have l0 := HE2.out.cell 0 rfl
    have l1 := HE2.out.cell 1 rfl
    have l2 := HE2.out.cell 2 rfl
    have l3 := HE2.out.cell 3 rfl
    clear hd hr ht
    go_wp2_with fail
    refine HD.out.mono ?_; rintro e w3 ⟨rfl, rfl⟩
    go_wp2_with fail
    refine (HMay.out HM.out.symm).mono ?_; rintro e w4 ⟨rfl, b4⟩
    have HB4 := Lib.hid (HB3.out.trans (b4.mono (by have := HB3.out.size; have := HK3.out.lt; omega)))
    have HO4 := Lib.hid (Own.below HO2.out b4)
    have HK4 := Lib.hid (HK3.out.later b4)
    have HE4 := Lib.hid ((HE2.out).later b4)
    have k0 := HK4.out.cell 0 (u := .int .u64 0) rfl
    have g0 := HK4.out.free 0
    have k1 := HK4.out.cell 1 (u := .int .u64 0) rfl
    have g1 := HK4.out.free 1
    have k2 := HK4.out.cell 2 (u := .string ⟨#[]⟩) rfl
    have g2 := HK4.out.free 2
    have k3 := HK4.out.cell 3 (u := .slice none 0 0) rfl
    have g3 := HK4.out.free 3
    have m0 := HE4.out.cell 0 rfl
    have m1 := HE4.out.cell 1 rfl
    have m2 := HE4.out.cell 2 rfl
    have m3 := HE4.out.cell 3 rfl
    clear b4
    cases hm : mayI (nn, tt, key, l) with
    | false =>
      have HN : Hid (takeR itR mayI L = none) := Lib.hid (by have h := HT.out; simpa only [hm, Bool.false_eq_true, if_false, if_true, reduceIte] using h)
      clear hm HT
      go_wp2_with fail
      refine bodyPost_ret (v := .tuple #[.agg #[.int .u64 0, .int .u64 0, .string ⟨#[]⟩, .slice none 0 0], .int .i64 5]) (by simp [results, Try.results26, go_sem, k0, k1, k2, k3]) rfl ?_
      exact takeE_no HN.out (by rw [HA.out]; exact (below_cell (i := 3) (u := .slice none 0 0) (below_cell (i := 2) (u := .string ⟨#[]⟩) (below_cell (i := 1) (u := .int .u64 0) (below_cell (i := 0) (u := .int .u64 0) HB4.out (Nat.le_refl _)) (Nat.le_refl _)) (Nat.le_refl _)) (Nat.le_refl _)))
    | true =>
      have HY : Hid (takeR itR mayI L = some (nn, tt, key, l)) := Lib.hid (by have h := HT.out; simpa only [hm, Bool.false_eq_true, if_false, if_true, reduceIte] using h)
      clear hm HT
      go_wp2_with fail
      refine bodyPost_ret (v := .tuple #[.agg #[.int .u64 nn, .int .u64 tt, .string key, .slice ps M cs], .int .i64 0]) (by simp [results, Try.results26, go_sem, k0, k1, k2, k3]) rfl ?_
      exact takeE_ok' HY.out (itr_of (own_setCell (own_setCell (own_setCell (own_setCell HO4.out HK4.out (by decide) (.int .u64 nn) (i := 0)) (blk_set HK4.out 0 (.int .u64 nn)) (by decide) (.int .u64 tt) (i := 1)) (blk_set (blk_set HK4.out 0 (.int .u64 nn)) 1 (.int .u64 tt)) (by decide) (.string key) (i := 2)) (blk_set (blk_set (blk_set HK4.out 0 (.int .u64 nn)) 1 (.int .u64 tt)) 2 (.string key)) (by decide) (.slice ps M cs) (i := 3)) (by omega)) (by rw [HA.out]; exact (below_cell (i := 3) (u := .slice ps M cs) (below_cell (i := 2) (u := .string key) (below_cell (i := 1) (u := .int .u64 tt) (below_cell (i := 0) (u := .int .u64 nn) HB4.out (Nat.le_refl _)) (Nat.le_refl _)) (Nat.le_refl _)) (Nat.le_refl _)))
end Go.Proofs.Ytkfheodcmhodpaa.Gm
