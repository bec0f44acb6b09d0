/- Layer 11: frame.Split, walked. -/
import Derived.Test.YtelocbohiddpgaaGreatDoorFme
import Derived.RangeFuncBox
set_option linter.unusedSimpArgs false
set_option linter.unusedVariables false
namespace Go.Proofs.YtelocbohiddpgaaGreatDoor.Crc
open Go Go.RowKit Gm Go.Shelf
attribute [local go_sem] Oper.semAt_some

theorem own_tight11 {w : World} {base : Nat} {e : TypeId} {size : Nat} {v : Value} {n : Nat} {xs : List Value} (h : w.ownsRow base e size v n xs) (hb : base ≤ w.heap.size) : ∃ base', w.ownsRow base' e size v n xs ∧ base ≤ base' ∧ base' ≤ w.heap.size ∧ ∀ B, B ≤ w.heap.size → (∀ g, v.ownBlock = some g → B ≤ g) → B ≤ base' := by
  obtain ⟨h1, h2⟩ := h
  rcases h2 with ⟨rfl, h0⟩ | ⟨g, cap, cur, rfl, hg, hh, r⟩
  · exact ⟨w.heap.size, ⟨h1, .inl ⟨rfl, h0⟩⟩, hb, Nat.le_refl _, fun B hB _ => hB⟩
  · exact ⟨g, ⟨h1, .inr ⟨g, cap, cur, rfl, Nat.le_refl _, hh, r⟩⟩, hg, Nat.le_of_lt (lt_of_block hh), fun B _ hf => hf g rfl⟩
theorem own_base11 {w : World} {base base' : Nat} {e : TypeId} {size : Nat} {v : Value} {n : Nat} {xs : List Value} (h : w.ownsRow base e size v n xs) (hb : base' ≤ base) : w.ownsRow base' e size v n xs := by
  obtain ⟨h1, h2⟩ := h
  rcases h2 with h0 | ⟨g, cap, cur, hv, hg, r⟩
  · exact ⟨h1, .inl h0⟩
  · exact ⟨h1, .inr ⟨g, cap, cur, hv, Nat.le_trans hb hg, r⟩⟩
theorem own_later11 {w w' : World} {base : Nat} {e : TypeId} {size : Nat} {v : Value} {n : Nat} {xs : List Value} (h : w.ownsRow base e size v n xs) (hb : Below w.heap.size w w') : w'.ownsRow base e size v n xs := by
  refine ⟨h.1, ?_⟩
  rcases h.2 with h0 | ⟨g, cap, cur, hv, hg, hh, r⟩
  · exact .inl h0
  · exact .inr ⟨g, cap, cur, hv, hg, (hb.block g (lt_of_block hh)).trans hh, r⟩
theorem add0_11 (b j : Nat) : (⟨b, 0, none⟩ : Addr).add j = ⟨b, j, none⟩ := by unfold Addr.add; split <;> simp_all
/-- A record's block is none of a row of records. -/
theorem Rec.kept {w w' : World} {base : Nat} {v : Value} {r : List UInt8} (h : Rec w base v r) {row : Option Nat} (hg : w.grownBy w' row) (hr : ∀ g cs, row = some g → w.heap[g]? ≠ some (.cells cs 5 (0, 0))) : Rec w' base v r := by
  obtain ⟨g, cap, hd, h1, h4, ho⟩ := h
  refine ⟨g, cap, hd, h1, h4, ho.1, ?_⟩
  rcases ho.2 with h0 | ⟨g1, cap1, cur, hv, hb, hh, rest⟩
  · exact .inl h0
  · exact .inr ⟨g1, cap1, cur, hv, hb, (hg.block g1 (lt_of_block hh) (fun e => hr g1 cur e.symm hh)).trans hh, rest⟩
theorem Rec.put {w : World} {base : Nat} {v : Value} {r : List UInt8} (h : Rec w base v r) {l : Nat} {o : Obj} (o' : Obj) (hl : w.heap[l]? = some o) (hc : o.isCells = false) : Rec (w.putObj l o') base v r :=
  h.kept (grownBy_putObj' w l o') (fun g cs e e2 => by cases e; rw [hl] at e2; cases e2; cases hc)
theorem not_u8 {w : World} {g : Nat} {t : TypeId} {cs : Array Value} (h : Blk w g t cs) (ht : t ≠ 5) : ∀ g' cs', some g = some g' → w.heap[g']? ≠ some (.cells cs' 5 (0, 0)) := fun g' cs' e e2 => by
  cases e
  unfold Blk at h
  rw [h] at e2
  injection e2 with e2
  injection e2 with _ e2
  exact ht e2
theorem own_not_u8 {w : World} {base : Nat} {t : TypeId} {size n : Nat} {v : Value} {xs : List Value} (h : w.ownsRow base t size v n xs) (ht : t ≠ 5) : ∀ g' cs', v.ownBlock = some g' → w.heap[g']? ≠ some (.cells cs' 5 (0, 0)) := fun g' cs' e e2 => by
  rcases h.2 with ⟨rfl, _⟩ | ⟨g, cap, cur, rfl, _, hh, _⟩
  · cases e
  · obtain rfl : g = g' := by simpa [Value.ownBlock] using e
    rw [hh] at e2
    injection e2 with e2
    injection e2 with _ e2
    exact ht e2
/-- A round of Split: a record is put behind the others, the place behind it is written. -/
theorem sp_kept {W w9 : World} {n0 E1 E2 base : Nat} {v v' u u2 : Value} {k m : Nat} {xs ys : List Value} {te ta t2 : TypeId} {o1 : Obj} (hne : ta ≠ te) (hne2 : ta ≠ t2) (hu8 : ta ≠ 5) (he8 : te ≠ 5) (h28 : t2 ≠ 5)
    (hV1 : Blk W E1 te #[v]) (hV2 : Blk W E2 t2 #[u]) (h12 : E1 ≠ E2) (hn1 : n0 ≤ E1) (hn2 : n0 ≤ E2) (hbW : base ≤ W.heap.size) (hn0 : n0 ≤ base) (hT : ∀ B, B ≤ W.heap.size → (∀ g, v.ownBlock = some g → B ≤ g) → B ≤ base)
    (hw : (W.alloc o1).ownsRow base ta 1 v k xs) (hown : w9.ownsRow base ta 1 v' m ys) (hgrow : (W.alloc o1).grownBy w9 v.ownBlock) :
    Blk w9 E1 te #[v] ∧ Blk (w9.setCell ⟨E1, 0, none⟩ v') E2 t2 #[u] ∧ KeepsOthers W ((w9.setCell ⟨E1, 0, none⟩ v').setCell ⟨E2, 0, none⟩ u2) ∧ KeepF n0 E1 E2 W ((w9.setCell ⟨E1, 0, none⟩ v').setCell ⟨E2, 0, none⟩ u2) ∧ Blk ((w9.setCell ⟨E1, 0, none⟩ v').setCell ⟨E2, 0, none⟩ u2) E1 te #[v'] ∧ Blk ((w9.setCell ⟨E1, 0, none⟩ v').setCell ⟨E2, 0, none⟩ u2) E2 t2 #[u2] ∧ ((w9.setCell ⟨E1, 0, none⟩ v').setCell ⟨E2, 0, none⟩ u2).ownsRow base ta 1 v' m ys ∧ ∀ B x r, Rec W B x r → Rec ((w9.setCell ⟨E1, 0, none⟩ v').setCell ⟨E2, 0, none⟩ u2) B x r := by
  have a1 : Blk (W.alloc o1) E1 te #[v] := hV1.alloc o1
  have a2 : Blk (W.alloc o1) E2 t2 #[u] := hV2.alloc o1
  have b1 : Blk w9 E1 te #[v] := a1.grown hgrow (a1.apart hw hne)
  have b2 : Blk w9 E2 t2 #[u] := a2.grown hgrow (a2.apart hw hne2)
  have c1 : Blk (w9.setCell ⟨E1, 0, none⟩ v') E1 te #[v'] := b1.set v'
  have c2 : Blk (w9.setCell ⟨E1, 0, none⟩ v') E2 t2 #[u] := b2.other (Ne.symm h12) v'
  have d1 : Blk ((w9.setCell ⟨E1, 0, none⟩ v').setCell ⟨E2, 0, none⟩ u2) E1 te #[v'] := c1.other h12 u2
  have d2 : Blk ((w9.setCell ⟨E1, 0, none⟩ v').setCell ⟨E2, 0, none⟩ u2) E2 t2 #[u2] := c2.set u2
  have g1 : w9.grownBy (w9.setCell ⟨E1, 0, none⟩ v') (some E1) := grown_set (i := 0) (World.grownBy.refl w9 (some E1)) v'
  have g2 : (w9.setCell ⟨E1, 0, none⟩ v').grownBy ((w9.setCell ⟨E1, 0, none⟩ v').setCell ⟨E2, 0, none⟩ u2) (some E2) := grown_set (i := 0) (World.grownBy.refl _ (some E2)) u2
  have r1 := hown.kept g1 (.inr (b1.apart hown hne))
  have r2 := r1.kept g2 (.inr (c2.apart r1 hne2))
  have hlo : ∀ j, v.ownBlock = some j → base ≤ j := fun j ej => (World.ownsRow.lt hw j ej).1
  refine ⟨b1, c2, ?_, ⟨?_, fun B hB hf => ?_⟩, d1, d2, r2, fun B x r h => ?_⟩
  · refine (((KeepsOthers.alloc W o1).trans (KeepsOthers.of_grownBy hgrow fun j o ej hj => ?_)).trans (KeepsOthers.setCell _ _ _)).trans (KeepsOthers.setCell _ _ _)
    rcases hw.2 with ⟨rfl, _⟩ | ⟨g, cap, cur, rfl, _, hgb, _⟩
    · simp [Value.ownBlock] at ej
    · obtain rfl : g = j := by simpa [Value.ownBlock] using ej
      rw [hgb] at hj; cases hj; rfl
  · exact (((((below_one W o1).mono (Nat.le_trans hn0 hbW)).grown hgrow (by simp; omega) (fun j ej => Nat.le_trans hn0 (hlo j ej))).setCell (p := ⟨E1, 0, none⟩) hn1 v').setCell (p := ⟨E2, 0, none⟩) hn2 u2)
  · have hBb : B ≤ base := hT B hB (fun g hg => hf g (by unfold rowAt; rw [hV1.cell 0 (u := v) rfl]; exact hg))
    refine ⟨fun g hg => ?_, fun i o h1 h2 h3 h4 h5 => ?_⟩
    · unfold rowAt at hg
      rw [d1.cell 0 (u := v') rfl] at hg
      exact Nat.le_trans hBb (World.ownsRow.lt hown g hg).1
    · rw [Below.heap_setCell _ _ _ _ h3, Below.heap_setCell _ _ _ _ h2, hgrow.block i (by simp; omega) (fun e => by have := hlo i e.symm; omega), Below.heap_alloc _ _ _ (by omega)]
      exact h4
  · have x1 := h.later (below_one W o1)
    have x2 := x1.kept hgrow (own_not_u8 hw hu8)
    have x3 := x2.kept g1 (not_u8 b1 he8)
    exact x3.kept g2 (not_u8 c2 h28)
theorem infoSl11 : (Tryz.prog.info? 23).map (fun i => (i.zero, i.size, i.bytes)) = some (some (.slice none 0 0), 1, 24) := by kernel_rfl
/-- What holds between two rounds of Split. -/
def ISp (w : World) (E1 z : Nat) (S : List (List UInt8)) (pre : List Fx) (W : World) : Prop := pre.map Fx.r = S.take pre.length ∧ pre.length ≤ S.length ∧ (∀ x ∈ pre, Rec W (E1 + 3) x.v x.r) ∧ Below E1 w W ∧ z ≤ W.heap.size ∧ (∃ v, Blk W E1 74 #[v] ∧ W.ownsRow E1 23 1 v pre.length (pre.map Fx.v)) ∧ Blk W (E1 + 1) 3 #[.int .i64 (wholeL (S.take pre.length) : Nat)]
/-- What a Split leaves: its records, each in memory of its own; what is whole. -/
def SplitR (L : List UInt8) (w : World) (e : Ending) (w' : World) : Prop := ∃ v, e = .returned (.tuple #[v, .int .i64 (wholeL (splitR L) : Nat)]) ∧ (∃ xs : List Fx, xs.map Fx.r = splitR L ∧ w'.ownsRow w.heap.size 23 1 v xs.length (xs.map Fx.v) ∧ ∀ x ∈ xs, Rec w' w.heap.size x.v x.r) ∧ Below w.heap.size w w'
/-- Bytes that a Split bears: a row of as many records must have room. -/
def maxSp : Nat := 1099511627776
set_option maxHeartbeats 8000000 in
set_option maxRecDepth 100000 in
theorem split_any (v : Value) (L : List UInt8) (w : World) (hE : Env w) (hB : Bs w v L) (hls : L.length ≤ maxSp) : Calls Tryz.prog 61 #[v] w (SplitR L w) := by
  obtain ⟨i0, ii, iz0, iz1, iz2⟩ := info_parts infoSl11
  have hl : L.length ≤ maxTk := Nat.le_trans hls (by decide)
  have HF := Lib.hid (fun X (h : Below w.heap.size w X) => frames_any v L X (hB.below h))
  obtain ⟨p, cap, rfl⟩ := hB.form
  have HBs := Lib.hid hB
  have HEn := Lib.hid hE
  unfold SplitR
  clear hB hE
  refine (callsIn_wide (n := 3)).1 ?_
  refine callsIn_of_wp_marks Tryz.func61 rfl trivial ?_ rfl
  simp only [Tryz.ntmps61, List.size_toArray, List.length_cons, List.length_nil, Nat.reduceAdd, Nat.reduceSub, Array.replicate_succ, Array.replicate_zero, List.push_toArray, List.append_toArray, List.nil_append, List.cons_append]
  gi_wp2_with fail
  have K1 := (Blk.new w 74 #[.slice none 0 0]).alloc (.cells #[.int .i64 0] 3)
  have K2 := Blk.new (w.alloc (.cells #[.slice none 0 0] 74)) 3 #[.int .i64 0]
  have B2 := then_ (below_one w (.cells #[.slice none 0 0] 74)) (below_one _ (.cells #[.int .i64 0] 3))
  rw [World.size_alloc] at K2
  refine ⟨trivial, ?_⟩
  refine (callsIn_wide.2 (HF.out _ B2)).mono ?_; rintro e w1 ⟨rfl, rfl⟩
  have hz2 : ((w.alloc (.cells #[.slice none 0 0] 74)).alloc (.cells #[.int .i64 0] 3)).heap.size = w.heap.size + 2 := by simp
  have hz1 : (w.alloc (.cells #[.slice none 0 0] 74)).heap.size = w.heap.size + 1 := by simp
  obtain ⟨E1, hE1⟩ : ∃ E1, w.heap.size = E1 := ⟨_, rfl⟩
  obtain ⟨E2, hE2⟩ : ∃ E2, w.heap.size + 1 = E2 := ⟨_, rfl⟩
  obtain ⟨b, hb⟩ : ∃ b, w.heap.size + 2 = b := ⟨_, rfl⟩
  obtain ⟨Wa, hWa⟩ : ∃ Wa, (w.alloc (.cells #[.slice none 0 0] 74)).alloc (.cells #[.int .i64 0] 3) = Wa := ⟨_, rfl⟩
  rw [hWa] at K1 K2 B2 hz2
  rw [hE2] at K2
  have K1b : Blk Wa E1 74 #[.slice none 0 0] := by rw [← hE1]; exact K1
  have K3 := Blk.new Wa 23 #[.slice p L.length cap]
  have K1c := K1b.alloc (.cells #[.slice p L.length cap] 23)
  have K2c := K2.alloc (.cells #[.slice p L.length cap] 23)
  have B3 := then_ B2 (below_one Wa (.cells #[.slice p L.length cap] 23))
  rw [hz2, hb] at K3
  have hz3 : (Wa.alloc (.cells #[.slice p L.length cap] 23)).heap.size = b + 1 := by simp; omega
  obtain ⟨W0, hW0⟩ : ∃ W0, Wa.alloc (.cells #[.slice p L.length cap] 23) = W0 := ⟨_, rfl⟩
  have HW0 := Lib.hid hW0
  rw [hW0] at K3 K1c K2c B3 hz3
  have HWa := Lib.hid hWa
  have hb2 : E2 = E1 + 1 := by omega
  have hb3 : b = E1 + 2 := by omega
  have hsl : (splitR L).length ≤ L.length := by
    have h1 := split_le L
    have h2 : ∀ l : List (List UInt8), l.length ≤ wholeL l := fun l => by
      induction l with
      | nil => exact Nat.zero_le _
      | cons r l ih => rw [wholeL_cons, List.length_cons]; omega
    exact Nat.le_trans (h2 _) h1
  have hfar : ∀ B, farAt E1 B W0 := fun B g hg => by
    unfold rowAt at hg
    rw [K1c.cell 0 (u := .slice none 0 0) rfl] at hg
    cases hg
  gi_wp2_with fail
  subst hb2 hb3
  have HS := Lib.hid (frames_tells 2 (E1 + 2) E1 E1 (E1 + 1) _ L w W0 hE1 (by rw [← hE1]; exact B3) HEn.out HBs.out hl K3 (by omega) (by omega) hfar)
  have HM := Lib.hid (split_may L)
  rw [show (fun xs : List Fx => xs.map Fx.r = splitR L) = (fun xs => xs.map Fx.r = splitR L) from rfl] at HS
  obtain ⟨S, hSE⟩ : ∃ S, splitR L = S := ⟨_, rfl⟩
  have HSE := Lib.hid hSE
  rw [hSE] at HS HM hsl
  clear hSE
  have hl2 : L.length ≤ 1099511627776 := hls
  clear hW0 hWa HF hz2 hz1 HBs HEn hE2 hb B2 K1 K2 K1b hl hls
  rw [hE1] at B3
  rw [hz3] at HS
  refine wpIn_range_told rfl (by decide) (gf := 109) (lb := #[.pointer (some ⟨E1 + 2, 0, none⟩)]) rfl trivial (enters_of Tryz.func109 (by kernel_rfl) rfl)
    HS.out KeepF.trans (fun W l o o' hl h hc hw => KeepF.turn (by omega) (by omega) W l o o' hl h hc hw) (Below.refl _ _) (fun _ => rfl)
    (ISp w E1 W0.heap.size S)
    (fun pre X Y row hs hg hr => ?i) (fun pre x W l o o' ht hl ho hc => ?t) ⟨by simp, Nat.zero_le _, (fun x hx => by cases hx), B3, Nat.le_refl _, ⟨_, K1c, World.ownsRow_nil _ _ _ _⟩, K2c⟩
    (fun x => { tmps := #[.slice p L.length cap, undef, .slice none 0 0, .int .i64 0, .pointer (some ⟨E1, 0, none⟩), .pointer (some ⟨E1 + 1, 0, none⟩), x.v, .int .i64 (x.e : Nat), .slice p L.length cap, .func (.func 109) #[] #[.pointer (some ⟨E1 + 2, 0, none⟩)], x.v, .int .i64 (x.e : Nat), undef, undef, undef, undef, undef, undef, undef], defers := [] })
    ?assign ?body ?done
  case i =>
    obtain ⟨h1, h2, h3, h4, h5, ⟨v, hv, hw⟩, hi⟩ := hs
    refine ⟨h1, h2, fun x hx => (h3 x hx).kept hg (fun g cs e e2 => ?_), h4.grown hg (by have := h4.size; omega) (fun k e => by have := (hr k e).1; omega), Nat.le_trans h5 hg.size, ⟨v, hv.grown hg (fun e => by have := (hr _ e).1; omega), hw.kept hg ?_⟩, hi.grown hg (fun e => by have := (hr _ e).1; omega)⟩
    · obtain ⟨_, o, ho, hc⟩ := hr g e
      rw [e2] at ho; cases ho; cases hc
    · rcases hw.2 with ⟨rfl, _⟩ | ⟨g, cap, cur, rfl, _, hgb, _⟩
      · exact .inl rfl
      · refine .inr fun e' => ?_
        obtain ⟨_, o, ho, hc⟩ := hr g (by simpa [Value.ownBlock] using e'.symm)
        rw [hgb] at ho; cases ho; cases hc
  case t =>
    obtain ⟨t1, t2, t3, t4, t5⟩ := ht
    exact ⟨t1, t2, t3, t4, t5.put o' ho hc⟩
  case assign =>
    intro l x W K hK
    unfold fxV
    gi_wp2_with fail
    exact hK
  case body =>
    rintro l pre x W ⟨h1, h2, h3, h4, h5, ⟨v, hv, hw⟩, hi⟩ ⟨t1, t2, t3, t4, t5⟩
    obtain ⟨g, cp, hxv⟩ := t5.form
    obtain ⟨rv, rr, re⟩ := x
    simp only at hxv t3 t4 t5
    subst hxv
    obtain ⟨pv, cv, rfl⟩ := own_shape hw
    obtain ⟨base', hw', ht1, ht2, ht3⟩ := own_tight11 hw (by omega)
    have hsn : (S.take (pre.length + 1)) = S.take pre.length ++ [rr] := by
      rw [List.take_add_one, t3, List.getD_eq_getElem?_getD, List.getElem?_eq_getElem t1]; rfl
    have HV1 := Lib.hid hv
    have HV2 := Lib.hid hi
    have HT := Lib.hid ht3
    have HW := Lib.hid (own_later11 hw' (below_one W (.cells #[.slice (some ⟨g, 4, none⟩) rr.length (cp - 4)] 23)))
    have HP : Hid ((∀ x ∈ pre, Rec W (E1 + 3) x.v x.r) ∧ Rec W (E1 + 3) (.slice (some ⟨g, 4, none⟩) rr.length (cp - 4)) rr) := Lib.hid ⟨h3, t5⟩
    have HR : Hid ((pre ++ [(⟨.slice (some ⟨g, 4, none⟩) rr.length (cp - 4), rr, re⟩ : Fx)]).map Fx.r = S.take (pre.length + 1) ∧ pre.length + 1 ≤ S.length ∧ re = wholeL (S.take (pre.length + 1))) := Lib.hid ⟨by rw [List.map_append, h1, hsn]; rfl, t1, t4⟩
    have HB := Lib.hid h4
    have H5 : Hid (E1 + 2 + 1 ≤ W.heap.size) := Lib.hid (by omega)
    have k1 := hv.cell 0 (u := .slice pv pre.length cv) rfl
    have k2 := hi.cell 0 rfl
    have f1 := hi.free 0
    have hlb : pre.length < 1099511627776 := by omega
    have hXs : Hid ((pre.map Fx.v) ++ [.slice (some ⟨g, 4, none⟩) rr.length (cp - 4)] = (pre ++ [(⟨.slice (some ⟨g, 4, none⟩) rr.length (cp - 4), rr, re⟩ : Fx)]).map Fx.v) := Lib.hid (by rw [List.map_append]; rfl)
    obtain ⟨ys, hys⟩ : ∃ ys, pre.map Fx.v = ys := ⟨_, rfl⟩
    rw [hys] at HW hXs
    obtain ⟨y, hy⟩ : ∃ y, pre ++ [(⟨.slice (some ⟨g, 4, none⟩) rr.length (cp - 4), rr, re⟩ : Fx)] = y := ⟨_, rfl⟩
    have HY := Lib.hid hy
    rw [hy] at HR hXs
    obtain ⟨N, hN⟩ : ∃ N, pre.length = N := ⟨_, rfl⟩
    rw [hN] at HW HV1 HT HV2 HR k1 k2 hlb
    have HN := Lib.hid hN
    have hzW : E1 + 3 ≤ W.heap.size := by omega
    generalize rr.length = nr at *
    clear h1 h2 h3 h4 h5 hv hw hi t1 t2 t3 t4 t5 hw' ht3 hsn hys hy hN
    gi_wp2_with (gi_at_builtin; refine wpListIn_append_own _ rfl _ _ 74 rfl base' 23 i0 (.slice none 0 0) 1 24 Tryz.underlying74 ii iz0 iz1 iz2 rfl (by decide) _ _ _ rfl HW.out ⟨W.heap.size, 0, none⟩ 1 1 [.slice (some ⟨g, 4, none⟩) nr (cp - 4)] rfl rfl (fun j y hy => by have h := (Blk.new W 23 #[.slice (some ⟨g, 4, none⟩) nr (cp - 4)]).cell j (u := y) (by simpa using hy); simpa [add0_11] using h) (by intro u hu; simp at hu; subst hu; rfl) (by unfold maxLen; omega) (by omega) (by simp; omega) ?_; intro v9 w9 hown9 hgrow9 _; obtain ⟨p9, c9, rfl⟩ := own_shape hown9; have HF9 := Lib.hid (sp_kept (n0 := E1) (E1 := E1) (E2 := E1 + 1) (te := 74) (t2 := 3) (u2 := .int .i64 (re : Nat)) (by decide) (by decide) (by decide) (by decide) (by decide) HV1.out HV2.out (by omega) (Nat.le_refl _) (by omega) ht2 ht1 HT.out HW.out hown9 hgrow9); have kE9 := HF9.out.1.cell 0 (u := .slice pv N cv) rfl; have fE9 := HF9.out.1.free 0; have kE8 := HF9.out.2.1.cell 0 rfl; have fE8 := HF9.out.2.1.free 0; clear hown9 hgrow9)
    obtain ⟨_, _, g1, g2, g3, g4, g5, g6⟩ := HF9.out
    refine ⟨g1, g2, ?_⟩
    rw [HY.out]
    unfold ISp
    have hly : y.length = N + 1 := by rw [← HY.out, List.length_append, HN.out]; rfl
    rw [hly]
    refine ⟨HR.out.1, HR.out.2.1, fun x hx => ?_, HB.out.trans g2.1, Nat.le_trans H5.out g2.1.size, ⟨_, g3, ?_⟩, by rw [← HR.out.2.2]; exact g4⟩
    · rw [← HY.out] at hx
      rcases List.mem_append.1 hx with h | h
      · exact g6 _ _ _ (HP.out.1 x h)
      · rw [List.mem_singleton] at h; subst h; exact g6 _ _ _ HP.out.2
    · have h := own_base11 g5 ht1
      rw [hXs.out] at h
      exact h
  case done =>
    rintro D xs W hD hS ⟨h1, h2, h3, h4, h5, ⟨v, hv, hw⟩, hi⟩ hD2
    obtain ⟨pv, cv, rfl⟩ := own_shape hw
    have hlen : S.take xs.length = S := by rw [← h1, hS]
    rw [hlen] at hi
    obtain ⟨N, hN⟩ : ∃ N, xs.length = N := ⟨_, rfl⟩
    rw [hN] at hw hv
    have k1 := hv.cell 0 (u := .slice pv N cv) rfl
    have k2 := hi.cell 0 rfl
    have HX : Hid (xs.map Fx.r = S ∧ xs.length = N ∧ (∀ x ∈ xs, Rec W (E1 + 3) x.v x.r) ∧ Below E1 w W ∧ W.ownsRow E1 23 1 (.slice pv N cv) N (xs.map Fx.v)) := Lib.hid ⟨hS, hN, h3, h4, hw⟩
    have HD := Lib.hid hD2
    have HZ : Hid (E1 + 3 ≤ D) := Lib.hid (by omega)
    clear h1 h2 h3 h4 h5 hv hw hi hD hD2 hS hN hlen
    gi_wp2_with fail
    gi_region
    gi_wp2_with fail
    refine ⟨by simp, .inl ⟨_, _, rfl, run_takeDeferred (show W.drew.heap[D]? = _ from HD.out), ?_⟩⟩
    have hD' : W.drew.heap[D]? = some (.deferred (some [])) := HD.out
    have hP : Below W.heap.size W W.drew := (Below.refl _ W).drew
    have hX3 : ∀ x ∈ xs, Rec (W.drew.putObj D (.deferred none)) (E1 + 3) x.v x.r := fun x hx => ((HX.out.2.2.1 x hx).later hP).put (.deferred none) hD' rfl
    have hBz : Below E1 w (W.drew.putObj D (.deferred none)) := (HX.out.2.2.2.1.trans (hP.mono (by have := HZ.out; have := (Array.getElem?_eq_some_iff.1 HD.out).1; omega))).trans (belowK_b (w := w) (by omega) _ D _ _ (by have := HZ.out; omega) hD' rfl rfl)
    refine ⟨.tuple #[.slice pv N cv, .int .i64 (wholeL S : Nat)], ?_, .slice pv N cv, by rw [HSE.out], ⟨xs, by rw [HSE.out, HX.out.1], ?_, fun x hx => (hX3 x hx).base (by omega)⟩, by rw [hE1]; exact hBz⟩
    · clear HS HX HD HZ HSE hX3 hBz hD' hP
      simp [results, Tryz.f61, go_sem]
    · rw [HX.out.2.1, hE1]
      exact ownsRow_putObj (own_later11 HX.out.2.2.2.2 hP) _ hD' rfl
end Go.Proofs.YtelocbohiddpgaaGreatDoor.Crc
