/- TopTorn: what a file's whole frames are read as. -/
import Derived.Test.YtmbfhmjcphoddaaGreatDoorFme
import Derived.RangeFuncBox
import Derived.Test.YtmbfhmjcphoddaaGreatDoorToc
import Derived.Test.YtmbfhmjcphoddaaGreatDoorNga
import Derived.Test.YtmbfhmjcphoddaaGreatDoorTz
/- Layer 11: frame.Split, walked. -/
set_option linter.unusedSimpArgs false
set_option linter.unusedVariables false
namespace Go.Proofs.YtmbfhmjcphoddaaGreatDoor.Crc
open Go Go.RowKit Gm Go.Shelf
attribute [local go_sem] Oper.semAt_some

theorem own_tight11 {w : World} {base : Nat} {e : TypeId} {size : Nat} {v : Value} {n : Nat} {xs : List Value} (h : w.ownsRow base e size v n xs) (hb : base ≤ w.heap.size) : ∃ base', w.ownsRow base' e size v n xs ∧ base ≤ base' ∧ base' ≤ w.heap.size ∧ ∀ B, B ≤ w.heap.size → (∀ g, v.ownBlock = some g → B ≤ g) → B ≤ base' := by
  obtain ⟨h1, h2⟩ := h
  rcases h2 with ⟨rfl, h0⟩ | ⟨g, cap, cur, rfl, hg, hh, r⟩
  · exact ⟨w.heap.size, ⟨h1, .inl ⟨rfl, h0⟩⟩, hb, Nat.le_refl _, fun B hB _ => hB⟩
  · exact ⟨g, ⟨h1, .inr ⟨g, cap, cur, rfl, Nat.le_refl _, hh, r⟩⟩, hg, Nat.le_of_lt (lt_of_block hh), fun B _ hf => hf g rfl⟩
theorem own_base11 {w : World} {base base' : Nat} {e : TypeId} {size : Nat} {v : Value} {n : Nat} {xs : List Value} (h : w.ownsRow base e size v n xs) (hb : base' ≤ base) : w.ownsRow base' e size v n xs := by
  obtain ⟨h1, h2⟩ := h
  rcases h2 with h0 | ⟨g, cap, cur, hv, hg, r⟩
  · exact ⟨h1, .inl h0⟩
  · exact ⟨h1, .inr ⟨g, cap, cur, hv, Nat.le_trans hb hg, r⟩⟩
theorem own_later11 {w w' : World} {base : Nat} {e : TypeId} {size : Nat} {v : Value} {n : Nat} {xs : List Value} (h : w.ownsRow base e size v n xs) (hb : Below w.heap.size w w') : w'.ownsRow base e size v n xs := by
  refine ⟨h.1, ?_⟩
  rcases h.2 with h0 | ⟨g, cap, cur, hv, hg, hh, r⟩
  · exact .inl h0
  · exact .inr ⟨g, cap, cur, hv, hg, (hb.block g (lt_of_block hh)).trans hh, r⟩
theorem add0_11 (b j : Nat) : (⟨b, 0, none⟩ : Addr).add j = ⟨b, j, none⟩ := by unfold Addr.add; split <;> simp_all
/-- A record's block is none of a row of records. -/
theorem Rec.kept {w w' : World} {base : Nat} {v : Value} {r : List UInt8} (h : Rec w base v r) {row : Option Nat} (hg : w.grownBy w' row) (hr : ∀ g cs, row = some g → w.heap[g]? ≠ some (.cells cs 5 (0, 0))) : Rec w' base v r := by
  obtain ⟨g, cap, hd, h1, h4, ho⟩ := h
  refine ⟨g, cap, hd, h1, h4, ho.1, ?_⟩
  rcases ho.2 with h0 | ⟨g1, cap1, cur, hv, hb, hh, rest⟩
  · exact .inl h0
  · exact .inr ⟨g1, cap1, cur, hv, hb, (hg.block g1 (lt_of_block hh) (fun e => hr g1 cur e.symm hh)).trans hh, rest⟩
theorem Rec.put {w : World} {base : Nat} {v : Value} {r : List UInt8} (h : Rec w base v r) {l : Nat} {o : Obj} (o' : Obj) (hl : w.heap[l]? = some o) (hc : o.isCells = false) : Rec (w.putObj l o') base v r :=
  h.kept (grownBy_putObj' w l o') (fun g cs e e2 => by cases e; rw [hl] at e2; cases e2; cases hc)
theorem not_u8 {w : World} {g : Nat} {t : TypeId} {cs : Array Value} (h : Blk w g t cs) (ht : t ≠ 5) : ∀ g' cs', some g = some g' → w.heap[g']? ≠ some (.cells cs' 5 (0, 0)) := fun g' cs' e e2 => by
  cases e
  unfold Blk at h
  rw [h] at e2
  injection e2 with e2
  injection e2 with _ e2
  exact ht e2
theorem own_not_u8 {w : World} {base : Nat} {t : TypeId} {size n : Nat} {v : Value} {xs : List Value} (h : w.ownsRow base t size v n xs) (ht : t ≠ 5) : ∀ g' cs', v.ownBlock = some g' → w.heap[g']? ≠ some (.cells cs' 5 (0, 0)) := fun g' cs' e e2 => by
  rcases h.2 with ⟨rfl, _⟩ | ⟨g, cap, cur, rfl, _, hh, _⟩
  · cases e
  · obtain rfl : g = g' := by simpa [Value.ownBlock] using e
    rw [hh] at e2
    injection e2 with e2
    injection e2 with _ e2
    exact ht e2
/-- A round of Split: a record is put behind the others, the place behind it is written. -/
theorem sp_kept {W w9 : World} {n0 E1 E2 base : Nat} {v v' u u2 : Value} {k m : Nat} {xs ys : List Value} {te ta t2 : TypeId} {o1 : Obj} (hne : ta ≠ te) (hne2 : ta ≠ t2) (hu8 : ta ≠ 5) (he8 : te ≠ 5) (h28 : t2 ≠ 5)
    (hV1 : Blk W E1 te #[v]) (hV2 : Blk W E2 t2 #[u]) (h12 : E1 ≠ E2) (hn1 : n0 ≤ E1) (hn2 : n0 ≤ E2) (hbW : base ≤ W.heap.size) (hn0 : n0 ≤ base) (hT : ∀ B, B ≤ W.heap.size → (∀ g, v.ownBlock = some g → B ≤ g) → B ≤ base)
    (hw : (W.alloc o1).ownsRow base ta 1 v k xs) (hown : w9.ownsRow base ta 1 v' m ys) (hgrow : (W.alloc o1).grownBy w9 v.ownBlock) :
    Blk w9 E1 te #[v] ∧ Blk (w9.setCell ⟨E1, 0, none⟩ v') E2 t2 #[u] ∧ KeepsOthers W ((w9.setCell ⟨E1, 0, none⟩ v').setCell ⟨E2, 0, none⟩ u2) ∧ KeepF n0 E1 E2 W ((w9.setCell ⟨E1, 0, none⟩ v').setCell ⟨E2, 0, none⟩ u2) ∧ Blk ((w9.setCell ⟨E1, 0, none⟩ v').setCell ⟨E2, 0, none⟩ u2) E1 te #[v'] ∧ Blk ((w9.setCell ⟨E1, 0, none⟩ v').setCell ⟨E2, 0, none⟩ u2) E2 t2 #[u2] ∧ ((w9.setCell ⟨E1, 0, none⟩ v').setCell ⟨E2, 0, none⟩ u2).ownsRow base ta 1 v' m ys ∧ ∀ B x r, Rec W B x r → Rec ((w9.setCell ⟨E1, 0, none⟩ v').setCell ⟨E2, 0, none⟩ u2) B x r := by
  have a1 : Blk (W.alloc o1) E1 te #[v] := hV1.alloc o1
  have a2 : Blk (W.alloc o1) E2 t2 #[u] := hV2.alloc o1
  have b1 : Blk w9 E1 te #[v] := a1.grown hgrow (a1.apart hw hne)
  have b2 : Blk w9 E2 t2 #[u] := a2.grown hgrow (a2.apart hw hne2)
  have c1 : Blk (w9.setCell ⟨E1, 0, none⟩ v') E1 te #[v'] := b1.set v'
  have c2 : Blk (w9.setCell ⟨E1, 0, none⟩ v') E2 t2 #[u] := b2.other (Ne.symm h12) v'
  have d1 : Blk ((w9.setCell ⟨E1, 0, none⟩ v').setCell ⟨E2, 0, none⟩ u2) E1 te #[v'] := c1.other h12 u2
  have d2 : Blk ((w9.setCell ⟨E1, 0, none⟩ v').setCell ⟨E2, 0, none⟩ u2) E2 t2 #[u2] := c2.set u2
  have g1 : w9.grownBy (w9.setCell ⟨E1, 0, none⟩ v') (some E1) := grown_set (i := 0) (World.grownBy.refl w9 (some E1)) v'
  have g2 : (w9.setCell ⟨E1, 0, none⟩ v').grownBy ((w9.setCell ⟨E1, 0, none⟩ v').setCell ⟨E2, 0, none⟩ u2) (some E2) := grown_set (i := 0) (World.grownBy.refl _ (some E2)) u2
  have r1 := hown.kept g1 (.inr (b1.apart hown hne))
  have r2 := r1.kept g2 (.inr (c2.apart r1 hne2))
  have hlo : ∀ j, v.ownBlock = some j → base ≤ j := fun j ej => (World.ownsRow.lt hw j ej).1
  refine ⟨b1, c2, ?_, ⟨?_, fun B hB hf => ?_⟩, d1, d2, r2, fun B x r h => ?_⟩
  · refine (((KeepsOthers.alloc W o1).trans (KeepsOthers.of_grownBy hgrow fun j o ej hj => ?_)).trans (KeepsOthers.setCell _ _ _)).trans (KeepsOthers.setCell _ _ _)
    rcases hw.2 with ⟨rfl, _⟩ | ⟨g, cap, cur, rfl, _, hgb, _⟩
    · simp [Value.ownBlock] at ej
    · obtain rfl : g = j := by simpa [Value.ownBlock] using ej
      rw [hgb] at hj; cases hj; rfl
  · exact (((((below_one W o1).mono (Nat.le_trans hn0 hbW)).grown hgrow (by simp; omega) (fun j ej => Nat.le_trans hn0 (hlo j ej))).setCell (p := ⟨E1, 0, none⟩) hn1 v').setCell (p := ⟨E2, 0, none⟩) hn2 u2)
  · have hBb : B ≤ base := hT B hB (fun g hg => hf g (by unfold rowAt; rw [hV1.cell 0 (u := v) rfl]; exact hg))
    refine ⟨fun g hg => ?_, fun i o h1 h2 h3 h4 h5 => ?_⟩
    · unfold rowAt at hg
      rw [d1.cell 0 (u := v') rfl] at hg
      exact Nat.le_trans hBb (World.ownsRow.lt hown g hg).1
    · rw [Below.heap_setCell _ _ _ _ h3, Below.heap_setCell _ _ _ _ h2, hgrow.block i (by simp; omega) (fun e => by have := hlo i e.symm; omega), Below.heap_alloc _ _ _ (by omega)]
      exact h4
  · have x1 := h.later (below_one W o1)
    have x2 := x1.kept hgrow (own_not_u8 hw hu8)
    have x3 := x2.kept g1 (not_u8 b1 he8)
    exact x3.kept g2 (not_u8 c2 h28)
theorem infoSl11 : (Tryz.prog.info? 25).map (fun i => (i.zero, i.size, i.bytes)) = some (some (.slice none 0 0), 1, 24) := by kernel_rfl
/-- What holds between two rounds of Split. -/
def ISp (w : World) (E1 z : Nat) (S : List (List UInt8)) (pre : List Fx) (W : World) : Prop := pre.map Fx.r = S.take pre.length ∧ pre.length ≤ S.length ∧ (∀ x ∈ pre, Rec W (E1 + 3) x.v x.r) ∧ Below E1 w W ∧ z ≤ W.heap.size ∧ (∃ v, Blk W E1 74 #[v] ∧ W.ownsRow E1 25 1 v pre.length (pre.map Fx.v)) ∧ Blk W (E1 + 1) 3 #[.int .i64 (wholeL (S.take pre.length) : Nat)]
/-- What a Split leaves: its records, each in memory of its own; what is whole. -/
def SplitR (L : List UInt8) (w : World) (e : Ending) (w' : World) : Prop := ∃ v, e = .returned (.tuple #[v, .int .i64 (wholeL (splitR L) : Nat)]) ∧ (∃ xs : List Fx, xs.map Fx.r = splitR L ∧ w'.ownsRow w.heap.size 25 1 v xs.length (xs.map Fx.v) ∧ ∀ x ∈ xs, Rec w' w.heap.size x.v x.r) ∧ Below w.heap.size w w'
/-- Bytes that a Split bears: a row of as many records must have room. -/
def maxSp : Nat := 1099511627776
set_option maxHeartbeats 8000000 in
set_option maxRecDepth 100000 in
theorem split_any (v : Value) (L : List UInt8) (w : World) (hE : Env w) (hB : Bs w v L) (hls : L.length ≤ maxSp) : Calls Tryz.prog 37 #[v] w (SplitR L w) := by
  obtain ⟨i0, ii, iz0, iz1, iz2⟩ := info_parts infoSl11
  have hl : L.length ≤ maxTk := Nat.le_trans hls (by decide)
  have HF := Lib.hid (fun X (h : Below w.heap.size w X) => frames_any v L X (hB.below h))
  obtain ⟨p, cap, rfl⟩ := hB.form
  have HBs := Lib.hid hB
  have HEn := Lib.hid hE
  unfold SplitR
  clear hB hE
  refine (callsIn_wide (n := 3)).1 ?_
  refine callsIn_of_wp_marks Tryz.func37 rfl trivial ?_ rfl
  simp only [Tryz.ntmps37, List.size_toArray, List.length_cons, List.length_nil, Nat.reduceAdd, Nat.reduceSub, Array.replicate_succ, Array.replicate_zero, List.push_toArray, List.append_toArray, List.nil_append, List.cons_append]
  gi_wp2_with fail
  have K1 := (Blk.new w 74 #[.slice none 0 0]).alloc (.cells #[.int .i64 0] 3)
  have K2 := Blk.new (w.alloc (.cells #[.slice none 0 0] 74)) 3 #[.int .i64 0]
  have B2 := then_ (below_one w (.cells #[.slice none 0 0] 74)) (below_one _ (.cells #[.int .i64 0] 3))
  rw [World.size_alloc] at K2
  refine ⟨trivial, ?_⟩
  refine (callsIn_wide.2 (HF.out _ B2)).mono ?_; rintro e w1 ⟨rfl, rfl⟩
  have hz2 : ((w.alloc (.cells #[.slice none 0 0] 74)).alloc (.cells #[.int .i64 0] 3)).heap.size = w.heap.size + 2 := by simp
  have hz1 : (w.alloc (.cells #[.slice none 0 0] 74)).heap.size = w.heap.size + 1 := by simp
  obtain ⟨E1, hE1⟩ : ∃ E1, w.heap.size = E1 := ⟨_, rfl⟩
  obtain ⟨E2, hE2⟩ : ∃ E2, w.heap.size + 1 = E2 := ⟨_, rfl⟩
  obtain ⟨b, hb⟩ : ∃ b, w.heap.size + 2 = b := ⟨_, rfl⟩
  obtain ⟨Wa, hWa⟩ : ∃ Wa, (w.alloc (.cells #[.slice none 0 0] 74)).alloc (.cells #[.int .i64 0] 3) = Wa := ⟨_, rfl⟩
  rw [hWa] at K1 K2 B2 hz2
  rw [hE2] at K2
  have K1b : Blk Wa E1 74 #[.slice none 0 0] := by rw [← hE1]; exact K1
  have K3 := Blk.new Wa 25 #[.slice p L.length cap]
  have K1c := K1b.alloc (.cells #[.slice p L.length cap] 25)
  have K2c := K2.alloc (.cells #[.slice p L.length cap] 25)
  have B3 := then_ B2 (below_one Wa (.cells #[.slice p L.length cap] 25))
  rw [hz2, hb] at K3
  have hz3 : (Wa.alloc (.cells #[.slice p L.length cap] 25)).heap.size = b + 1 := by simp; omega
  obtain ⟨W0, hW0⟩ : ∃ W0, Wa.alloc (.cells #[.slice p L.length cap] 25) = W0 := ⟨_, rfl⟩
  have HW0 := Lib.hid hW0
  rw [hW0] at K3 K1c K2c B3 hz3
  have HWa := Lib.hid hWa
  have hb2 : E2 = E1 + 1 := by omega
  have hb3 : b = E1 + 2 := by omega
  have hsl : (splitR L).length ≤ L.length := by
    have h1 := split_le L
    have h2 : ∀ l : List (List UInt8), l.length ≤ wholeL l := fun l => by
      induction l with
      | nil => exact Nat.zero_le _
      | cons r l ih => rw [wholeL_cons, List.length_cons]; omega
    exact Nat.le_trans (h2 _) h1
  have hfar : ∀ B, farAt E1 B W0 := fun B g hg => by
    unfold rowAt at hg
    rw [K1c.cell 0 (u := .slice none 0 0) rfl] at hg
    cases hg
  gi_wp2_with fail
  subst hb2 hb3
  have HS := Lib.hid (frames_tells 2 (E1 + 2) E1 E1 (E1 + 1) _ L w W0 hE1 (by rw [← hE1]; exact B3) HEn.out HBs.out hl K3 (by omega) (by omega) hfar)
  have HM := Lib.hid (split_may L)
  rw [show (fun xs : List Fx => xs.map Fx.r = splitR L) = (fun xs => xs.map Fx.r = splitR L) from rfl] at HS
  obtain ⟨S, hSE⟩ : ∃ S, splitR L = S := ⟨_, rfl⟩
  have HSE := Lib.hid hSE
  rw [hSE] at HS HM hsl
  clear hSE
  have hl2 : L.length ≤ 1099511627776 := hls
  clear hW0 hWa HF hz2 hz1 HBs HEn hE2 hb B2 K1 K2 K1b hl hls
  rw [hE1] at B3
  rw [hz3] at HS
  refine wpIn_range_told rfl (by decide) (gf := 66) (lb := #[.pointer (some ⟨E1 + 2, 0, none⟩)]) rfl trivial (enters_of Tryz.func66 (by kernel_rfl) rfl)
    HS.out KeepF.trans (fun W l o o' hl h hc hw => KeepF.turn (by omega) (by omega) W l o o' hl h hc hw) (Below.refl _ _) (fun _ => rfl)
    (ISp w E1 W0.heap.size S)
    (fun pre X Y row hs hg hr => ?i) (fun pre x W l o o' ht hl ho hc => ?t) ⟨by simp, Nat.zero_le _, (fun x hx => by cases hx), B3, Nat.le_refl _, ⟨_, K1c, World.ownsRow_nil _ _ _ _⟩, K2c⟩
    (fun x => { tmps := #[.slice p L.length cap, undef, .slice none 0 0, .int .i64 0, .pointer (some ⟨E1, 0, none⟩), .pointer (some ⟨E1 + 1, 0, none⟩), x.v, .int .i64 (x.e : Nat), .slice p L.length cap, .func (.func 66) #[] #[.pointer (some ⟨E1 + 2, 0, none⟩)], x.v, .int .i64 (x.e : Nat), undef, undef, undef, undef, undef, undef, undef], defers := [] })
    ?assign ?body ?done
  case i =>
    obtain ⟨h1, h2, h3, h4, h5, ⟨v, hv, hw⟩, hi⟩ := hs
    refine ⟨h1, h2, fun x hx => (h3 x hx).kept hg (fun g cs e e2 => ?_), h4.grown hg (by have := h4.size; omega) (fun k e => by have := (hr k e).1; omega), Nat.le_trans h5 hg.size, ⟨v, hv.grown hg (fun e => by have := (hr _ e).1; omega), hw.kept hg ?_⟩, hi.grown hg (fun e => by have := (hr _ e).1; omega)⟩
    · obtain ⟨_, o, ho, hc⟩ := hr g e
      rw [e2] at ho; cases ho; cases hc
    · rcases hw.2 with ⟨rfl, _⟩ | ⟨g, cap, cur, rfl, _, hgb, _⟩
      · exact .inl rfl
      · refine .inr fun e' => ?_
        obtain ⟨_, o, ho, hc⟩ := hr g (by simpa [Value.ownBlock] using e'.symm)
        rw [hgb] at ho; cases ho; cases hc
  case t =>
    obtain ⟨t1, t2, t3, t4, t5⟩ := ht
    exact ⟨t1, t2, t3, t4, t5.put o' ho hc⟩
  case assign =>
    intro l x W K hK
    unfold fxV
    gi_wp2_with fail
    exact hK
  case body =>
    rintro l pre x W ⟨h1, h2, h3, h4, h5, ⟨v, hv, hw⟩, hi⟩ ⟨t1, t2, t3, t4, t5⟩
    obtain ⟨g, cp, hxv⟩ := t5.form
    obtain ⟨rv, rr, re⟩ := x
    simp only at hxv t3 t4 t5
    subst hxv
    obtain ⟨pv, cv, rfl⟩ := own_shape hw
    obtain ⟨base', hw', ht1, ht2, ht3⟩ := own_tight11 hw (by omega)
    have hsn : (S.take (pre.length + 1)) = S.take pre.length ++ [rr] := by
      rw [List.take_add_one, t3, List.getD_eq_getElem?_getD, List.getElem?_eq_getElem t1]; rfl
    have HV1 := Lib.hid hv
    have HV2 := Lib.hid hi
    have HT := Lib.hid ht3
    have HW := Lib.hid (own_later11 hw' (below_one W (.cells #[.slice (some ⟨g, 4, none⟩) rr.length (cp - 4)] 25)))
    have HP : Hid ((∀ x ∈ pre, Rec W (E1 + 3) x.v x.r) ∧ Rec W (E1 + 3) (.slice (some ⟨g, 4, none⟩) rr.length (cp - 4)) rr) := Lib.hid ⟨h3, t5⟩
    have HR : Hid ((pre ++ [(⟨.slice (some ⟨g, 4, none⟩) rr.length (cp - 4), rr, re⟩ : Fx)]).map Fx.r = S.take (pre.length + 1) ∧ pre.length + 1 ≤ S.length ∧ re = wholeL (S.take (pre.length + 1))) := Lib.hid ⟨by rw [List.map_append, h1, hsn]; rfl, t1, t4⟩
    have HB := Lib.hid h4
    have H5 : Hid (E1 + 2 + 1 ≤ W.heap.size) := Lib.hid (by omega)
    have k1 := hv.cell 0 (u := .slice pv pre.length cv) rfl
    have k2 := hi.cell 0 rfl
    have f1 := hi.free 0
    have hlb : pre.length < 1099511627776 := by omega
    have hXs : Hid ((pre.map Fx.v) ++ [.slice (some ⟨g, 4, none⟩) rr.length (cp - 4)] = (pre ++ [(⟨.slice (some ⟨g, 4, none⟩) rr.length (cp - 4), rr, re⟩ : Fx)]).map Fx.v) := Lib.hid (by rw [List.map_append]; rfl)
    obtain ⟨ys, hys⟩ : ∃ ys, pre.map Fx.v = ys := ⟨_, rfl⟩
    rw [hys] at HW hXs
    obtain ⟨y, hy⟩ : ∃ y, pre ++ [(⟨.slice (some ⟨g, 4, none⟩) rr.length (cp - 4), rr, re⟩ : Fx)] = y := ⟨_, rfl⟩
    have HY := Lib.hid hy
    rw [hy] at HR hXs
    obtain ⟨N, hN⟩ : ∃ N, pre.length = N := ⟨_, rfl⟩
    rw [hN] at HW HV1 HT HV2 HR k1 k2 hlb
    have HN := Lib.hid hN
    have hzW : E1 + 3 ≤ W.heap.size := by omega
    generalize rr.length = nr at *
    clear h1 h2 h3 h4 h5 hv hw hi t1 t2 t3 t4 t5 hw' ht3 hsn hys hy hN
    gi_wp2_with (gi_at_builtin; refine wpListIn_append_own _ rfl _ _ 74 rfl base' 25 i0 (.slice none 0 0) 1 24 Tryz.underlying74 ii iz0 iz1 iz2 rfl (by decide) _ _ _ rfl HW.out ⟨W.heap.size, 0, none⟩ 1 1 [.slice (some ⟨g, 4, none⟩) nr (cp - 4)] rfl rfl (fun j y hy => by have h := (Blk.new W 25 #[.slice (some ⟨g, 4, none⟩) nr (cp - 4)]).cell j (u := y) (by simpa using hy); simpa [add0_11] using h) (by intro u hu; simp at hu; subst hu; rfl) (by unfold maxLen; omega) (by omega) (by simp; omega) ?_; intro v9 w9 hown9 hgrow9 _; obtain ⟨p9, c9, rfl⟩ := own_shape hown9; have HF9 := Lib.hid (sp_kept (n0 := E1) (E1 := E1) (E2 := E1 + 1) (te := 74) (t2 := 3) (u2 := .int .i64 (re : Nat)) (by decide) (by decide) (by decide) (by decide) (by decide) HV1.out HV2.out (by omega) (Nat.le_refl _) (by omega) ht2 ht1 HT.out HW.out hown9 hgrow9); have kE9 := HF9.out.1.cell 0 (u := .slice pv N cv) rfl; have fE9 := HF9.out.1.free 0; have kE8 := HF9.out.2.1.cell 0 rfl; have fE8 := HF9.out.2.1.free 0; clear hown9 hgrow9)
    obtain ⟨_, _, g1, g2, g3, g4, g5, g6⟩ := HF9.out
    refine ⟨g1, g2, ?_⟩
    rw [HY.out]
    unfold ISp
    have hly : y.length = N + 1 := by rw [← HY.out, List.length_append, HN.out]; rfl
    rw [hly]
    refine ⟨HR.out.1, HR.out.2.1, fun x hx => ?_, HB.out.trans g2.1, Nat.le_trans H5.out g2.1.size, ⟨_, g3, ?_⟩, by rw [← HR.out.2.2]; exact g4⟩
    · rw [← HY.out] at hx
      rcases List.mem_append.1 hx with h | h
      · exact g6 _ _ _ (HP.out.1 x h)
      · rw [List.mem_singleton] at h; subst h; exact g6 _ _ _ HP.out.2
    · have h := own_base11 g5 ht1
      rw [hXs.out] at h
      exact h
  case done =>
    rintro D xs W hD hS ⟨h1, h2, h3, h4, h5, ⟨v, hv, hw⟩, hi⟩ hD2
    obtain ⟨pv, cv, rfl⟩ := own_shape hw
    have hlen : S.take xs.length = S := by rw [← h1, hS]
    rw [hlen] at hi
    obtain ⟨N, hN⟩ : ∃ N, xs.length = N := ⟨_, rfl⟩
    rw [hN] at hw hv
    have k1 := hv.cell 0 (u := .slice pv N cv) rfl
    have k2 := hi.cell 0 rfl
    have HX : Hid (xs.map Fx.r = S ∧ xs.length = N ∧ (∀ x ∈ xs, Rec W (E1 + 3) x.v x.r) ∧ Below E1 w W ∧ W.ownsRow E1 25 1 (.slice pv N cv) N (xs.map Fx.v)) := Lib.hid ⟨hS, hN, h3, h4, hw⟩
    have HD := Lib.hid hD2
    have HZ : Hid (E1 + 3 ≤ D) := Lib.hid (by omega)
    clear h1 h2 h3 h4 h5 hv hw hi hD hD2 hS hN hlen
    gi_wp2_with fail
    gi_region
    gi_wp2_with fail
    refine ⟨by simp, .inl ⟨_, _, rfl, run_takeDeferred (show W.drew.heap[D]? = _ from HD.out), ?_⟩⟩
    have hD' : W.drew.heap[D]? = some (.deferred (some [])) := HD.out
    have hP : Below W.heap.size W W.drew := (Below.refl _ W).drew
    have hX3 : ∀ x ∈ xs, Rec (W.drew.putObj D (.deferred none)) (E1 + 3) x.v x.r := fun x hx => ((HX.out.2.2.1 x hx).later hP).put (.deferred none) hD' rfl
    have hBz : Below E1 w (W.drew.putObj D (.deferred none)) := (HX.out.2.2.2.1.trans (hP.mono (by have := HZ.out; have := (Array.getElem?_eq_some_iff.1 HD.out).1; omega))).trans (belowK_b (w := w) (by omega) _ D _ _ (by have := HZ.out; omega) hD' rfl rfl)
    refine ⟨.tuple #[.slice pv N cv, .int .i64 (wholeL S : Nat)], ?_, .slice pv N cv, by rw [HSE.out], ⟨xs, by rw [HSE.out, HX.out.1], ?_, fun x hx => (hX3 x hx).base (by omega)⟩, by rw [hE1]; exact hBz⟩
    · clear HS HX HD HZ HSE hX3 hBz hD' hP
      simp [results, Tryz.f37, go_sem]
    · rw [HX.out.2.1, hE1]
      exact ownsRow_putObj (own_later11 HX.out.2.2.2.2 hP) _ hD' rfl
end Go.Proofs.YtmbfhmjcphoddaaGreatDoor.Crc
/- Layer 11: frame.Put, walked. -/
set_option linter.unusedSimpArgs false
set_option linter.unusedVariables false
namespace Go.Proofs.YtmbfhmjcphoddaaGreatDoor.Crc
open Go Go.RowKit Gm
attribute [local go_sem ↓] Go.wp_at_zero Go.wp_at_succ

def putE (L : List UInt8) : Int := if L.length = 0 then 1 else if 2048 < L.length then 3 else 0
def putB (L : List UInt8) : List UInt8 := if mayR L then frm L else []
/-- What a Put leaves. -/
def PutR (L : List UInt8) (w : World) (e : Ending) (w' : World) : Prop := ∃ v, e = .returned (.tuple #[v, .int .i64 (putE L)]) ∧ OwnB w' w.heap.size v (putB L) ∧ Below w.heap.size w w'
theorem put_none {L : List UInt8} (h : L.length = 0) : putE L = 1 ∧ putB L = [] := by
  refine ⟨by unfold putE; rw [if_pos h], ?_⟩
  have : mayR L = false := by unfold mayR; simp [h]
  unfold putB; rw [this]; rfl
theorem put_long {L : List UInt8} (h : 2048 < L.length) : putE L = 3 ∧ putB L = [] := by
  refine ⟨by unfold putE; rw [if_neg (by omega), if_pos h], ?_⟩
  have : mayR L = false := by unfold mayR; simp; omega
  unfold putB; rw [this]; rfl
theorem put_good {L : List UInt8} (h : mayR L = true) : putE L = 0 ∧ putB L = frm L := by
  have hm := (mayR_iff L).1 h
  exact ⟨by unfold putE; rw [if_neg (by omega), if_neg (by omega)], by unfold putB; rw [if_pos h]⟩
theorem put_cases (L : List UInt8) : L.length = 0 ∨ 2048 < L.length ∨ mayR L = true := by rw [mayR_iff]; omega
set_option maxHeartbeats 2000000 in
set_option maxRecDepth 100000 in
theorem fput_any (v : Value) (L : List UInt8) (w : World) (hE : Env w) (hB : Bs w v L) : Calls Tryz.prog 8 #[v] w (PutR L w) := by
  unfold PutR
  obtain ⟨p, cap, rfl⟩ := hB.form
  rcases put_cases L with h | h | h
  · obtain ⟨e1, e2⟩ := put_none h
    rw [e1, e2, h]
    clear e1 e2 hE hB h
    go_enter Tryz.func8, Tryz.ntmps8
    go_wp2_with fail
    go_ret2
    exact ⟨_, rfl, OwnB.nil _ _, Below.refl _ _⟩
  · obtain ⟨e1, e2⟩ := put_long h
    rw [e1, e2]
    obtain ⟨n, hn⟩ : ∃ n, L.length = n := ⟨_, rfl⟩
    rw [hn] at h ⊢
    have h1 : ¬ ((n : Int) = 0) := by omega
    have h2 : (2048 : Int) < n := by omega
    have h3 : ¬ (n = 0) := by omega
    clear e1 e2 hE hB hn
    go_enter Tryz.func8, Tryz.ntmps8
    go_wp2_with fail
    go_ret2
    exact ⟨_, rfl, OwnB.nil _ _, Below.refl _ _⟩
  · obtain ⟨e1, e2⟩ := put_good h
    rw [e1, e2]
    have hm := (mayR_iff L).1 h
    have HF : Hid (frm L = putL (head4 L.length ++ L)) := Lib.hid rfl
    have HBs := Lib.hid hB
    have HEn := Lib.hid hE
    obtain ⟨n, hn⟩ : ∃ n, L.length = n := ⟨_, rfl⟩
    rw [hn] at HF hm HBs ⊢
    have HN := Lib.hid hn
    have h1 : ¬ ((n : Int) = 0) := by omega
    have h2 : ¬ ((2048 : Int) < n) := by omega
    have h3 : ¬ (n = 0) := by omega
    obtain ⟨b0, hb0⟩ : ∃ b0, UInt8.ofNat n = b0 := ⟨_, rfl⟩
    obtain ⟨b1, hb1⟩ : ∃ b1, UInt8.ofNat (n / 256) = b1 := ⟨_, rfl⟩
    obtain ⟨b2, hb2⟩ : ∃ b2, UInt8.ofNat (n / 65536) = b2 := ⟨_, rfl⟩
    obtain ⟨b3, hb3⟩ : ∃ b3, UInt8.ofNat (n / 16777216) = b3 := ⟨_, rfl⟩
    have c0 : (n : Int) % 256 = (b0.toNat : Int) := by rw [← hb0, UInt8.toNat_ofNat']; omega
    have c1 : (n : Int) / 256 = (b1.toNat : Int) := by rw [← hb1, UInt8.toNat_ofNat']; omega
    have c2 : (n : Int) / 65536 = (b2.toNat : Int) := by rw [← hb2, UInt8.toNat_ofNat']; omega
    have c3 : (n : Int) / 16777216 = (b3.toNat : Int) := by rw [← hb3, UInt8.toNat_ofNat']; omega
    have HH : Hid (head4 n = [b0, b1, b2, b3]) := Lib.hid (by unfold head4; rw [hb0, hb1, hb2, hb3])
    have D1 := below_one w (.cells #[byteV b0, byteV b1, byteV b2, byteV b3] 5)
    have K1 := ownB_lit w [b0, b1, b2, b3] #[byteV b0, byteV b1, byteV b2, byteV b3] 4 rfl rfl (by simp)
    have hz1 : (w.alloc (.cells #[byteV b0, byteV b1, byteV b2, byteV b3] 5)).heap.size = w.heap.size + 1 := by simp
    obtain ⟨W1, hW1⟩ : ∃ W1, w.alloc (.cells #[byteV b0, byteV b1, byteV b2, byteV b3] 5) = W1 := ⟨_, rfl⟩
    rw [hW1] at D1 K1 hz1
    have D2 := below_one W1 (.cells #[.slice (some ⟨w.heap.size, 0, none⟩) 4 4, .slice p n cap] 25)
    have K2 := Blk.new W1 25 #[.slice (some ⟨w.heap.size, 0, none⟩) 4 4, .slice p n cap]
    obtain ⟨W2, hW2⟩ : ∃ W2, W1.alloc (.cells #[.slice (some ⟨w.heap.size, 0, none⟩) 4 4, .slice p n cap] 25) = W2 := ⟨_, rfl⟩
    rw [hW2] at D2 K2
    have HC := Lib.hid (concatB_any _ _ _ [b0, b1, b2, b3] L W2 K2 (K1.below D2).bs ((HBs.out.below D1).below D2) (by simp; rw [HN.out]; omega))
    rw [hz1] at HC
    have HD2 := Lib.hid (then_ D1 D2)
    have HW1 := Lib.hid hW1
    have HW2 := Lib.hid hW2
    clear hb0 hb1 hb2 hb3 D1 K1 D2 K2 hz1 hW2 hW1
    have hw : IntKind.u32.wrap (n : Int) = (n : Int) := by rw [IntKind.wrap_u32']; omega
    clear e1 e2 hE hB hn h
    go_enter Tryz.func8, Tryz.ntmps8
    go_wp2_with fail
    rw [HW1.out, HW2.out]
    refine HC.out.mono ?_; rintro e w3 ⟨v3, rfl, ho3, b3'⟩
    have HB3 := Lib.hid (then_ HD2.out b3')
    have hlc : ([b0, b1, b2, b3] ++ L).length = n + 4 := by rw [List.length_append, HN.out]; simp; omega
    have HP := Lib.hid (put_any v3 ([b0, b1, b2, b3] ++ L) w3 (HEn.out.below HB3.out) ho3.bs (by rw [hlc]; unfold maxIn; omega))
    obtain ⟨p3, q3, rfl⟩ := ho3.form
    rw [hlc] at HP ⊢
    clear ho3 b3' HC hlc
    go_wp2_with fail
    refine HP.out.mono ?_; rintro e w4 ⟨v4, rfl, ho4, b4⟩
    obtain ⟨p4, q4, rfl⟩ := ho4.form
    have HO4 := Lib.hid (ho4.base (base' := w.heap.size) HB3.out.size)
    have HB4 := Lib.hid (then_ HB3.out b4)
    clear ho4 b4 HP
    generalize (putL ([b0, b1, b2, b3] ++ L)).length = n4 at *
    go_wp2_with fail
    go_ret2
    exact ⟨_, rfl, by rw [HF.out, HH.out]; exact HO4.out, HB4.out⟩
end Go.Proofs.YtmbfhmjcphoddaaGreatDoor.Crc
set_option linter.unusedSimpArgs false
set_option linter.unusedVariables false
namespace Go.Proofs.YtmbfhmjcphoddaaGreatDoor.Top
open Go Go.RowKit Go.Maps Gm
attribute [local go_sem ↓] Go.wp_at_zero Go.wp_at_succ

/-- Items that were read, in memory of one's own. -/
def ReadI (xs : List It) (w : World) (e : Ending) (w' : World) : Prop := ∃ (p : Option Addr) (cap : Nat) (l : List Im), e = .returned (.tuple #[.slice p l.length cap, .bool true]) ∧ l.map toIt = xs ∧ Got w.heap.size w' (.slice p l.length cap) l ∧ Below w.heap.size w w'
theorem idx_fx (p : Option Addr) (b o n cap k : Nat) (hp : p = some ⟨b, o, none⟩) (hk : k < n) (W : World) : (Instr.indexAt 74 (.slice p n cap) (.int .i64 (k : Int))).run Tryz.prog W = .ok (.pointer (some ⟨b, o + k, none⟩)) W := by subst hp; go_simp
theorem map_snoc {α β : Type} [Inhabited α] (f : β → α) {l : List β} {xs : List α} {k : Nat} (h : l.map f = xs.take k) (hk : k < xs.length) {c : β} (hc : f c = xs.getD k default) : (l ++ [c]).map f = xs.take (k + 1) := by
  rw [List.map_append, h, List.take_succ_eq_append_getElem hk, List.map_cons, List.map_nil, hc, List.getD_eq_getElem?_getD, List.getElem?_eq_getElem hk]
  rfl
set_option maxHeartbeats 8000000 in
set_option maxRecDepth 100000 in
theorem read_any (B g bm t : Nat) (q : Int) (I : Nat → Prop) (b : List UInt8) (s : Nat) (w : World) (hE : Crc.Env w) (hD : Dk B g bm t q (V1 b s) I w) (xs : List It) (hb : b.length ≤ 1099511627776) (hxs : Crc.splitR b = xs.map formI) (hx : ∀ x ∈ xs, tkI (formI x) = some x ∧ (formI x).length ≤ 2048) (hl : xs.length ≤ 20) :
    Calls Tryz.prog 12 #[.pointer (some ⟨g, 0, none⟩)] w (ReadI xs w) := by
  obtain ⟨i0, ji, iz0, iz1, iz2⟩ := info_parts infoI4
  have HR := Lib.hid (read_one hD)
  unfold encStr logN at HR
  have HE := Lib.hid hE
  have HXS := Lib.hid hxs
  have HX := Lib.hid hx
  obtain ⟨Z, hZ⟩ : ∃ Z, w.heap.size = Z := ⟨_, rfl⟩
  have HZ := Lib.hid hZ
  clear hE hD hxs hx
  go_enter Tryz.func12, Tryz.ntmps12
  go_wp2_with fail
  refine HR.out.mono ?_; rintro e w1 ⟨v1, rfl, ho1, b1⟩
  obtain ⟨p1, c1, rfl⟩ := ho1.form
  have HO1 := Lib.hid ho1
  have HB1 := Lib.hid b1
  obtain ⟨nb, hnb⟩ : ∃ n, b.length = n := ⟨_, rfl⟩
  have HNB := Lib.hid hnb
  rw [hnb] at HO1 hb ⊢
  clear ho1 b1 HR hnb
  go_wp2_with fail
  refine (Crc.split_any _ b w1 (HE.out.below HB1.out) (OwnB.bs HO1.out) (by rw [HNB.out]; exact hb)).mono ?_
  rintro e w2 ⟨v2, rfl, ⟨fx, hfx, hro, hrec⟩, b2⟩
  rw [HXS.out] at hfx
  obtain ⟨p2, c2, rfl⟩ := own_shape hro
  have hfl : fx.length = xs.length := by have := congrArg List.length hfx; simpa using this
  rw [hfl] at hro ⊢
  obtain ⟨n, hn⟩ : ∃ n, xs.length = n := ⟨_, rfl⟩
  have HN := Lib.hid hn
  rw [hn] at hl hro ⊢
  obtain ⟨wh, hwh⟩ : ∃ wh, (Crc.wholeL (Crc.splitR b)) = wh := ⟨_, rfl⟩
  rw [hwh]
  have HFX := Lib.hid hfx
  have HRO := Lib.hid hro
  have HRec := Lib.hid hrec
  have HB2 := Lib.hid (then_ HB1.out b2)
  have HFL : Hid (fx.length = n) := Lib.hid (hfl.trans hn)
  rw [hZ] at HB2
  have HB2z : Hid (Z ≤ w2.heap.size) := Lib.hid (by rw [← hZ]; exact (then_ HB1.out b2).size)
  clear hfx hro hrec b2 hn hwh HO1 hfl hZ
  go_wp2_with fail
  go_loopw [8, 9, 11] (fun vl vi ve wr => ∃ (k : Nat) (pl : Option Addr) (cl : Nat) (l : List Im), k ≤ n ∧ vi = .int .i64 k ∧ vl = .slice pl k cl ∧ l.length = k ∧ Hid (l.map toIt = xs.take k) ∧ Hid (Got w2.heap.size wr (.slice pl k cl) l) ∧ Hid (Below w2.heap.size w2 wr)) (fun _ vi _ _ => n - (intOf vi).toNat)
  case atStart => exact ⟨0, none, 0, [], Nat.zero_le _, rfl, rfl, rfl, Lib.hid (by simp), Lib.hid (Got.nil _ _), Lib.hid (Below.refl _ _)⟩
  case round =>
    obtain ⟨k, pl, cl, l, hk, rfl, rfl, hll, HM, HG, HB⟩ := hrel
    by_cases hkn : k < n
    · have hkx : k < xs.length := by rw [HN.out]; exact hkn
      have hkf : k < fx.length := by rw [HFL.out]; exact hkn
      obtain ⟨gb, rfl⟩ : ∃ gb, p2 = some ⟨gb, 0, none⟩ := by
        rcases HRO.out.2 with ⟨_, h0⟩ | ⟨gb, _, _, e, _⟩
        · omega
        · simp only [Value.slice.injEq] at e; exact ⟨gb, e.1⟩
      have hcell := World.ownsRow.cellAt HRO.out k (by omega)
      rw [List.getElem?_map, List.getElem?_eq_getElem hkf, Option.map_some] at hcell
      have hcell := cell_later HB.out hcell
      obtain ⟨f, hf⟩ : ∃ f, fx[k] = f := ⟨_, rfl⟩
      have hfm : f ∈ fx := by rw [← hf]; exact List.getElem_mem hkf
      have hrf := (HRec.out f hfm).later HB.out
      obtain ⟨x, hxk⟩ : ∃ x, xs.getD k default = x := ⟨_, rfl⟩
      have hfr : f.r = formI x := by
        have := congrArg (fun y => y.getD k []) HFX.out
        simp only [List.getD_eq_getElem?_getD, List.getElem?_map, List.getElem?_eq_getElem hkf, List.getElem?_eq_getElem hkx, Option.map_some, Option.getD_some] at this
        rw [List.getD_eq_getElem?_getD, List.getElem?_eq_getElem hkx] at hxk
        simp only [Option.getD_some] at hxk
        rw [← hf, this, hxk]
      obtain ⟨hx1, hx2⟩ := HX.out x (by rw [← hxk, List.getD_eq_getElem?_getD, List.getElem?_eq_getElem hkx]; exact List.getElem_mem hkx)
      rw [hf] at hcell
      have hbs := hrf.bs
      rw [hfr] at hbs
      obtain ⟨gf, cf, hfv⟩ := hrf.form
      rw [hfv] at hcell hbs
      rw [hfr] at hcell hbs
      have hidx := idx_fx (some ⟨gb, 0, none⟩) gb 0 n c2 k rfl hkn
      rw [Nat.zero_add] at hidx
      have HT := Lib.hid (fun X (h : Below wr.heap.size wr X) => ti_any _ (formI x) X (Bs.below hbs h) (by omega))
      have HX1 := Lib.hid hx1
      have HXK := Lib.hid hxk
      obtain ⟨nf, hnf⟩ : ∃ nf, (formI x).length = nf := ⟨_, rfl⟩
      rw [hnf] at hcell HT
      have hzr : w2.heap.size ≤ wr.heap.size := HB.out.size
      clear hrf hbs hfv hfr hfm hx1 hx2 hxk hnf
      go_wp2_with fail
      refine (HT.out _ (Below.refl _ _)).mono ?_; intro e w3 h
      obtain ⟨N, T, key, p, m, cap, E, rfl, b3, h2⟩ := tke_i h
      rcases h2 with ⟨rfl, at_, h3, rfl, ho⟩ | ⟨_, h3⟩
      · obtain ⟨c, hc⟩ : ∃ c : Im, c = ⟨N, T, key, p, cap, at_⟩ := ⟨_, rfl⟩
        have hcx : toIt c = x := by rw [hc]; rw [HX1.out] at h3; exact (Option.some.inj h3).symm
        obtain ⟨-, -, hal⟩ := again_i h3
        have HM3 : Hid ((l ++ [c]).map toIt = xs.take (k + 1)) := Lib.hid (map_snoc toIt HM.out hkx (hcx.trans HXK.out.symm))
        have HG3 := Lib.hid (HG.out.later b3)
        have HI3 : Hid (invI w3 w2.heap.size c) := Lib.hid (by rw [hc]; exact own_base ho hzr)
        have HB3 := Lib.hid (then_ HB.out b3)
        have HAL : Hid (c.at_.length ≤ 8) := Lib.hid (by rw [hc]; exact hal)
        have hz3 : w2.heap.size ≤ w3.heap.size := Nat.le_trans hzr b3.size
        clear b3 h3 ho hal h HT hcx hcell hidx
        subst hc
        have hb1 := below_one w3 (.cells #[.int .u64 (N : Nat), .int .u64 (T : Nat), .string key, .slice p at_.length cap] 39)
        have hb2 := below_one (w3.alloc (.cells #[.int .u64 (N : Nat), .int .u64 (T : Nat), .string key, .slice p at_.length cap] 39)) (.cells #[.int .u64 (N : Nat), .int .u64 (T : Nat), .string key, .slice p at_.length cap] 39)
        have hb12 := then_ hb1 hb2
        have hza : w2.heap.size ≤ ((w3.alloc (.cells #[.int .u64 (N : Nat), .int .u64 (T : Nat), .string key, .slice p at_.length cap] 39)).alloc (.cells #[.int .u64 (N : Nat), .int .u64 (T : Nat), .string key, .slice p at_.length cap] 39)).heap.size := Nat.le_trans hz3 hb12.size
        have HGa := Lib.hid (Got.later HG3.out hb12)
        have HIa := Lib.hid (own_later HI3.out hb12)
        have HBa := Lib.hid (then_ HB3.out hb12)
        have GO : Hid (((w3.alloc (.cells #[.int .u64 (N : Nat), .int .u64 (T : Nat), .string key, .slice p at_.length cap] 39)).alloc (.cells #[.int .u64 (N : Nat), .int .u64 (T : Nat), .string key, .slice p at_.length cap] 39)).ownsRow w2.heap.size 39 4 (.slice pl k cl) k (l.flatMap Gm.encI)) := Lib.hid (by have := HGa.out.1; rw [hll] at this; exact this)
        have HSr := Lib.hid (src_one Gm.encI (w3.alloc (.cells #[.int .u64 (N : Nat), .int .u64 (T : Nat), .string key, .slice p at_.length cap] 39)) (show (w3.alloc (.cells #[.int .u64 (N : Nat), .int .u64 (T : Nat), .string key, .slice p at_.length cap] 39)).heap.size = w3.heap.size + 1 by simp) 39 (⟨N, T, key, p, cap, at_⟩ : Im) _ rfl 4 rfl (encI_one _))
        clear hb1 hb2 hb12 HG3 HI3 HB3 HG
        go_wp2_with (at_builtin; refine wpList_append_src rfl _ _ 22 rfl w2.heap.size 39 i0 (.agg #[.int .u64 0, .int .u64 0, .string ⟨#[]⟩, .slice none 0 0]) 4 56 Tryz.underlying22 ji iz0 iz1 iz2 rfl (by decide) _ _ _ rfl GO.out _ 1 (Gm.encI (⟨N, T, key, p, cap, at_⟩ : Im)) rfl HSr.out (k + 1) rfl (by unfold maxLen; omega) (by omega) hza ?_; intro p5 c5 w5 hown5 hgrow5; have X1 := Lib.hid hown5; have X2 := Lib.hid hgrow5; clear hown5 hgrow5)
        have HG5 : Hid (Got w2.heap.size w5 (.slice p5 (k + 1) c5) (l ++ [⟨N, T, key, p, cap, at_⟩])) := Lib.hid (Got.snoc HGa.out HIa.out HAL.out (by rw [hll]; exact X1.out) X2.out)
        have HB5 : Hid (Below w2.heap.size w2 w5) := Lib.hid (HBa.out.grown X2.out hza (fun j hj => (World.ownsRow.lt GO.out j hj).1))
        go_roundw
        case rel => exact ⟨k + 1, p5, c5, l ++ [⟨N, T, key, p, cap, at_⟩], by omega, by go_num, rfl, by rw [List.length_append, hll]; rfl, HM3, HG5, HB5⟩
        case measure => simp [intOf]; omega
      · rw [HX1.out] at h3; cases h3
    · obtain rfl : k = n := by omega
      have hM : l.map toIt = xs := by have := HM.out; rwa [List.take_of_length_le (by rw [HN.out]; exact Nat.le_refl _)] at this
      have HMx := Lib.hid hM
      have HBw : Hid (Below Z w wr) := Lib.hid (below_then HB2.out (below_less HB.out HB2z.out))
      clear hM
      go_wp2_with fail
      go_ret2
      unfold ReadI
      rw [HZ.out]
      subst hll
      exact ⟨pl, cl, l, rfl, HMx.out, Got.low HG.out HB2z.out, HBw.out⟩
end Go.Proofs.YtmbfhmjcphoddaaGreatDoor.Top
