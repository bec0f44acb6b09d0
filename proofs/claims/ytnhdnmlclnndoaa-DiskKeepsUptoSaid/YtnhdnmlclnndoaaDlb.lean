/- Layer 10: a row's call, walked: do. -/
import Derived.Test.YtnhdnmlclnndoaaDla
set_option linter.unusedSimpArgs false
set_option linter.unusedVariables false
namespace Go.Proofs.Ytnhdnmlclnndoaa.Gm
open Go Go.RowKit Go.Maps
attribute [local go_sem ↓] Go.wp_at_zero Go.wp_at_succ

/-- What holds behind the call itself: the disk; the bytes of the call's own, in a block that is none of the disk's. -/
structure DoMid (W0 : World) (B g bm t : Nat) (o : AOut) (vb : Value) (b : List UInt8) (w : World) : Prop where
  dsk : ∃ nn D L, Dsk B g bm t nn w D L o.q o.fu o.off ∧ view L = o.V ∧ ∀ k, Inn g bm L k → vb.ownBlock ≠ some k
  own : OwnB w B vb b
  bel : Below B W0 w
theorem DoMid.stay {W0 : World} {B g bm t nn : Nat} {V : View} {q fu : Int} {off : Bool} {D : DataW Value} {L : List Ent} {vb : Value} {b : List UInt8} {w1 w2 w3 : World} (hD : Dsk B g bm t nn w2 D L q fu off) (hV : view L = V) (ho : OwnB w2 w1.heap.size vb b) (hI : ∀ k, Inn g bm L k → k < w1.heap.size) (hw : Below w1.heap.size w1 w2) (hB : Below B W0 w2) (hB1 : B ≤ w1.heap.size)
    {t' : Nat} (ht : t ≤ t') : DoMid W0 B g bm t' ⟨0, V, q, fu, off⟩ vb b w2 :=
  ⟨⟨nn, D, L, hD.up ht, hV, fun k hk e => by have := (World.ownsRow.lt ho k e).1; have := hI k hk; omega⟩, ho.base hB1, hB⟩
theorem DoMid.step {W0 : World} {B g bm t : Nat} {q fu : Int} {off : Bool} {L : List Ent} {V' : View} {vb : Value} {b : List UInt8} {w1 w2 w3 : World} (hS : StepV B g bm t L V' q fu off w2 w3) (ho : OwnB w2 w1.heap.size vb b) (hI : ∀ k, Inn g bm L k → k < w1.heap.size) (hIB : ∀ k, Inn g bm L k → B ≤ k) (hB : Below B W0 w2) (hB1 : B ≤ w1.heap.size) (h12 : w1.heap.size ≤ w2.heap.size) (c : Int) :
    DoMid W0 B g bm (t + 2) ⟨c, V', q, fu, off⟩ vb b w3 := by
  obtain ⟨L', ⟨nn, D, hD, hC, hI'⟩, hV⟩ := hS
  have hn : ∀ k, vb.ownBlock = some k → ¬ Inn g bm L k := fun k e hk => by have := (World.ownsRow.lt ho k e).1; have := hI k hk; omega
  refine ⟨⟨nn, D, L', hD, hV, fun k hk e => ?_⟩, (chg_own ho hC hn).base hB1, below_then hB (hC.toBelow hIB (by omega))⟩
  rcases hI' k hk with h1 | h1
  · exact hn k e h1
  · have := (World.ownsRow.lt ho k e).2; omega
/-- Bytes that may be written through, whatever they are. -/
def WrB (w : World) (B : Nat) (p : Option Addr) (n : Nat) : Prop := n = 0 ∨ ∃ gb, p = some ⟨gb, 0, none⟩ ∧ B ≤ gb ∧ gb < w.heap.size ∧ Wr8 w gb n
theorem WrB.of {w : World} {B : Nat} {p : Option Addr} {n c : Nat} {L : List UInt8} (h : OwnB w B (.slice p n c) L) (hn : L.length = n) : WrB w B p n := by
  by_cases hl : L = []
  · left; rw [← hn, hl]; rfl
  · obtain ⟨gb, cap, hv, hb, hlt, hw⟩ := h.row hl
    simp only [Value.slice.injEq] at hv
    obtain ⟨rfl, -, -⟩ := hv
    exact .inr ⟨gb, rfl, hb, hlt, by rw [← hn]; exact hw⟩
theorem WrB.set {w : World} {B : Nat} {p : Option Addr} {n b : Nat} (h : WrB w B p n) (j : Nat) (c : UInt8) : WrB (w.setCell ⟨b, j, none⟩ (byteV c)) B p n := by
  rcases h with h | ⟨gb, h1, h2, h3, h4⟩
  · exact .inl h
  · exact .inr ⟨gb, h1, h2, by simpa using h3, h4.set b j c⟩
theorem actO_0 (V : View) (q fu : Int) (off : Bool) (nm ot : Nm) (b : List UInt8) (n : Int) (P : List Nat) : actO V q fu off ⟨0, nm, ot, b, n, P⟩ = ofOut q (offV V fu off (runV V fu (createC V nm) (putV V (nm, [], 0)))) := by simp [actO]
theorem actO_1 (V : View) (q fu : Int) (off : Bool) (nm ot : Nm) (b : List UInt8) (n : Int) (P : List Nat) : actO V q fu off ⟨1, nm, ot, b, n, P⟩ = ofOut q (offV V fu off (runV V fu (appendC V nm b.length q) (setV V nm ((fileOf V nm).1 ++ b) (fileOf V nm).2))) := by simp [actO]
theorem actO_2 (V : View) (q fu : Int) (off : Bool) (nm ot : Nm) (b : List UInt8) (n : Int) (P : List Nat) : actO V q fu off ⟨2, nm, ot, b, n, P⟩ = ofOut q (offV V fu off (runV V fu (lackC V nm) (setV V nm (fileOf V nm).1 (fileOf V nm).1.length))) := by simp [actO]
theorem actO_3 (V : View) (q fu : Int) (off : Bool) (nm ot : Nm) (b : List UInt8) (n : Int) (P : List Nat) : actO V q fu off ⟨3, nm, ot, b, n, P⟩ = ofOut q (offV V fu off (runV V fu (renameC V nm ot) (putV (delV V nm) (ot, fileOf V nm)))) := by simp [actO]
theorem actO_4 (V : View) (q fu : Int) (off : Bool) (nm ot : Nm) (b : List UInt8) (n : Int) (P : List Nat) : actO V q fu off ⟨4, nm, ot, b, n, P⟩ = ofOut q (offV V fu off (runV V fu (truncC V nm n) (setV V nm ((fileOf V nm).1.take n.toNat) (min (fileOf V nm).2 n.toNat)))) := by simp [actO]
theorem actO_5 (V : View) (q fu : Int) (off : Bool) (nm ot : Nm) (b : List UInt8) (n : Int) (P : List Nat) : actO V q fu off ⟨5, nm, ot, b, n, P⟩ = ofOut q (offV V fu off (runV V fu (lackC V nm) (delV V nm))) := by simp [actO]
theorem actO_6 (V : View) (q fu : Int) (off : Bool) (nm ot : Nm) (b : List UInt8) (n : Int) (P : List Nat) : actO V q fu off ⟨6, nm, ot, b, n, P⟩ = ⟨if okQ n then 0 else 1, V, if okQ n then n else q, fu, off⟩ := by simp [actO]
theorem actO_7 (V : View) (q fu : Int) (off : Bool) (nm ot : Nm) (b : List UInt8) (n : Int) (P : List Nat) : actO V q fu off ⟨7, nm, ot, b, n, P⟩ = ⟨fuseC n off, V, q, if fuseC n off = 0 then n else fu, off⟩ := by simp [actO]
theorem actO_8 (V : View) (q fu : Int) (off : Bool) (nm ot : Nm) (b : List UInt8) (n : Int) (P : List Nat) : actO V q fu off ⟨8, nm, ot, b, n, P⟩ = ⟨0, crashS P b (unsV V) (unsV V).length V, q, -1, false⟩ := by simp [actO]
theorem actO_else {V : View} {q fu : Int} {off : Bool} {what : Int} {nm ot : Nm} {b : List UInt8} {n : Int} {P : List Nat} (h : ∀ k : Nat, k ≤ 8 → what ≠ (k : Int)) : actO V q fu off ⟨what, nm, ot, b, n, P⟩ = ⟨0, V, q, fu, off⟩ := by
  have h0 := h 0 (by omega)
  have h1 := h 1 (by omega)
  have h2 := h 2 (by omega)
  have h3 := h 3 (by omega)
  have h4 := h 4 (by omega)
  have h5 := h 5 (by omega)
  have h6 := h 6 (by omega)
  have h7 := h 7 (by omega)
  have h8 := h 8 (by omega)
  simp at h0 h1 h2 h3 h4 h5 h6 h7 h8
  unfold actO
  rw [if_neg h0, if_neg h1, if_neg h2, if_neg h3, if_neg h4, if_neg h5, if_neg h6, if_neg h7, if_neg h8]
/-- What `do` leaves. -/
def DoR (W0 : World) (B g bm t : Nat) (o : AOut) (e : Ending) (w' : World) : Prop := e = .returned (.int .i64 o.c) ∧ DkAt B g bm t o.V o.q o.fu o.off w' ∧ Below B W0 w'
theorem idx_b10 (p : Option Addr) (b o n cap k : Nat) (hp : p = some ⟨b, o, none⟩) (hk : k < n) (W : World) : (Instr.indexAt 31 (.slice p n cap) (.int .i64 (k : Int))).run Try.prog W = .ok (.pointer (some ⟨b, o + k, none⟩)) W := by subst hp; go_simp
set_option maxHeartbeats 16000000 in
set_option maxRecDepth 100000 in
theorem do_any (W0 : World) (B g bm t : Nat) (V : View) (q fu : Int) (off : Bool) (a : ActP) (vb vp : Value) (w : World) (hD : DkAt B g bm t V q fu off w) (hB0 : B = W0.heap.size) (hW : Below B W0 w) (hA : ActIn W0 vb vp a) (ht : t < 1099511627776) :
    Calls Try.prog 9 #[.pointer (some ⟨g, 0, none⟩), .agg #[.int .i64 a.what, encStr a.nm, encStr a.ot, vb, .int .i64 a.n, vp]] w (DoR W0 B g bm (t + 2) (actO V q fu off a)) := by
  obtain ⟨nn, D, L, hD, hV⟩ := hD
  obtain ⟨what, nm, ot, bs, n, P⟩ := a
  have hA' := hA
  obtain ⟨h1, h2, h3, h4, h5, h6, h7, h8⟩ := hA
  simp only at h1 h2 h3 h4 h5 h6 h7 h8
  obtain ⟨pb, cb, rfl⟩ := h3.form
  obtain ⟨pp, cp, rfl, -⟩ := id h5
  have hWW : Below W0.heap.size W0 w := by rw [← hB0]; exact hW
  have HBs := Lib.hid (fun X (h : Below w.heap.size w X) => (h3.below hWW).below h)
  have HP := Lib.hid h5
  have HB0 := Lib.hid hB0
  have HV := Lib.hid hV
  have K := Blk.new w 34 #[.int .i64 what, encStr nm, encStr ot, .slice pb bs.length cb, .int .i64 n, .slice pp P.length cp]
  have B1 := below_one w (.cells #[.int .i64 what, encStr nm, encStr ot, .slice pb bs.length cb, .int .i64 n, .slice pp P.length cp] 34)
  have HO := Lib.hid (rown_any _ bs _ (HBs.out _ B1) (Nat.le_trans h4 (by decide)))
  have hD1 := hD.later B1
  have hz1 : (w.alloc (.cells #[.int .i64 what, encStr nm, encStr ot, .slice pb bs.length cb, .int .i64 n, .slice pp P.length cp] 34)).heap.size = w.heap.size + 1 := by simp
  have HI := Lib.hid (fun k (hk : Inn g bm L k) => hD.lt k hk)
  have HIB := Lib.hid (fun k (hk : Inn g bm L k) => hD.inB k hk)
  have hb := hD.base.1
  have HB1 := Lib.hid (below_then hW (B1.mono hb))
  generalize hact : actO V q fu off ⟨what, nm, ot, bs, n, P⟩ = o
  have HACT := Lib.hid hact
  clear hact
  unfold encStr at K B1 HO hD1 hz1 HB1 ⊢
  obtain ⟨w1, hw1⟩ : ∃ w1, w.alloc (.cells #[.int .i64 what, .string ⟨nm.toArray⟩, .string ⟨ot.toArray⟩, .slice pb bs.length cb, .int .i64 n, .slice pp P.length cp] 34) = w1 := ⟨_, rfl⟩
  rw [hw1] at K B1 HO hD1 hz1 HB1
  have k3 := K.cell 3 (u := .slice pb bs.length cb) rfl
  go_enter Try.func9, Try.ntmps9
  go_wp2_with fail
  clear hw1 k3
  refine HO.out.mono ?_; rintro e w2 ⟨v2, rfl, ho2, b2⟩
  obtain ⟨p2, c2, rfl⟩ := ho2.form
  obtain ⟨nb, hnb⟩ : ∃ nb, bs.length = nb := ⟨_, rfl⟩
  have HNB := Lib.hid hnb
  rw [hnb] at ho2 ⊢
  have HO2 := Lib.hid ho2
  have HB12 := Lib.hid b2
  have HB2 := Lib.hid (below_then HB1.out (b2.mono (by omega)))
  have HD2 := Lib.hid (hD1.later b2)
  have K2 := K.later b2
  have k0 := K2.cell 0 (u := .int .i64 what) rfl
  have k1 := K2.cell 1 (u := .string ⟨nm.toArray⟩) rfl
  have k2 := K2.cell 2 (u := .string ⟨ot.toArray⟩) rfl
  have k4 := K2.cell 4 (u := .int .i64 n) rfl
  have k5 := K2.cell 5 (u := .slice pp P.length cp) rfl
  have hI1 : ∀ k, Inn g bm L k → k < w1.heap.size := fun k hk => by have := HI.out k hk; omega
  have HI1 := Lib.hid hI1
  have hBw1 : B ≤ w1.heap.size := by omega
  have hw12 := b2.size
  clear hnb ho2 b2 HO hD1 K K2 B1 hb hD hV HBs hA' h3 h5 hWW hI1 hB0 hW
  go_upto_block 0 with (fail)
  go_cut [6] from 13 to 86 (fun t6 wq => t6 = .int .i64 o.c ∧ DoMid W0 B g bm (t + 2) o (.slice p2 nb c2) bs wq)
  case first =>
    have hcase : what = 0 ∨ what = 1 ∨ what = 2 ∨ what = 3 ∨ what = 4 ∨ what = 5 ∨ what = 6 ∨ what = 7 ∨ what = 8 ∨ ∀ k : Nat, k ≤ 8 → what ≠ (k : Int) := by
      by_cases hx : 0 ≤ what ∧ what ≤ 8
      · omega
      · right; right; right; right; right; right; right; right; right; intro k hk; omega
    rcases hcase with rfl | rfl | rfl | rfl | rfl | rfl | rfl | rfl | rfl | hel
    · have hc := Create_v HD2.out ht nm h1
      rw [HV.out] at hc
      obtain ⟨O, hO⟩ : ∃ O, offV V fu off (runV V fu (createC V nm) (putV V (nm, [], 0))) = O := ⟨_, rfl⟩
      rw [hO] at hc
      have ho : o = ofOut q O := by rw [← HACT.out, actO_0, hO]
      clear hO
      unfold encStr at hc
      have HC := Lib.hid hc
      clear hc
      go_wp2_with fail
      refine HC.out.mono ?_; rintro e w3 ⟨rfl, hS⟩
      have HM := Lib.hid (DoMid.step hS HO2.out HI1.out HIB.out HB2.out hBw1 hw12 O.c)
      clear hS HC
      go_wp2_with fail
      go_meet
      exact ⟨by rw [ho]; rfl, by rw [ho]; exact HM.out⟩
    · have hc := Append_v HD2.out ht nm h1 p2 c2 bs (Nat.le_trans h4 (by decide)) (by rw [HNB.out]; exact HO2.out.bs)
      rw [HV.out] at hc
      obtain ⟨O, hO⟩ : ∃ O, offV V fu off (runV V fu (appendC V nm bs.length q) (setV V nm ((fileOf V nm).1 ++ bs) (fileOf V nm).2)) = O := ⟨_, rfl⟩
      rw [hO] at hc
      have ho : o = ofOut q O := by rw [← HACT.out, actO_1, hO]
      clear hO
      unfold encStr at hc
      rw [HNB.out] at hc
      have HC := Lib.hid hc
      clear hc
      go_wp2_with fail
      refine HC.out.mono ?_; rintro e w3 ⟨rfl, hS⟩
      have HM := Lib.hid (DoMid.step hS HO2.out HI1.out HIB.out HB2.out hBw1 hw12 O.c)
      clear hS HC
      go_wp2_with fail
      go_meet
      exact ⟨by rw [ho]; rfl, by rw [ho]; exact HM.out⟩
    · have hc := Sync_v HD2.out ht nm h1
      rw [HV.out] at hc
      obtain ⟨O, hO⟩ : ∃ O, offV V fu off (runV V fu (lackC V nm) (setV V nm (fileOf V nm).1 (fileOf V nm).1.length)) = O := ⟨_, rfl⟩
      rw [hO] at hc
      have ho : o = ofOut q O := by rw [← HACT.out, actO_2, hO]
      clear hO
      unfold encStr at hc
      have HC := Lib.hid hc
      clear hc
      go_wp2_with fail
      refine HC.out.mono ?_; rintro e w3 ⟨rfl, hS⟩
      have HM := Lib.hid (DoMid.step hS HO2.out HI1.out HIB.out HB2.out hBw1 hw12 O.c)
      clear hS HC
      go_wp2_with fail
      go_meet
      exact ⟨by rw [ho]; rfl, by rw [ho]; exact HM.out⟩
    · have hc := Rename_v HD2.out ht nm h1 ot h2
      rw [HV.out] at hc
      obtain ⟨O, hO⟩ : ∃ O, offV V fu off (runV V fu (renameC V nm ot) (putV (delV V nm) (ot, fileOf V nm))) = O := ⟨_, rfl⟩
      rw [hO] at hc
      have ho : o = ofOut q O := by rw [← HACT.out, actO_3, hO]
      clear hO
      unfold encStr at hc
      have HC := Lib.hid hc
      clear hc
      go_wp2_with fail
      refine HC.out.mono ?_; rintro e w3 ⟨rfl, hS⟩
      have HM := Lib.hid (DoMid.step hS HO2.out HI1.out HIB.out HB2.out hBw1 hw12 O.c)
      clear hS HC
      go_wp2_with fail
      go_meet
      exact ⟨by rw [ho]; rfl, by rw [ho]; exact HM.out⟩
    · have hc := Truncate_v HD2.out ht nm h1 n
      rw [HV.out] at hc
      obtain ⟨O, hO⟩ : ∃ O, offV V fu off (runV V fu (truncC V nm n) (setV V nm ((fileOf V nm).1.take n.toNat) (min (fileOf V nm).2 n.toNat))) = O := ⟨_, rfl⟩
      rw [hO] at hc
      have ho : o = ofOut q O := by rw [← HACT.out, actO_4, hO]
      clear hO
      unfold encStr at hc
      have HC := Lib.hid hc
      clear hc
      go_wp2_with fail
      refine HC.out.mono ?_; rintro e w3 ⟨rfl, hS⟩
      have HM := Lib.hid (DoMid.step hS HO2.out HI1.out HIB.out HB2.out hBw1 hw12 O.c)
      clear hS HC
      go_wp2_with fail
      go_meet
      exact ⟨by rw [ho]; rfl, by rw [ho]; exact HM.out⟩
    · have hc := Remove_v HD2.out ht nm h1
      rw [HV.out] at hc
      obtain ⟨O, hO⟩ : ∃ O, offV V fu off (runV V fu (lackC V nm) (delV V nm)) = O := ⟨_, rfl⟩
      rw [hO] at hc
      have ho : o = ofOut q O := by rw [← HACT.out, actO_5, hO]
      clear hO
      unfold encStr at hc
      have HC := Lib.hid hc
      clear hc
      go_wp2_with fail
      refine HC.out.mono ?_; rintro e w3 ⟨rfl, hS⟩
      have HM := Lib.hid (DoMid.step hS HO2.out HI1.out HIB.out HB2.out hBw1 hw12 O.c)
      clear hS HC
      go_wp2_with fail
      go_meet
      exact ⟨by rw [ho]; rfl, by rw [ho]; exact HM.out⟩
    · have hc := Quota_v HD2.out n
      rw [HV.out] at hc
      obtain ⟨c0, hc0⟩ : ∃ c : Int, (if okQ n then 0 else 1) = c := ⟨_, rfl⟩
      obtain ⟨q0, hq0⟩ : ∃ c : Int, (if okQ n then n else q) = c := ⟨_, rfl⟩
      rw [hc0, hq0] at hc
      have ho : o = ⟨c0, V, q0, fu, off⟩ := by rw [← HACT.out, actO_6, hc0, hq0]
      clear hc0 hq0
      have HC := Lib.hid hc
      clear hc
      go_wp2_with fail
      refine HC.out.mono ?_; rintro e w3 ⟨rfl, hS⟩
      have HM := Lib.hid (DoMid.step hS HO2.out HI1.out HIB.out HB2.out hBw1 hw12 c0)
      clear hS HC
      go_wp2_with fail
      go_meet
      exact ⟨by rw [ho], by rw [ho]; exact HM.out⟩
    · have hc := Fuse_v HD2.out n h8
      rw [HV.out] at hc
      obtain ⟨q0, hq0⟩ : ∃ c : Int, (if fuseC n off = 0 then n else fu) = c := ⟨_, rfl⟩
      obtain ⟨c0, hc0⟩ : ∃ c : Int, fuseC n off = c := ⟨_, rfl⟩
      have ho : o = ⟨c0, V, q, q0, off⟩ := by rw [← HACT.out, actO_7, hq0, hc0]
      rw [hq0, hc0] at hc
      clear hc0 hq0
      have HC := Lib.hid hc
      clear hc
      go_wp2_with fail
      refine HC.out.mono ?_; rintro e w3 ⟨rfl, hS⟩
      have HM := Lib.hid (DoMid.step hS HO2.out HI1.out HIB.out HB2.out hBw1 hw12 c0)
      clear hS HC
      go_wp2_with fail
      go_meet
      exact ⟨by rw [ho], by rw [ho]; exact HM.out⟩
    · have hF : Foreign (Inn g bm L) w2 (.slice pp P.length cp) (.slice p2 nb c2) P bs := ⟨fun W hC => by
          have hbW := HB2.out.trans (hC.toBelow HIB.out (by omega))
          rw [HB0.out] at hbW
          exact HP.out.below hbW, fun W hC => (chg_own HO2.out hC (fun k e hk => by have := (World.ownsRow.lt HO2.out k e).1; have := HI1.out k hk; omega)).bs, h7, h6, Nat.le_trans h4 (by decide)⟩
      have hc := Crash_v HD2.out _ _ P bs hF
      rw [HV.out] at hc
      obtain ⟨V', hV'⟩ : ∃ V', crashS P bs (unsV V) (unsV V).length V = V' := ⟨_, rfl⟩
      rw [hV'] at hc
      have ho : o = ⟨0, V', q, -1, false⟩ := by rw [← HACT.out, actO_8, hV']
      clear hV' hF
      have HC := Lib.hid hc
      clear hc
      go_wp2_with fail
      refine HC.out.mono ?_; rintro e w3 ⟨rfl, hS⟩
      have HM := Lib.hid (DoMid.step hS HO2.out HI1.out HIB.out HB2.out hBw1 hw12 0)
      clear hS HC
      go_wp2_with fail
      go_meet
      exact ⟨by rw [ho], by rw [ho]; exact HM.out⟩
    · have ho : o = ⟨0, V, q, fu, off⟩ := by rw [← HACT.out, actO_else hel]
      have HM := Lib.hid (DoMid.stay (t' := t + 2) (w3 := w2) HD2.out HV.out HO2.out HI1.out HB12.out HB2.out hBw1 (by omega))
      have j0 : ¬ (what = 0) := hel 0 (by omega)
      have j1 : ¬ (what = 1) := hel 1 (by omega)
      have j2 : ¬ (what = 2) := hel 2 (by omega)
      have j3 : ¬ (what = 3) := hel 3 (by omega)
      have j4 : ¬ (what = 4) := hel 4 (by omega)
      have j5 : ¬ (what = 5) := hel 5 (by omega)
      have j6 : ¬ (what = 6) := hel 6 (by omega)
      have j7 : ¬ (what = 7) := hel 7 (by omega)
      have j8 : ¬ (what = 8) := hel 8 (by omega)
      clear hel
      go_wp2_with fail
      go_meet
      exact ⟨by rw [ho], by rw [ho]; exact HM.out⟩
  case rest =>
    obtain ⟨rfl, HM⟩ := hcut
    have HMd := Lib.hid HM
    obtain ⟨c, hc⟩ : ∃ c, o.c = c := ⟨_, rfl⟩
    have HCo := Lib.hid hc
    rw [hc]
    clear HM hc HD2 HO2 HI HI1 HIB HB2 HB1 HB12 HV k0 k1 k2 k4 k5 HP
    have HWr := Lib.hid (WrB.of HMd.out.own HNB.out)
    have HCr := Lib.hid (Chg.refl (fun k => (Value.slice p2 nb c2).ownBlock = some k) wc)
    have hnb4 : nb ≤ 140737488351232 := by rw [← HNB.out]; exact h4
    go_wp2_with fail
    go_loopw [75] (fun i wr => ∃ (k : Nat), k ≤ nb ∧ i = .int .i64 k ∧ Hid (WrB wr B p2 nb) ∧ Hid (Chg (fun k => (Value.slice p2 nb c2).ownBlock = some k) wc wr)) (fun i _ => nb - (intOf i).toNat)
    case atStart => exact ⟨0, by omega, rfl, HWr, HCr⟩
    case round =>
      obtain ⟨k, hk, rfl, HP, HC⟩ := hrel
      clear HWr HCr
      by_cases hkn : k < nb
      · rcases HP.out with h | ⟨gb, rfl, hbg, hlt, hw⟩
        · omega
        · obtain ⟨cc, hcc, hfr⟩ := hw k hkn
          obtain ⟨d, hd⟩ := xor_byte cc
          have hidx := idx_b10 (some ⟨gb, 0, none⟩) gb 0 nb c2 k rfl hkn
          rw [Nat.zero_add] at hidx
          have HPn := Lib.hid (HP.out.set (b := gb) k d)
          have HCn : Hid (Chg (fun k => (Value.slice (some ⟨gb, 0, none⟩) nb c2).ownBlock = some k) wc (wr.setCell ⟨gb, k, none⟩ (byteV d))) := Lib.hid (HC.out.trans (J := fun k => (Value.slice (some ⟨gb, 0, none⟩) nb c2).ownBlock = some k) (Chg.only (only_grown (grown_set (World.grownBy.refl wr (some gb)) _)) (fun j hj => by rw [List.mem_singleton.1 hj]; rfl)) (fun i hi => .inl hi))
          clear hw hlt
          go_wp2_with fail
          go_roundw
          case rel => exact ⟨k + 1, by omega, by go_num, HPn, HCn⟩
          case measure => simp [intOf]; omega
      · have hF : DkAt B g bm (t + 2) o.V o.q o.fu o.off wr ∧ Below B W0 wr := by
          obtain ⟨⟨nn', D', L', hD', hV', hI'⟩, ho', hb'⟩ := HMd.out
          refine ⟨⟨nn', D', L', hD'.free HC.out (fun k hk => hI' k hk), hV'⟩, below_then hb' (HC.out.toBelow (fun k hk => (World.ownsRow.lt ho' k hk).1) hD'.base.1)⟩
        have HF := Lib.hid hF
        have hke : ¬ ((k : Int) < (nb : Int)) := by omega
        clear hF HP HC HMd
        go_wp2_with fail
        go_ret
        exact ⟨by rw [HCo.out]; rfl, HF.out.1, HF.out.2⟩
end Go.Proofs.Ytnhdnmlclnndoaa.Gm
