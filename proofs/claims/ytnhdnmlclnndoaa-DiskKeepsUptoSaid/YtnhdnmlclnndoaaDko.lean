/- Layer 10: what is done: Append, Truncate. -/
import Derived.Test.YtnhdnmlclnndoaaDkm
set_option linter.unusedSimpArgs false
set_option linter.unusedVariables false
namespace Go.Proofs.Ytnhdnmlclnndoaa.Gm
open Go Go.RowKit Go.Maps
attribute [local go_sem ↓] Go.wp_at_zero Go.wp_at_succ

section
variable {P : Program} {w : World}
/-- An append from any source, and which block it lies in. -/
theorem step_append_srcb {ops : Array Oper} {o : Oper} {a : Act} {K : Act → World → Prop} {Q : Exit → Act → World → Prop} {E : Prop} (hgd : o.guard = none) (s x : Operand) (t : TypeId)
    (ho : o.op = .call { callee := .builtin .append, args := #[s, x], argTypes := #[t, t] })
    (base : Nat) (e : TypeId) (i : TypeInfo) (z : Value) (size bytes : Nat) (ht : P.underlying t = some (.slice e)) (hi : P.info? e = some i) (hz : i.zero = some z)
    (hsize : i.size = size) (hby : i.bytes = bytes) (hzs : z.cells.size = size) (hsz : 0 < size)
    (v : Value) (n : Nat) (xs : List Value) (hs : a.eval s = v) (hown : w.ownsRow base e size v n xs)
    (xv : Value) (m : Nat) (news : List Value) (hx : a.eval x = xv) (hsrc : Src w xv m size news)
    (N : Nat) (hN : n + m = N) (h63 : N ≤ maxLen) (hbytes : N * bytes ≤ 140737488355328) (hbase : base ≤ w.heap.size)
    (h : ∀ p cap w', w'.ownsRow base e size (.slice p N cap) N (xs ++ news) → w.grownBy w' v.ownBlock → ((Value.slice p N cap).ownBlock = v.ownBlock ∨ (Value.slice p N cap).ownBlock = some w.heap.size) → K (a.put o.dst (.slice p N cap)) w') :
    if Region.wanted o (yielded ops a.tmps) = true then Oper.wp P o a w K Q else E := by
  have hw : Region.wanted o (yielded ops a.tmps) = true := by simp [Region.wanted, hgd]
  rw [if_pos hw]
  subst hN
  rcases hsrc with ⟨rfl, rfl, rfl⟩ | ⟨ad, c, rfl, hl, hnews, h1⟩
  · obtain ⟨p, cap, rfl⟩ := own_shape hown
    have hr := run_append_owned_none (P := P) w base t o.type e i size ht hi _ n xs hown
    unfold Oper.wp execOp
    simp only [ho, resolve, invoke, builtin, Sem.run_bind, Sem.run_pure, Result.andThen_ok, List.map_toArray, List.map_cons, List.map_nil, hs, hx, hr]
    refine h p cap w ?_ (World.grownBy.refl _ _) (.inl rfl)
    simpa using hown
  · obtain ⟨v', w', hr, h2, h3, _, h5⟩ := run_append_own_at (P := P) w base t o.type e i z size bytes ht hi hz hsize hby hzs hsz v n xs hown ad m c news hl hnews h1 h63 hbytes hbase
    obtain ⟨p, cap, rfl⟩ := own_shape h2
    unfold Oper.wp execOp
    simp only [ho, resolve, invoke, builtin, Sem.run_bind, Sem.run_pure, Result.andThen_ok, List.map_toArray, List.map_cons, List.map_nil, hs, hx, hr]
    exact h p cap w' h2 h3 h5
end
section
variable {B g bm t nn : Nat} {w w' : World} {D : DataW Value} {L : List Ent} {q fu : Int} {off : Bool}
/-- A file's bytes turned: what is left. -/
theorem upd_step (h : Dsk B g bm t nn w D L q fu off) {n : List UInt8} {x y : Fl} (hm : (n, x) ∈ L) (hf : y.f = x.f) (hb : FBlk w' y) (ho : OwnB w' B y.v y.b)
    (hC : Chg (fun k => k = x.f ∨ x.v.ownBlock = some k) w w') (hr : ∀ k, y.v.ownBlock = some k → x.v.ownBlock = some k ∨ w.heap.size ≤ k) (hs : y.s ≤ y.b.length) (ht : totE (updE L n y) ≤ 4194304) : StepD B g bm t L (updE L n y) q fu off w w' := by
  refine ⟨nn, D, (h.upd hm hf hb ho hC hr hs ht).up (by omega), ⟨hC.1, hC.2.1, hC.2.2.1, hC.2.2.2.1, fun k hk hn => hC.2.2.2.2 k hk (fun hh => hn (.inr (.inr ⟨_, hm, hh⟩)))⟩, fun k hk => ?_⟩
  rcases hk with rfl | rfl | ⟨e, he, hk⟩
  · exact .inl (.inl rfl)
  · exact .inl (.inr (.inl rfl))
  · rcases mem_upd he with rfl | ⟨he, _⟩
    · rcases hk with rfl | hk
      · exact .inl (.inr (.inr ⟨_, hm, .inl hf⟩))
      · rcases hr k hk with h1 | h1
        · exact .inl (.inr (.inr ⟨_, hm, .inr h1⟩))
        · exact .inr h1
    · exact .inl (.inr (.inr ⟨e, he, hk⟩))
theorem StepD.later {L' : List Ent} {wd : World} (h : StepD B g bm t L L' q fu off wd.drew w') (hb : Below w.heap.size w wd) : StepD B g bm t L L' q fu off w w' := by
  obtain ⟨nn', D', hD, hC, hI⟩ := h
  exact ⟨nn', D', hD, Chg.trans (Chg.below hb) (show Chg (Inn g bm L) wd w' from hC) (fun i hi => .inl hi), fun k hk => (hI k hk).imp id (fun h => Nat.le_trans hb.size h)⟩
set_option maxHeartbeats 4000000 in
set_option maxRecDepth 100000 in
theorem append2_any (h : Dsk B g bm t nn w D L q fu off) {n : List UInt8} {x : Fl} (hm : (n, x) ∈ L) {bn bd bb : Nat} (hk : Lk w bn bd g n) {bv : Value} {bs : List UInt8} (hkb : Blk w bb 31 #[bv]) (hB : Bs w bv bs) (ht : totE L + bs.length ≤ 4194304) :
    Calls Try.prog 66 #[.pointer (some ⟨bd, 0, none⟩), .pointer (some ⟨bn, 0, none⟩), .pointer (some ⟨bb, 0, none⟩)] w (fun e w' => e = .returned (.tuple #[]) ∧ ∃ p c, StepD B g bm t L (updE L n ⟨x.f, p, c, x.b ++ bs, x.s⟩) q fu off w w') := by
  obtain ⟨i0, ii, iz0, iz1, iz2⟩ := info_parts infoB
  obtain ⟨p0, c0', rfl⟩ := hB.form
  have h0 := h.blk.cell 0 rfl
  have hl := h.blk.lt
  have c1 := hk.n.cell 0 rfl
  have c2 := hk.d.cell 0 rfl
  have c3 := hkb.cell 0 rfl
  have l1 := hk.n.lt
  have l2 := hk.d.lt
  have l3 := hkb.lt
  have hd := h.later (Below.refl _ w).drew
  have hlk := hd.look n (len_max (h.may _ hm)).1
  unfold fileV at hlk
  rw [pick_of h.uniq hm] at hlk
  have hfil := h.fil _ hm
  obtain ⟨xf, xp, xc, xb, xs⟩ := x
  simp only [Fl.v] at hfil hlk
  have f0 := hfil.1.cell 0 rfl
  have fl := hfil.1.lt
  have HX := Lib.hid h
  have HM := Lib.hid hm
  have HF := Lib.hid hfil
  have HBs := Lib.hid hB
  have HT := Lib.hid ht
  have HTx := Lib.hid (len_le_tot hm)
  obtain ⟨m, hml⟩ : ∃ m, xb.length = m := ⟨_, rfl⟩
  obtain ⟨k, hkl⟩ : ∃ k, bs.length = k := ⟨_, rfl⟩
  have HML := Lib.hid hml
  have HKL := Lib.hid hkl
  have HN : Hid (m + k ≤ 4194304) := Lib.hid (by have h1 := HTx.out; simp only at h1; omega)
  have hNm : m + k ≤ maxLen := by have := HN.out; unfold maxLen; omega
  have hNb : (m + k) * 1 ≤ 140737488355328 := by have := HN.out; omega
  rw [hml] at f0
  rw [hkl] at c3
  unfold encStr at *
  clear h hk hd hm hfil hB hkb ht hml hkl
  go_enter Try.func66, Try.ntmps66
  go_wp2_with fail
  go_region
  go_wp2_with fail
  obtain ⟨wd, hwd⟩ : ∃ wd, w.drew = wd := ⟨_, rfl⟩
  have bwd : Below w.heap.size w wd := by rw [← hwd]; exact (Below.refl _ w).drew
  rw [hwd]
  clear hwd hlk h0 c1 c2 l1 l2 hl
  have hXd := (HX.out.later bwd).later (Below.refl _ wd).drew
  have HXd := Lib.hid hXd
  have f0 : wd.cell? ⟨xf, 0, none⟩ = some (.slice xp m xc) := (Below.cell bwd (p := ⟨xf, 0, none⟩) fl).trans f0
  have c3 : wd.cell? ⟨bb, 0, none⟩ = some (.slice p0 k c0') := (Below.cell bwd (p := ⟨bb, 0, none⟩) l3).trans c3
  have fl : xf < wd.heap.size := Nat.lt_of_lt_of_le fl bwd.size
  have l3 : bb < wd.heap.size := Nat.lt_of_lt_of_le l3 bwd.size
  have hfd := hXd.fil _ HM.out
  simp only [Fl.v] at hfd
  have HOwn : Hid (wd.drew.ownsRow B 5 1 (.slice xp m xc) m (cellsB xb)) := Lib.hid (by have h := hfd.2.1; unfold OwnB at h; rw [HML.out] at h; exact h)
  have HSrc : Hid (Src wd.drew (.slice p0 k c0') k 1 (cellsB bs)) := Lib.hid (by have h := ((HBs.out.below bwd).below (Below.refl _ wd).drew).src; rw [HKL.out] at h; exact h)
  have HKf := Lib.hid hfd.1
  have hBd : B ≤ wd.drew.heap.size := hXd.base.1
  have HBw := Lib.hid bwd
  clear hXd hfd
  go_region_law (first
    | (refine step_append_srcb rfl (.tmp 14) (.tmp 15) 31 (by rfl) B 5 i0 (.int .u8 0) 1 1 Try.underlying31 ii iz0 iz1 iz2 rfl (by decide) (.slice xp m xc) m (cellsB xb) (by go_simp) HOwn.out (.slice p0 k c0') k (cellsB bs) (by go_simp) HSrc.out (m + k) rfl hNm hNb hBd ?_; intro pA cA w3 hown3 hgrow3 hblk3; have HO3 := Lib.hid hown3; have HG3 := Lib.hid hgrow3; have HB3 := Lib.hid hblk3; have hb3 := HKf.out.grown hgrow3 (Blk.apart HKf.out HOwn.out (by decide)); have s0 := hb3.cell 0 rfl; have sf := hb3.free 0; have sl := hb3.lt; have HK3 := Lib.hid hb3; clear hown3 hgrow3 hblk3 hb3))
  all_goals (
    go_wp2_with fail
    go_end0
    have hk4 := setCell_block HK3.out (o := 0) (by simp) (.slice pA (m + k) cA)
    have hlen : (xb ++ bs).length = m + k := by rw [List.length_append, HML.out, HKL.out]
    have hOB : OwnB w3 B (.slice pA (m + k) cA) (xb ++ bs) := ownB_app HO3.out (by rw [HML.out, HKL.out])
    have hC : Chg (fun i => i = xf ∨ (Value.slice xp m xc).ownBlock = some i) wd.drew (w3.setCell ⟨xf, 0, none⟩ (.slice pA (m + k) cA)) := by
      refine Chg.trans (Chg.grown HG3.out (fun i hi => .inl (.inr hi))) (Chg.only (F := [xf]) (I := fun i => i = xf) (only_set10 (only_refl10 _ _)) (fun i hi => List.mem_singleton.1 hi)) (fun i hi => .inl (.inl hi))
    have hupd := upd_step HXd.out (y := ⟨xf, pA, cA, xb ++ bs, xs⟩) HM.out rfl (by simp only [FBlk, Fl.v]; rw [hlen]; simpa using hk4) (by simp only [Fl.v]; rw [hlen]; exact hOB.setOther (g := xf) (i := 0) HK3.out (by decide) _) (by simp only [Fl.v]; rw [HML.out]; exact hC)
      (fun i hi => by
        simp only [Fl.v] at hi ⊢
        rw [hlen] at hi
        rw [HML.out]
        rcases HB3.out with e | e
        · exact .inl (e ▸ hi)
        · rw [e] at hi; exact .inr (Nat.le_of_eq (Option.some.inj hi)))
      (by have := HX.out.syn _ HM.out; simp only at this ⊢; rw [List.length_append]; omega)
      (by have h1 := upd_tot HX.out.uniq HM.out (y := ⟨xf, pA, cA, xb ++ bs, xs⟩); have h2 := HT.out; simp only [List.length_append] at h1; omega)
    exact ⟨rfl, pA, cA, hupd.later HBw.out⟩)
set_option maxHeartbeats 4000000 in
set_option maxRecDepth 100000 in
theorem trunc2_any (h : Dsk B g bm t nn w D L q fu off) {n : List UInt8} {x : Fl} (hm : (n, x) ∈ L) {bn bd bb k : Nat} (hk : Lk w bn bd g n) (hkb : Blk w bb 3 #[.int .i64 (k : Nat)]) (hkl : k ≤ x.b.length) :
    Calls Try.prog 71 #[.pointer (some ⟨bd, 0, none⟩), .pointer (some ⟨bn, 0, none⟩), .pointer (some ⟨bb, 0, none⟩)] w (fun e w' => e = .returned (.tuple #[]) ∧ ∃ p c, StepD B g bm t L (updE L n ⟨x.f, p, c, x.b.take k, min x.s k⟩) q fu off w w') := by
  have h0 := h.blk.cell 0 rfl
  have hl := h.blk.lt
  have c1 := hk.n.cell 0 rfl
  have c2 := hk.d.cell 0 rfl
  have c3 := hkb.cell 0 rfl
  have l1 := hk.n.lt
  have l2 := hk.d.lt
  have l3 := hkb.lt
  have hd := h.later (Below.refl _ w).drew
  have hlk := hd.look n (len_max (h.may _ hm)).1
  unfold fileV at hlk
  rw [pick_of h.uniq hm] at hlk
  have hxl := len_le_tot hm
  have htt := h.tot
  have HC := Lib.hid (fcut_any B x k w.drew (hd.fil _ hm).1 (hd.fil _ hm).2.1 hkl (by simp only at hxl; omega))
  have HX := Lib.hid hd
  have HM := Lib.hid hm
  have HKL := Lib.hid hkl
  unfold encStr at *
  clear h hk hd hm hkb hxl htt hkl
  go_enter Try.func71, Try.ntmps71
  go_wp2_with fail
  go_region_law (first
    | (go_simp; go_at_call 58; refine HC.out.mono ?_; rintro e w2 ⟨rfl, p2, c2', hb2, hO2, hY2⟩; have HB2 := Lib.hid hb2; have HO2 := Lib.hid hO2; have HY2 := Lib.hid hY2; clear hb2 hO2 hY2))
  all_goals (
    go_wp2_with fail
    go_end0
    have hC : Chg (fun i => i = x.f ∨ x.v.ownBlock = some i) w.drew w2 := Chg.only HY2.out (fun i hi => .inl (List.mem_singleton.1 hi))
    have hupd := upd_step HX.out (y := ⟨x.f, p2, c2', x.b.take k, min x.s k⟩) HM.out rfl HB2.out (OwnB.base HO2.out HX.out.base.1) hC
      (fun i hi => .inr (World.ownsRow.lt HO2.out i hi).1)
      (by have := HX.out.syn _ HM.out; have := HKL.out; simp only [List.length_take] at *; omega)
      (by have h1 := upd_tot HX.out.uniq HM.out (y := ⟨x.f, p2, c2', x.b.take k, min x.s k⟩); have h2 := HX.out.tot; simp only [List.length_take] at h1; omega)
    exact ⟨rfl, p2, c2', hupd.drew⟩)
end
end Go.Proofs.Ytnhdnmlclnndoaa.Gm
