/- Layer 10: what is done: Rename. -/
import Derived.Test.YtmbfhmjcphoddaaGreatDoorDkk
/- Layer 10: what is done: Sync, Remove, Create. -/
set_option linter.unusedSimpArgs false
set_option linter.unusedVariables false
namespace Go.Proofs.YtmbfhmjcphoddaaGreatDoor.Gm
open Go Go.RowKit Go.Maps
attribute [local go_sem ↓] Go.wp_at_zero Go.wp_at_succ

section
variable {P : Program}
theorem step_delete_in {w : World} {ops : Array Oper} {o : Oper} {a : Act} {K : Act → World → Prop} {Q : Exit → Act → World → Prop} {E : Prop} (hg : o.guard = none) (m x : Operand) (t k : TypeId) (hop : o.op = Op.call { callee := Callee.builtin Builtin.delete, args := #[m, x], argTypes := #[t, k] })
    (e : TypeId) (L : Keyed P k) (ht : P.underlying t = some (.map k e)) (R : Value → Option (DataW Value × List MemPlace)) (b n : Nat) (D : DataW Value)
    (hm : a.eval m = .map (some b)) (hown : w.ownsMap P k R b n D) (key : Value) (kl : Lit) (hx : a.eval x = key) (hkey : keyOf P k key = some kl)
    (hK : ∀ w', w'.ownsMap P k R b n (D.del kl) → w.mapTurned w' b → K (a.put o.dst (.tuple #[])) w') :
    if Region.wanted o (yielded ops a.tmps) = true then Oper.wp P o a w K Q else E := by
  have hw : Region.wanted o (yielded ops a.tmps) = true := by simp [Region.wanted, hg]
  rw [if_pos hw]
  obtain ⟨w', hrun, r1, r2⟩ := hown.drop L ht hkey o.type
  unfold Oper.wp
  simp [execOp, hop, resolve, invoke, builtin, hm, hx, hrun, Result.andThen]
  exact hK w' r1 r2
end
section
variable {B g bm t nn : Nat} {w w' : World} {D : DataW Value} {L : List Ent} {q fu : Int} {off : Bool}
theorem StepD.drew {L' : List Ent} (h : StepD B g bm t L L' q fu off w.drew w') : StepD B g bm t L L' q fu off w w' := h
theorem len_reach {n : List UInt8} (h : mayNm n = true) : n.length ≤ 140737488351232 := by have := (len_max h).2; omega
theorem sync_step (h : Dsk B g bm t nn w D L q fu off) {n : List UInt8} {x : Fl} (hm : (n, x) ∈ L) (hb : FBlk w' { x with s := x.b.length }) (hO : Only [x.f] w w') : StepD B g bm t L (updE L n { x with s := x.b.length }) q fu off w w' := by
  have hx := h.fil _ hm
  have hC : Chg (fun k => k = x.f ∨ x.v.ownBlock = some k) w w' := Chg.only hO (fun k hk => .inl (List.mem_singleton.1 hk))
  have ht := upd_tot h.uniq hm (y := { x with s := x.b.length })
  have hD := h.upd hm (y := { x with s := x.b.length }) rfl hb (own_only10 (t := 0) hx.2.1 hO (fun k hk => by rw [List.mem_singleton.1 hk]; exact blk_not hx.1 (by decide))) hC (fun k hk => .inl hk) (Nat.le_refl _) (by have := h.tot; simp only at ht; omega)
  refine ⟨nn, D, hD.up (by omega), ⟨hC.1, hC.2.1, hC.2.2.1, hC.2.2.2.1, fun k hk hn => hC.2.2.2.2 k hk (fun hh => hn (.inr (.inr ⟨_, hm, hh⟩)))⟩, fun k hk => .inl ?_⟩
  rcases hk with rfl | rfl | ⟨e, he, hk⟩
  · exact .inl rfl
  · exact .inr (.inl rfl)
  · rcases mem_upd he with rfl | ⟨he, _⟩
    · exact .inr (.inr ⟨_, hm, hk⟩)
    · exact .inr (.inr ⟨e, he, hk⟩)
set_option maxHeartbeats 2000000 in
set_option maxRecDepth 100000 in
theorem sync1_any (h : Dsk B g bm t nn w D L q fu off) {n : List UInt8} {x : Fl} (hm : (n, x) ∈ L) {bn bd : Nat} (hk : Lk w bn bd g n) :
    Calls Tryz.prog 30 #[.pointer (some ⟨bd, 0, none⟩), .pointer (some ⟨bn, 0, none⟩)] w (fun e w' => e = .returned (.tuple #[]) ∧ StepD B g bm t L (updE L n { x with s := x.b.length }) q fu off w w') := by
  have h0 := h.blk.cell 0 rfl
  have hl := h.blk.lt
  have c1 := hk.n.cell 0 rfl
  have c2 := hk.d.cell 0 rfl
  have l1 := hk.n.lt
  have l2 := hk.d.lt
  have hd := h.later (Below.refl _ w).drew
  have hlk := hd.look n (len_max (h.may _ hm)).1
  unfold fileV at hlk
  rw [pick_of h.uniq hm] at hlk
  have HS := Lib.hid (fsync_any x w.drew (hd.fil _ hm).1)
  have HX := Lib.hid hd
  have HM := Lib.hid hm
  unfold encStr at *
  clear h hk hd hm
  go_enter Tryz.func30, Tryz.ntmps30
  go_wp2_with fail
  go_region_law (first
    | (go_simp; go_at_call 31; refine HS.out.mono ?_; rintro e w2 ⟨rfl, hb2, hO2⟩; have HB2 := Lib.hid hb2; have HO2 := Lib.hid hO2; clear hb2 hO2))
  all_goals (
    go_wp2_with fail
    go_end0
    exact ⟨rfl, (sync_step HX.out HM.out HB2.out HO2.out).drew⟩)
theorem del_step (h : Dsk B g bm t nn w D L q fu off) {n : List UInt8} {x : Fl} (hm : (n, x) ∈ L) (ho : w'.ownsMap Tryz.prog 9 idElem bm nn (D.del (.string n))) (hT : w.mapTurned w' bm) : StepD B g bm t L (delE L n) q fu off w w' := by
  refine ⟨nn, _, (h.del hm ho hT.grown).up (by omega), Chg.grown hT.grown (fun k hk => .inl (.inr (.inl (Option.some.inj hk).symm))), fun k hk => .inl ?_⟩
  rcases hk with rfl | rfl | ⟨e, he, hk⟩
  · exact .inl rfl
  · exact .inr (.inl rfl)
  · exact .inr (.inr ⟨e, (mem_del.1 he).1, hk⟩)
end
end Go.Proofs.YtmbfhmjcphoddaaGreatDoor.Gm
/- Layer 10: what is done: Append, Truncate. -/
set_option linter.unusedSimpArgs false
set_option linter.unusedVariables false
namespace Go.Proofs.YtmbfhmjcphoddaaGreatDoor.Gm
open Go Go.RowKit Go.Maps
attribute [local go_sem ↓] Go.wp_at_zero Go.wp_at_succ

section
variable {P : Program} {w : World}
/-- An append from any source, and which block it lies in. -/
theorem step_append_srcb {ops : Array Oper} {o : Oper} {a : Act} {K : Act → World → Prop} {Q : Exit → Act → World → Prop} {E : Prop} (hgd : o.guard = none) (s x : Operand) (t : TypeId)
    (ho : o.op = .call { callee := .builtin .append, args := #[s, x], argTypes := #[t, t] })
    (base : Nat) (e : TypeId) (i : TypeInfo) (z : Value) (size bytes : Nat) (ht : P.underlying t = some (.slice e)) (hi : P.info? e = some i) (hz : i.zero = some z)
    (hsize : i.size = size) (hby : i.bytes = bytes) (hzs : z.cells.size = size) (hsz : 0 < size)
    (v : Value) (n : Nat) (xs : List Value) (hs : a.eval s = v) (hown : w.ownsRow base e size v n xs)
    (xv : Value) (m : Nat) (news : List Value) (hx : a.eval x = xv) (hsrc : Src w xv m size news)
    (N : Nat) (hN : n + m = N) (h63 : N ≤ maxLen) (hbytes : N * bytes ≤ 140737488355328) (hbase : base ≤ w.heap.size)
    (h : ∀ p cap w', w'.ownsRow base e size (.slice p N cap) N (xs ++ news) → w.grownBy w' v.ownBlock → ((Value.slice p N cap).ownBlock = v.ownBlock ∨ (Value.slice p N cap).ownBlock = some w.heap.size) → K (a.put o.dst (.slice p N cap)) w') :
    if Region.wanted o (yielded ops a.tmps) = true then Oper.wp P o a w K Q else E := by
  have hw : Region.wanted o (yielded ops a.tmps) = true := by simp [Region.wanted, hgd]
  rw [if_pos hw]
  subst hN
  rcases hsrc with ⟨rfl, rfl, rfl⟩ | ⟨ad, c, rfl, hl, hnews, h1⟩
  · obtain ⟨p, cap, rfl⟩ := own_shape hown
    have hr := run_append_owned_none (P := P) w base t o.type e i size ht hi _ n xs hown
    unfold Oper.wp execOp
    simp only [ho, resolve, invoke, builtin, Sem.run_bind, Sem.run_pure, Result.andThen_ok, List.map_toArray, List.map_cons, List.map_nil, hs, hx, hr]
    refine h p cap w ?_ (World.grownBy.refl _ _) (.inl rfl)
    simpa using hown
  · obtain ⟨v', w', hr, h2, h3, _, h5⟩ := run_append_own_at (P := P) w base t o.type e i z size bytes ht hi hz hsize hby hzs hsz v n xs hown ad m c news hl hnews h1 h63 hbytes hbase
    obtain ⟨p, cap, rfl⟩ := own_shape h2
    unfold Oper.wp execOp
    simp only [ho, resolve, invoke, builtin, Sem.run_bind, Sem.run_pure, Result.andThen_ok, List.map_toArray, List.map_cons, List.map_nil, hs, hx, hr]
    exact h p cap w' h2 h3 h5
end
section
variable {B g bm t nn : Nat} {w w' : World} {D : DataW Value} {L : List Ent} {q fu : Int} {off : Bool}
/-- A file's bytes turned: what is left. -/
theorem upd_step (h : Dsk B g bm t nn w D L q fu off) {n : List UInt8} {x y : Fl} (hm : (n, x) ∈ L) (hf : y.f = x.f) (hb : FBlk w' y) (ho : OwnB w' B y.v y.b)
    (hC : Chg (fun k => k = x.f ∨ x.v.ownBlock = some k) w w') (hr : ∀ k, y.v.ownBlock = some k → x.v.ownBlock = some k ∨ w.heap.size ≤ k) (hs : y.s ≤ y.b.length) (ht : totE (updE L n y) ≤ 4194304) : StepD B g bm t L (updE L n y) q fu off w w' := by
  refine ⟨nn, D, (h.upd hm hf hb ho hC hr hs ht).up (by omega), ⟨hC.1, hC.2.1, hC.2.2.1, hC.2.2.2.1, fun k hk hn => hC.2.2.2.2 k hk (fun hh => hn (.inr (.inr ⟨_, hm, hh⟩)))⟩, fun k hk => ?_⟩
  rcases hk with rfl | rfl | ⟨e, he, hk⟩
  · exact .inl (.inl rfl)
  · exact .inl (.inr (.inl rfl))
  · rcases mem_upd he with rfl | ⟨he, _⟩
    · rcases hk with rfl | hk
      · exact .inl (.inr (.inr ⟨_, hm, .inl hf⟩))
      · rcases hr k hk with h1 | h1
        · exact .inl (.inr (.inr ⟨_, hm, .inr h1⟩))
        · exact .inr h1
    · exact .inl (.inr (.inr ⟨e, he, hk⟩))
theorem StepD.later {L' : List Ent} {wd : World} (h : StepD B g bm t L L' q fu off wd.drew w') (hb : Below w.heap.size w wd) : StepD B g bm t L L' q fu off w w' := by
  obtain ⟨nn', D', hD, hC, hI⟩ := h
  exact ⟨nn', D', hD, Chg.trans (Chg.below hb) (show Chg (Inn g bm L) wd w' from hC) (fun i hi => .inl hi), fun k hk => (hI k hk).imp id (fun h => Nat.le_trans hb.size h)⟩
set_option maxHeartbeats 4000000 in
set_option maxRecDepth 100000 in
theorem append2_any (h : Dsk B g bm t nn w D L q fu off) {n : List UInt8} {x : Fl} (hm : (n, x) ∈ L) {bn bd bb : Nat} (hk : Lk w bn bd g n) {bv : Value} {bs : List UInt8} (hkb : Blk w bb 25 #[bv]) (hB : Bs w bv bs) (ht : totE L + bs.length ≤ 4194304) :
    Calls Tryz.prog 29 #[.pointer (some ⟨bd, 0, none⟩), .pointer (some ⟨bn, 0, none⟩), .pointer (some ⟨bb, 0, none⟩)] w (fun e w' => e = .returned (.tuple #[]) ∧ ∃ p c, StepD B g bm t L (updE L n ⟨x.f, p, c, x.b ++ bs, x.s⟩) q fu off w w') := by
  obtain ⟨i0, ii, iz0, iz1, iz2⟩ := info_parts infoB
  obtain ⟨p0, c0', rfl⟩ := hB.form
  have h0 := h.blk.cell 0 rfl
  have hl := h.blk.lt
  have c1 := hk.n.cell 0 rfl
  have c2 := hk.d.cell 0 rfl
  have c3 := hkb.cell 0 rfl
  have l1 := hk.n.lt
  have l2 := hk.d.lt
  have l3 := hkb.lt
  have hd := h.later (Below.refl _ w).drew
  have hlk := hd.look n (len_max (h.may _ hm)).1
  unfold fileV at hlk
  rw [pick_of h.uniq hm] at hlk
  have hfil := h.fil _ hm
  obtain ⟨xf, xp, xc, xb, xs⟩ := x
  simp only [Fl.v] at hfil hlk
  have f0 := hfil.1.cell 0 rfl
  have fl := hfil.1.lt
  have HX := Lib.hid h
  have HM := Lib.hid hm
  have HF := Lib.hid hfil
  have HBs := Lib.hid hB
  have HT := Lib.hid ht
  have HTx := Lib.hid (len_le_tot hm)
  obtain ⟨m, hml⟩ : ∃ m, xb.length = m := ⟨_, rfl⟩
  obtain ⟨k, hkl⟩ : ∃ k, bs.length = k := ⟨_, rfl⟩
  have HML := Lib.hid hml
  have HKL := Lib.hid hkl
  have HN : Hid (m + k ≤ 4194304) := Lib.hid (by have h1 := HTx.out; simp only at h1; omega)
  have hNm : m + k ≤ maxLen := by have := HN.out; unfold maxLen; omega
  have hNb : (m + k) * 1 ≤ 140737488355328 := by have := HN.out; omega
  rw [hml] at f0
  rw [hkl] at c3
  unfold encStr at *
  clear h hk hd hm hfil hB hkb ht hml hkl
  go_enter Tryz.func29, Tryz.ntmps29
  go_wp2_with fail
  go_region
  go_wp2_with fail
  obtain ⟨wd, hwd⟩ : ∃ wd, w.drew = wd := ⟨_, rfl⟩
  have bwd : Below w.heap.size w wd := by rw [← hwd]; exact (Below.refl _ w).drew
  rw [hwd]
  clear hwd hlk h0 c1 c2 l1 l2 hl
  have hXd := (HX.out.later bwd).later (Below.refl _ wd).drew
  have HXd := Lib.hid hXd
  have f0 : wd.cell? ⟨xf, 0, none⟩ = some (.slice xp m xc) := (Below.cell bwd (p := ⟨xf, 0, none⟩) fl).trans f0
  have c3 : wd.cell? ⟨bb, 0, none⟩ = some (.slice p0 k c0') := (Below.cell bwd (p := ⟨bb, 0, none⟩) l3).trans c3
  have fl : xf < wd.heap.size := Nat.lt_of_lt_of_le fl bwd.size
  have l3 : bb < wd.heap.size := Nat.lt_of_lt_of_le l3 bwd.size
  have hfd := hXd.fil _ HM.out
  simp only [Fl.v] at hfd
  have HOwn : Hid (wd.drew.ownsRow B 5 1 (.slice xp m xc) m (cellsB xb)) := Lib.hid (by have h := hfd.2.1; unfold OwnB at h; rw [HML.out] at h; exact h)
  have HSrc : Hid (Src wd.drew (.slice p0 k c0') k 1 (cellsB bs)) := Lib.hid (by have h := ((HBs.out.below bwd).below (Below.refl _ wd).drew).src; rw [HKL.out] at h; exact h)
  have HKf := Lib.hid hfd.1
  have hBd : B ≤ wd.drew.heap.size := hXd.base.1
  have HBw := Lib.hid bwd
  clear hXd hfd
  go_region_law (first
    | (refine step_append_srcb rfl (.tmp 14) (.tmp 15) 25 (by rfl) B 5 i0 (.int .u8 0) 1 1 Tryz.underlying25 ii iz0 iz1 iz2 rfl (by decide) (.slice xp m xc) m (cellsB xb) (by go_simp) HOwn.out (.slice p0 k c0') k (cellsB bs) (by go_simp) HSrc.out (m + k) rfl hNm hNb hBd ?_; intro pA cA w3 hown3 hgrow3 hblk3; have HO3 := Lib.hid hown3; have HG3 := Lib.hid hgrow3; have HB3 := Lib.hid hblk3; have hb3 := HKf.out.grown hgrow3 (Blk.apart HKf.out HOwn.out (by decide)); have s0 := hb3.cell 0 rfl; have sf := hb3.free 0; have sl := hb3.lt; have HK3 := Lib.hid hb3; clear hown3 hgrow3 hblk3 hb3))
  all_goals (
    go_wp2_with fail
    go_end0
    have hk4 := setCell_block HK3.out (o := 0) (by simp) (.slice pA (m + k) cA)
    have hlen : (xb ++ bs).length = m + k := by rw [List.length_append, HML.out, HKL.out]
    have hOB : OwnB w3 B (.slice pA (m + k) cA) (xb ++ bs) := ownB_app HO3.out (by rw [HML.out, HKL.out])
    have hC : Chg (fun i => i = xf ∨ (Value.slice xp m xc).ownBlock = some i) wd.drew (w3.setCell ⟨xf, 0, none⟩ (.slice pA (m + k) cA)) := by
      refine Chg.trans (Chg.grown HG3.out (fun i hi => .inl (.inr hi))) (Chg.only (F := [xf]) (I := fun i => i = xf) (only_set10 (only_refl10 _ _)) (fun i hi => List.mem_singleton.1 hi)) (fun i hi => .inl (.inl hi))
    have hupd := upd_step HXd.out (y := ⟨xf, pA, cA, xb ++ bs, xs⟩) HM.out rfl (by simp only [FBlk, Fl.v]; rw [hlen]; simpa using hk4) (by simp only [Fl.v]; rw [hlen]; exact hOB.setOther (g := xf) (i := 0) HK3.out (by decide) _) (by simp only [Fl.v]; rw [HML.out]; exact hC)
      (fun i hi => by
        simp only [Fl.v] at hi ⊢
        rw [hlen] at hi
        rw [HML.out]
        rcases HB3.out with e | e
        · exact .inl (e ▸ hi)
        · rw [e] at hi; exact .inr (Nat.le_of_eq (Option.some.inj hi)))
      (by have := HX.out.syn _ HM.out; simp only at this ⊢; rw [List.length_append]; omega)
      (by have h1 := upd_tot HX.out.uniq HM.out (y := ⟨xf, pA, cA, xb ++ bs, xs⟩); have h2 := HT.out; simp only [List.length_append] at h1; omega)
    exact ⟨rfl, pA, cA, hupd.later HBw.out⟩)
end
end Go.Proofs.YtmbfhmjcphoddaaGreatDoor.Gm
/- Layer 10: what is done: Create. -/
set_option linter.unusedSimpArgs false
set_option linter.unusedVariables false
namespace Go.Proofs.YtmbfhmjcphoddaaGreatDoor.Gm
open Go Go.RowKit Go.Maps
attribute [local go_sem ↓] Go.wp_at_zero Go.wp_at_succ

theorem sclone_any (n : List UInt8) (hn : n.length ≤ 140737488351232) (w : World) : Calls Tryz.prog 20 #[encStr n] w (Gives (encStr n) w) := by
  have HC := Lib.hid (fun W => Tryz.stringslite_Clone ⟨n.toArray⟩ W (by simp only [ByteArray.size, List.size_toArray]; omega))
  unfold encStr at *
  go_enter Tryz.func20, Tryz.ntmps20
  go_wp2_with fail
  refine (HC.out _).mono ?_; rintro e w1 ⟨rfl, b1⟩
  have HB := Lib.hid b1
  clear b1
  go_wp2_with fail
  go_ret
  exact ⟨rfl, HB.out⟩
section
variable {B g bm t nn : Nat} {w w' : World} {D : DataW Value} {L : List Ent} {q fu : Int} {off : Bool}
theorem create_step {W : World} (h : Dsk B g bm t nn w D L q fu off) (hb : Below w.heap.size w W) {n : List UInt8} {f : Nat} (hn : mayNm n = true) (hp : pickE L n = none) (hlen : L.length < 512) (hf : w.heap.size ≤ f) (hF : FBlk W ⟨f, none, 0, [], 0⟩)
    (ho : w'.ownsMap Tryz.prog 9 idElem bm (nn + 1) (D.put (.string n) (.held (.pointer (some ⟨f, 0, none⟩))))) (hT : W.mapTurned w' bm) : StepD B g bm t L (putEd L (n, ⟨f, none, 0, [], 0⟩)) q fu off w w' := by
  have hW := h.later hb
  have hd := del_none (pick_none hp)
  have hD := hW.put (x := ⟨f, none, 0, [], 0⟩) hn hF (OwnB.nil _ _) (Nat.le_trans h.base.1 hf) (fun e he _ => ⟨fun h2 => by have := (h.fil e he).1.lt; simp only at h2; omega, fun k hk => by simp [Fl.v, Value.ownBlock] at hk⟩) (Nat.le_refl _) (by rw [hd]; simpa using h.tot) (by rw [hd]; omega) ho hT.grown
  refine ⟨_, _, hD.up (by omega), Chg.trans (Chg.below hb) (Chg.grown hT.grown (fun k hk => .inl (Option.some.inj hk).symm) : Chg (fun k => k = bm) W w') (fun i hi => .inl (.inr (.inl hi))), fun k hk => ?_⟩
  rcases hk with rfl | rfl | ⟨e, he, hk⟩
  · exact .inl (.inl rfl)
  · exact .inl (.inr (.inl rfl))
  · rcases mem_put.1 he with rfl | ⟨he, _⟩
    · rcases hk with rfl | hk
      · exact .inr hf
      · simp [Fl.v, Value.ownBlock] at hk
    · exact .inl (.inr (.inr ⟨e, he, hk⟩))
set_option maxHeartbeats 4000000 in
set_option maxRecDepth 100000 in
theorem create2_any (h : Dsk B g bm t nn w D L q fu off) (ht : t < 1099511627776) {n : List UInt8} (hn : mayNm n = true) (hp : pickE L n = none) (hlen : L.length < 512) {bn bd : Nat} (hk : Lk w bn bd g n) :
    Calls Tryz.prog 19 #[.pointer (some ⟨bd, 0, none⟩), .pointer (some ⟨bn, 0, none⟩)] w (fun e w' => e = .returned (.tuple #[]) ∧ ∃ f, StepD B g bm t L (putEd L (n, ⟨f, none, 0, [], 0⟩)) q fu off w w') := by
  have h0 := h.blk.cell 0 rfl
  have hl := h.blk.lt
  have c1 := hk.n.cell 0 rfl
  have c2 := hk.d.cell 0 rfl
  have l1 := hk.n.lt
  have l2 := hk.d.lt
  have hd := h.later (Below.refl _ w).drew
  have hkey := key_str (len_max hn).1
  have hnn : nn < maxLen := by have := h.nnt; unfold maxLen; omega
  have HX := Lib.hid hd
  have HK := Lib.hid hk
  have HN := Lib.hid hn
  have HP := Lib.hid hp
  have HL := Lib.hid hlen
  have HC := Lib.hid (fun W => sclone_any n (len_reach hn) W)
  unfold encStr at *
  clear h hk hd hn hp hlen
  go_enter Tryz.func19, Tryz.ntmps19
  go_wp2_with fail
  go_region_law (first
    | (go_simp; go_at_call 20; refine (HC.out w.drew).mono ?_; rintro e w2 ⟨rfl, b2⟩; have HB2 := Lib.hid b2; have hA := HX.out.later (then_ b2 (below_one w2 (.cells #[.slice none 0 0, .int .i64 0] 56))); have hown := hA.map; have g0 := (HX.out.later b2).blk.cell 0 rfl; have gl := (HX.out.later b2).blk.lt; have d1 := (HK.out.later (show Below w.heap.size w w2 from ⟨b2.os, b2.tape, b2.output, b2.size, b2.block⟩)).d.cell 0 rfl; have ld := (HK.out.later (show Below w.heap.size w w2 from ⟨b2.os, b2.tape, b2.output, b2.size, b2.block⟩)).d.lt; have hfB := Blk.new w2 56 #[.slice none 0 0, .int .i64 0]; have HW := Lib.hid (then_ b2 (below_one w2 (.cells #[.slice none 0 0, .int .i64 0] 56))); obtain ⟨w3, hrun, hown3, hT3⟩ := hown.store (Maps.string_keyed Tryz.underlying9) Tryz.underlying48 hnn hkey (val := .pointer (some ⟨w2.heap.size, 0, none⟩)) (d := .held (.pointer (some ⟨w2.heap.size, 0, none⟩))) (ps := []) rfl; have HS := Lib.hid (create_step HX.out HW.out HN.out HP.out HL.out (HB2.out.size) hfB hown3 hT3); clear hown3 hT3 hown; clear b2 hA)
    | (go_simp; go_at_call 20; refine (HC.out (w.drew.alloc (.cells #[.slice none 0 0, .int .i64 0] 56))).mono ?_; rintro e w2 ⟨rfl, b2⟩; have hA := HX.out.later (then_ (below_one w.drew (.cells #[.slice none 0 0, .int .i64 0] 56)) b2); have hown := hA.map; have g0 := hA.blk.cell 0 rfl; have gl := hA.blk.lt; have bw2 := then_ (below_one w.drew (.cells #[.slice none 0 0, .int .i64 0] 56)) b2; have d1 := (HK.out.later (show Below w.heap.size w w2 from ⟨bw2.os, bw2.tape, bw2.output, bw2.size, bw2.block⟩)).d.cell 0 rfl; have ld := (HK.out.later (show Below w.heap.size w w2 from ⟨bw2.os, bw2.tape, bw2.output, bw2.size, bw2.block⟩)).d.lt; have hfB := (Blk.new w.drew 56 #[.slice none 0 0, .int .i64 0]).later b2; have HW := Lib.hid bw2; obtain ⟨w3, hrun, hown3, hT3⟩ := hown.store (Maps.string_keyed Tryz.underlying9) Tryz.underlying48 hnn hkey (val := .pointer (some ⟨w.heap.size, 0, none⟩)) (d := .held (.pointer (some ⟨w.heap.size, 0, none⟩))) (ps := []) rfl; have HS := Lib.hid (create_step HX.out HW.out HN.out HP.out HL.out (Nat.le_refl _) hfB hown3 hT3); clear hown3 hT3 hown; clear b2 hA bw2))
  all_goals (
    go_wp2_with fail
    go_end0
    exact ⟨rfl, _, HS.out.drew⟩)
end
end Go.Proofs.YtmbfhmjcphoddaaGreatDoor.Gm
set_option linter.unusedSimpArgs false
set_option linter.unusedVariables false
namespace Go.Proofs.YtmbfhmjcphoddaaGreatDoor.Gm
open Go Go.RowKit Go.Maps
attribute [local go_sem ↓] Go.wp_at_zero Go.wp_at_succ

section
variable {B g bm t nn : Nat} {w w' : World} {D : DataW Value} {L : List Ent} {q fu : Int} {off : Bool}
theorem rename_step {w1 w2 : World} (h : Dsk B g bm t nn w D L q fu off) {n m : List UInt8} {x : Fl} (hm : (n, x) ∈ L) (hn : mayNm m = true)
    (ho1 : w1.ownsMap Tryz.prog 9 idElem bm nn (D.del (.string n))) (hT1 : w.mapTurned w1 bm) (hb : Below w1.heap.size w1 w2)
    (ho2 : w'.ownsMap Tryz.prog 9 idElem bm (nn + 1) ((D.del (.string n)).put (.string m) (.held (.pointer (some ⟨x.f, 0, none⟩))))) (hT2 : w2.mapTurned w' bm) : StepD B g bm t L (putEd (delE L n) (m, x)) q fu off w w' := by
  have hM := h.isM
  have h1 := (h.del hm ho1 hT1.grown).later hb
  have hx := h.fil _ hm
  have hxb := (turned_blk hT1.grown hM hx.1).later hb
  have hxo := (turned_own hT1.grown hM hx.2.1).below hb
  have hdl := del_len h.uniq hm
  have hsub : totE (delE (delE L n) m) + x.b.length ≤ 4194304 ∧ (delE (delE L n) m).length + 1 ≤ 512 := by
    have e1 : totE (delE (delE L n) m) ≤ totE (delE L n) := tot_part _ _
    have e2 : (delE (delE L n) m).length ≤ (delE L n).length := List.length_filter_le _ _
    have := h.tot
    have := h.len
    omega
  have h2 := h1.put (x := x) hn hxb hxo hx.2.2 (fun e he _ => h.apt _ hm e (mem_del.1 he).1 (fun h => (mem_del.1 he).2 h.symm)) (h.syn _ hm) hsub.1 hsub.2 ho2 hT2.grown
  refine ⟨_, _, h2.up (by omega), Chg.trans (Chg.trans (Chg.grown hT1.grown (fun k hk => .inl (.inr (.inl (Option.some.inj hk).symm)))) (Chg.below hb : Chg (fun _ => False) w1 w2) (fun i hi => hi.elim)) (Chg.grown hT2.grown (fun k hk => .inl (Option.some.inj hk).symm) : Chg (fun k => k = bm) w2 w') (fun i hi => .inl (.inr (.inl hi))), fun k hk => .inl ?_⟩
  rcases hk with rfl | rfl | ⟨e, he, hk⟩
  · exact .inl rfl
  · exact .inr (.inl rfl)
  · rcases mem_put.1 he with rfl | ⟨he, _⟩
    · exact .inr (.inr ⟨_, hm, hk⟩)
    · exact .inr (.inr ⟨e, (mem_del.1 he).1, hk⟩)
end
end Go.Proofs.YtmbfhmjcphoddaaGreatDoor.Gm
