/- Layer 10: what is done: Sync, Remove, Create. -/
import Derived.Test.YtnhdnmlclnndoaaDkk
set_option linter.unusedSimpArgs false
set_option linter.unusedVariables false
namespace Go.Proofs.Ytnhdnmlclnndoaa.Gm
open Go Go.RowKit Go.Maps
attribute [local go_sem ↓] Go.wp_at_zero Go.wp_at_succ

section
variable {P : Program}
theorem step_delete_in {w : World} {ops : Array Oper} {o : Oper} {a : Act} {K : Act → World → Prop} {Q : Exit → Act → World → Prop} {E : Prop} (hg : o.guard = none) (m x : Operand) (t k : TypeId) (hop : o.op = Op.call { callee := Callee.builtin Builtin.delete, args := #[m, x], argTypes := #[t, k] })
    (e : TypeId) (L : Keyed P k) (ht : P.underlying t = some (.map k e)) (R : Value → Option (DataW Value × List MemPlace)) (b n : Nat) (D : DataW Value)
    (hm : a.eval m = .map (some b)) (hown : w.ownsMap P k R b n D) (key : Value) (kl : Lit) (hx : a.eval x = key) (hkey : keyOf P k key = some kl)
    (hK : ∀ w', w'.ownsMap P k R b n (D.del kl) → w.mapTurned w' b → K (a.put o.dst (.tuple #[])) w') :
    if Region.wanted o (yielded ops a.tmps) = true then Oper.wp P o a w K Q else E := by
  have hw : Region.wanted o (yielded ops a.tmps) = true := by simp [Region.wanted, hg]
  rw [if_pos hw]
  obtain ⟨w', hrun, r1, r2⟩ := hown.drop L ht hkey o.type
  unfold Oper.wp
  simp [execOp, hop, resolve, invoke, builtin, hm, hx, hrun, Result.andThen]
  exact hK w' r1 r2
end
section
variable {B g bm t nn : Nat} {w w' : World} {D : DataW Value} {L : List Ent} {q fu : Int} {off : Bool}
theorem StepD.drew {L' : List Ent} (h : StepD B g bm t L L' q fu off w.drew w') : StepD B g bm t L L' q fu off w w' := h
theorem len_reach {n : List UInt8} (h : mayNm n = true) : n.length ≤ 140737488351232 := by have := (len_max h).2; omega
theorem sync_step (h : Dsk B g bm t nn w D L q fu off) {n : List UInt8} {x : Fl} (hm : (n, x) ∈ L) (hb : FBlk w' { x with s := x.b.length }) (hO : Only [x.f] w w') : StepD B g bm t L (updE L n { x with s := x.b.length }) q fu off w w' := by
  have hx := h.fil _ hm
  have hC : Chg (fun k => k = x.f ∨ x.v.ownBlock = some k) w w' := Chg.only hO (fun k hk => .inl (List.mem_singleton.1 hk))
  have ht := upd_tot h.uniq hm (y := { x with s := x.b.length })
  have hD := h.upd hm (y := { x with s := x.b.length }) rfl hb (own_only10 (t := 0) hx.2.1 hO (fun k hk => by rw [List.mem_singleton.1 hk]; exact blk_not hx.1 (by decide))) hC (fun k hk => .inl hk) (Nat.le_refl _) (by have := h.tot; simp only at ht; omega)
  refine ⟨nn, D, hD.up (by omega), ⟨hC.1, hC.2.1, hC.2.2.1, hC.2.2.2.1, fun k hk hn => hC.2.2.2.2 k hk (fun hh => hn (.inr (.inr ⟨_, hm, hh⟩)))⟩, fun k hk => .inl ?_⟩
  rcases hk with rfl | rfl | ⟨e, he, hk⟩
  · exact .inl rfl
  · exact .inr (.inl rfl)
  · rcases mem_upd he with rfl | ⟨he, _⟩
    · exact .inr (.inr ⟨_, hm, hk⟩)
    · exact .inr (.inr ⟨e, he, hk⟩)
set_option maxHeartbeats 2000000 in
set_option maxRecDepth 100000 in
theorem sync1_any (h : Dsk B g bm t nn w D L q fu off) {n : List UInt8} {x : Fl} (hm : (n, x) ∈ L) {bn bd : Nat} (hk : Lk w bn bd g n) :
    Calls Try.prog 67 #[.pointer (some ⟨bd, 0, none⟩), .pointer (some ⟨bn, 0, none⟩)] w (fun e w' => e = .returned (.tuple #[]) ∧ StepD B g bm t L (updE L n { x with s := x.b.length }) q fu off w w') := by
  have h0 := h.blk.cell 0 rfl
  have hl := h.blk.lt
  have c1 := hk.n.cell 0 rfl
  have c2 := hk.d.cell 0 rfl
  have l1 := hk.n.lt
  have l2 := hk.d.lt
  have hd := h.later (Below.refl _ w).drew
  have hlk := hd.look n (len_max (h.may _ hm)).1
  unfold fileV at hlk
  rw [pick_of h.uniq hm] at hlk
  have HS := Lib.hid (fsync_any x w.drew (hd.fil _ hm).1)
  have HX := Lib.hid hd
  have HM := Lib.hid hm
  unfold encStr at *
  clear h hk hd hm
  go_enter Try.func67, Try.ntmps67
  go_wp2_with fail
  go_region_law (first
    | (go_simp; go_at_call 59; refine HS.out.mono ?_; rintro e w2 ⟨rfl, hb2, hO2⟩; have HB2 := Lib.hid hb2; have HO2 := Lib.hid hO2; clear hb2 hO2))
  all_goals (
    go_wp2_with fail
    go_end0
    exact ⟨rfl, (sync_step HX.out HM.out HB2.out HO2.out).drew⟩)
theorem del_step (h : Dsk B g bm t nn w D L q fu off) {n : List UInt8} {x : Fl} (hm : (n, x) ∈ L) (ho : w'.ownsMap Try.prog 9 idElem bm nn (D.del (.string n))) (hT : w.mapTurned w' bm) : StepD B g bm t L (delE L n) q fu off w w' := by
  refine ⟨nn, _, (h.del hm ho hT.grown).up (by omega), Chg.grown hT.grown (fun k hk => .inl (.inr (.inl (Option.some.inj hk).symm))), fun k hk => .inl ?_⟩
  rcases hk with rfl | rfl | ⟨e, he, hk⟩
  · exact .inl rfl
  · exact .inr (.inl rfl)
  · exact .inr (.inr ⟨e, (mem_del.1 he).1, hk⟩)
set_option maxHeartbeats 2000000 in
set_option maxRecDepth 100000 in
theorem remove1_any (h : Dsk B g bm t nn w D L q fu off) {n : List UInt8} {x : Fl} (hm : (n, x) ∈ L) {bn bd : Nat} (hk : Lk w bn bd g n) :
    Calls Try.prog 72 #[.pointer (some ⟨bd, 0, none⟩), .pointer (some ⟨bn, 0, none⟩)] w (fun e w' => e = .returned (.tuple #[]) ∧ StepD B g bm t L (delE L n) q fu off w w') := by
  have h0 := h.blk.cell 0 rfl
  have hl := h.blk.lt
  have c1 := hk.n.cell 0 rfl
  have c2 := hk.d.cell 0 rfl
  have l1 := hk.n.lt
  have l2 := hk.d.lt
  have hd := h.later (Below.refl _ w).drew
  have hown := hd.map
  have hkey := key_str (len_max (h.may _ hm)).1
  have HX := Lib.hid hd
  have HM := Lib.hid hm
  unfold encStr at *
  clear h hk hd hm
  go_enter Try.func72, Try.ntmps72
  go_wp2_with fail
  go_region_law (first
    | (refine step_delete_in rfl (.tmp 5) (.tmp 6) 63 9 rfl 83 (Maps.string_keyed Try.underlying9) Try.underlying63 idElem bm nn D (by go_simp) hown _ (.string n) (by go_simp) hkey ?_; intro w2 hown2 hT2; have HO2 := Lib.hid hown2; have HT2 := Lib.hid hT2; clear hown2 hT2))
  all_goals (
    go_wp2_with fail
    go_end0
    exact ⟨rfl, (del_step HX.out HM.out HO2.out HT2.out).drew⟩)
end
end Go.Proofs.Ytnhdnmlclnndoaa.Gm
