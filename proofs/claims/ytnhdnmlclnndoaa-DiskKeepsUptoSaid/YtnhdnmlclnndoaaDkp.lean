/- Layer 10: what is done: Rename. -/
import Derived.Test.YtnhdnmlclnndoaaDkn
import Derived.Test.YtnhdnmlclnndoaaDko
set_option linter.unusedSimpArgs false
set_option linter.unusedVariables false
namespace Go.Proofs.Ytnhdnmlclnndoaa.Gm
open Go Go.RowKit Go.Maps
attribute [local go_sem ↓] Go.wp_at_zero Go.wp_at_succ

section
variable {B g bm t nn : Nat} {w w' : World} {D : DataW Value} {L : List Ent} {q fu : Int} {off : Bool}
theorem rename_step {w1 w2 : World} (h : Dsk B g bm t nn w D L q fu off) {n m : List UInt8} {x : Fl} (hm : (n, x) ∈ L) (hn : mayNm m = true)
    (ho1 : w1.ownsMap Try.prog 9 idElem bm nn (D.del (.string n))) (hT1 : w.mapTurned w1 bm) (hb : Below w1.heap.size w1 w2)
    (ho2 : w'.ownsMap Try.prog 9 idElem bm (nn + 1) ((D.del (.string n)).put (.string m) (.held (.pointer (some ⟨x.f, 0, none⟩))))) (hT2 : w2.mapTurned w' bm) : StepD B g bm t L (putE (delE L n) (m, x)) q fu off w w' := by
  have hM := h.isM
  have h1 := (h.del hm ho1 hT1.grown).later hb
  have hx := h.fil _ hm
  have hxb := (turned_blk hT1.grown hM hx.1).later hb
  have hxo := (turned_own hT1.grown hM hx.2.1).below hb
  have hdl := del_len h.uniq hm
  have hsub : totE (delE (delE L n) m) + x.b.length ≤ 4194304 ∧ (delE (delE L n) m).length + 1 ≤ 512 := by
    have e1 : totE (delE (delE L n) m) ≤ totE (delE L n) := tot_part _ _
    have e2 : (delE (delE L n) m).length ≤ (delE L n).length := List.length_filter_le _ _
    have := h.tot
    have := h.len
    omega
  have h2 := h1.put (x := x) hn hxb hxo hx.2.2 (fun e he _ => h.apt _ hm e (mem_del.1 he).1 (fun h => (mem_del.1 he).2 h.symm)) (h.syn _ hm) hsub.1 hsub.2 ho2 hT2.grown
  refine ⟨_, _, h2.up (by omega), Chg.trans (Chg.trans (Chg.grown hT1.grown (fun k hk => .inl (.inr (.inl (Option.some.inj hk).symm)))) (Chg.below hb : Chg (fun _ => False) w1 w2) (fun i hi => hi.elim)) (Chg.grown hT2.grown (fun k hk => .inl (Option.some.inj hk).symm) : Chg (fun k => k = bm) w2 w') (fun i hi => .inl (.inr (.inl hi))), fun k hk => .inl ?_⟩
  rcases hk with rfl | rfl | ⟨e, he, hk⟩
  · exact .inl rfl
  · exact .inr (.inl rfl)
  · rcases mem_put.1 he with rfl | ⟨he, _⟩
    · exact .inr (.inr ⟨_, hm, hk⟩)
    · exact .inr (.inr ⟨e, (mem_del.1 he).1, hk⟩)
set_option maxHeartbeats 4000000 in
set_option maxRecDepth 100000 in
theorem rename2_any (h : Dsk B g bm t nn w D L q fu off) (ht : t < 1099511627776) {n m : List UInt8} {x : Fl} (hm : (n, x) ∈ L) (hn : mayNm m = true) {bn bd bb : Nat} (hk : Lk w bn bd g n) (hkb : Blk w bb 9 #[encStr m]) :
    Calls Try.prog 69 #[.pointer (some ⟨bd, 0, none⟩), .pointer (some ⟨bn, 0, none⟩), .pointer (some ⟨bb, 0, none⟩)] w (fun e w' => e = .returned (.tuple #[]) ∧ StepD B g bm t L (putE (delE L n) (m, x)) q fu off w w') := by
  have h0 := h.blk.cell 0 rfl
  have hl := h.blk.lt
  have c1 := hk.n.cell 0 rfl
  have c2 := hk.d.cell 0 rfl
  have l1 := hk.n.lt
  have l2 := hk.d.lt
  have hd := h.later (Below.refl _ w).drew
  have hlk := hd.look n (len_max (h.may _ hm)).1
  unfold fileV at hlk
  rw [pick_of h.uniq hm] at hlk
  have hkey := key_str (len_max (h.may _ hm)).1
  have hkey2 := key_str (len_max hn).1
  have hnn : nn < maxLen := by have := h.nnt; unfold maxLen; omega
  have HX := Lib.hid h
  have HM := Lib.hid hm
  have HN := Lib.hid hn
  have HK := Lib.hid hk
  have HKb := Lib.hid hkb
  have HC := Lib.hid (fun W => sclone_any m (len_reach hn) W)
  unfold encStr at *
  clear h hk hd hm hkb hn
  go_enter Try.func69, Try.ntmps69
  go_wp2_with fail
  go_region
  go_wp2_with fail
  obtain ⟨wd, hwd⟩ : ∃ wd, w.drew = wd := ⟨_, rfl⟩
  have bwd : Below w.heap.size w wd := by rw [← hwd]; exact (Below.refl _ w).drew
  rw [hwd]
  clear hwd hlk h0 c1 c2 l1 l2 hl
  have HBw := Lib.hid bwd
  have HXd := Lib.hid ((HX.out.later bwd).later (Below.refl _ wd).drew)
  have h0 := (HX.out.later bwd).blk.cell 0 rfl
  have hl := (HX.out.later bwd).blk.lt
  have c1 := (HK.out.later bwd).n.cell 0 rfl
  have c2 := (HK.out.later bwd).d.cell 0 rfl
  have l1 := (HK.out.later bwd).n.lt
  have l2 := (HK.out.later bwd).d.lt
  have hown := HXd.out.map
  clear bwd
  go_cut [] from 10 to 14 (fun wq => ∃ w1, Hid (w1.ownsMap Try.prog 9 idElem bm nn (D.del (.string n)) ∧ wd.drew.mapTurned w1 bm) ∧ wq = w1)
  case first =>
    go_region_law (first
      | (refine step_delete_in rfl (.tmp 13) (.tmp 14) 63 9 rfl 83 (Maps.string_keyed Try.underlying9) Try.underlying63 idElem bm nn D (by go_simp) hown _ (.string n) (by go_simp) hkey ?_; intro w2 hown2 hT2; have HO2 := Lib.hid (And.intro hown2 hT2); clear hown2 hT2))
    all_goals (
      go_wp2_with fail
      go_meet
      exact ⟨w2, HO2, rfl⟩)
  case rest =>
    obtain ⟨w1, HO1, rfl⟩ := hcut
    clear h0 hl c1 c2 l1 l2 hown
    have hTg := HO1.out.2.grown
    have hDel := HXd.out.del HM.out HO1.out.1 hTg
    have hM := HXd.out.isM
    have hKd := turned_blk hTg hM (((HK.out.later HBw.out).later (Below.refl _ wd).drew).d)
    have hKb := turned_blk hTg hM ((HKb.out.later HBw.out).later (Below.refl _ wd).drew)
    have h0 := hDel.blk.cell 0 rfl
    have hl := hDel.blk.lt
    have c2 := hKd.cell 0 rfl
    have l2 := hKd.lt
    have c3 := hKb.cell 0 rfl
    have l3 := hKb.lt
    have HDel := Lib.hid hDel
    have HKd := Lib.hid hKd
    clear hTg hM hKd hKb hDel
    go_wp2_with fail
    go_region_law (first
      | (go_simp; go_at_call 64; refine (HC.out wc.drew).mono ?_; rintro e w3 ⟨rfl, b3'⟩; have b3 : Below wc.heap.size wc w3 := ⟨b3'.os, b3'.tape, b3'.output, b3'.size, b3'.block⟩; have hD3 := HDel.out.later b3; have hown3 := hD3.map; have g0 := hD3.blk.cell 0 rfl; have gl := hD3.blk.lt; have d1 := (HKd.out.later b3).cell 0 rfl; have ld := (HKd.out.later b3).lt; obtain ⟨w4, hrun, hown4, hT4⟩ := hown3.store (Maps.string_keyed Try.underlying9) Try.underlying63 hnn hkey2 (val := .pointer (some ⟨x.f, 0, none⟩)) (d := .held (.pointer (some ⟨x.f, 0, none⟩))) (ps := []) rfl; have HS := Lib.hid (rename_step HXd.out HM.out HN.out HO1.out.1 HO1.out.2 b3 hown4 hT4); clear b3 b3' hD3 hown3 hown4 hT4))
    all_goals (
      go_wp2_with fail
      go_end0
      exact ⟨rfl, HS.out.later HBw.out⟩)
end
end Go.Proofs.Ytnhdnmlclnndoaa.Gm
