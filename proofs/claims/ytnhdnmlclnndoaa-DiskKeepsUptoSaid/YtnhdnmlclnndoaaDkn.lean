/- Layer 10: what is done: Create. -/
import Derived.Test.YtnhdnmlclnndoaaDkm
set_option linter.unusedSimpArgs false
set_option linter.unusedVariables false
namespace Go.Proofs.Ytnhdnmlclnndoaa.Gm
open Go Go.RowKit Go.Maps
attribute [local go_sem ↓] Go.wp_at_zero Go.wp_at_succ

theorem sclone_any (n : List UInt8) (hn : n.length ≤ 140737488351232) (w : World) : Calls Try.prog 64 #[encStr n] w (Gives (encStr n) w) := by
  have HC := Lib.hid (fun W => Try.stringslite_Clone ⟨n.toArray⟩ W (by simp only [ByteArray.size, List.size_toArray]; omega))
  unfold encStr at *
  go_enter Try.func64, Try.ntmps64
  go_wp2_with fail
  refine (HC.out _).mono ?_; rintro e w1 ⟨rfl, b1⟩
  have HB := Lib.hid b1
  clear b1
  go_wp2_with fail
  go_ret
  exact ⟨rfl, HB.out⟩
section
variable {B g bm t nn : Nat} {w w' : World} {D : DataW Value} {L : List Ent} {q fu : Int} {off : Bool}
theorem create_step {W : World} (h : Dsk B g bm t nn w D L q fu off) (hb : Below w.heap.size w W) {n : List UInt8} {f : Nat} (hn : mayNm n = true) (hp : pickE L n = none) (hlen : L.length < 512) (hf : w.heap.size ≤ f) (hF : FBlk W ⟨f, none, 0, [], 0⟩)
    (ho : w'.ownsMap Try.prog 9 idElem bm (nn + 1) (D.put (.string n) (.held (.pointer (some ⟨f, 0, none⟩))))) (hT : W.mapTurned w' bm) : StepD B g bm t L (putE L (n, ⟨f, none, 0, [], 0⟩)) q fu off w w' := by
  have hW := h.later hb
  have hd := del_none (pick_none hp)
  have hD := hW.put (x := ⟨f, none, 0, [], 0⟩) hn hF (OwnB.nil _ _) (Nat.le_trans h.base.1 hf) (fun e he _ => ⟨fun h2 => by have := (h.fil e he).1.lt; simp only at h2; omega, fun k hk => by simp [Fl.v, Value.ownBlock] at hk⟩) (Nat.le_refl _) (by rw [hd]; simpa using h.tot) (by rw [hd]; omega) ho hT.grown
  refine ⟨_, _, hD.up (by omega), Chg.trans (Chg.below hb) (Chg.grown hT.grown (fun k hk => .inl (Option.some.inj hk).symm) : Chg (fun k => k = bm) W w') (fun i hi => .inl (.inr (.inl hi))), fun k hk => ?_⟩
  rcases hk with rfl | rfl | ⟨e, he, hk⟩
  · exact .inl (.inl rfl)
  · exact .inl (.inr (.inl rfl))
  · rcases mem_put.1 he with rfl | ⟨he, _⟩
    · rcases hk with rfl | hk
      · exact .inr hf
      · simp [Fl.v, Value.ownBlock] at hk
    · exact .inl (.inr (.inr ⟨e, he, hk⟩))
set_option maxHeartbeats 4000000 in
set_option maxRecDepth 100000 in
theorem create2_any (h : Dsk B g bm t nn w D L q fu off) (ht : t < 1099511627776) {n : List UInt8} (hn : mayNm n = true) (hp : pickE L n = none) (hlen : L.length < 512) {bn bd : Nat} (hk : Lk w bn bd g n) :
    Calls Try.prog 63 #[.pointer (some ⟨bd, 0, none⟩), .pointer (some ⟨bn, 0, none⟩)] w (fun e w' => e = .returned (.tuple #[]) ∧ ∃ f, StepD B g bm t L (putE L (n, ⟨f, none, 0, [], 0⟩)) q fu off w w') := by
  have h0 := h.blk.cell 0 rfl
  have hl := h.blk.lt
  have c1 := hk.n.cell 0 rfl
  have c2 := hk.d.cell 0 rfl
  have l1 := hk.n.lt
  have l2 := hk.d.lt
  have hd := h.later (Below.refl _ w).drew
  have hkey := key_str (len_max hn).1
  have hnn : nn < maxLen := by have := h.nnt; unfold maxLen; omega
  have HX := Lib.hid hd
  have HK := Lib.hid hk
  have HN := Lib.hid hn
  have HP := Lib.hid hp
  have HL := Lib.hid hlen
  have HC := Lib.hid (fun W => sclone_any n (len_reach hn) W)
  unfold encStr at *
  clear h hk hd hn hp hlen
  go_enter Try.func63, Try.ntmps63
  go_wp2_with fail
  go_region_law (first
    | (go_simp; go_at_call 64; refine (HC.out w.drew).mono ?_; rintro e w2 ⟨rfl, b2⟩; have HB2 := Lib.hid b2; have hA := HX.out.later (then_ b2 (below_one w2 (.cells #[.slice none 0 0, .int .i64 0] 82))); have hown := hA.map; have g0 := (HX.out.later b2).blk.cell 0 rfl; have gl := (HX.out.later b2).blk.lt; have d1 := (HK.out.later (show Below w.heap.size w w2 from ⟨b2.os, b2.tape, b2.output, b2.size, b2.block⟩)).d.cell 0 rfl; have ld := (HK.out.later (show Below w.heap.size w w2 from ⟨b2.os, b2.tape, b2.output, b2.size, b2.block⟩)).d.lt; have hfB := Blk.new w2 82 #[.slice none 0 0, .int .i64 0]; have HW := Lib.hid (then_ b2 (below_one w2 (.cells #[.slice none 0 0, .int .i64 0] 82))); obtain ⟨w3, hrun, hown3, hT3⟩ := hown.store (Maps.string_keyed Try.underlying9) Try.underlying63 hnn hkey (val := .pointer (some ⟨w2.heap.size, 0, none⟩)) (d := .held (.pointer (some ⟨w2.heap.size, 0, none⟩))) (ps := []) rfl; have HS := Lib.hid (create_step HX.out HW.out HN.out HP.out HL.out (HB2.out.size) hfB hown3 hT3); clear hown3 hT3 hown; clear b2 hA)
    | (go_simp; go_at_call 64; refine (HC.out (w.drew.alloc (.cells #[.slice none 0 0, .int .i64 0] 82))).mono ?_; rintro e w2 ⟨rfl, b2⟩; have hA := HX.out.later (then_ (below_one w.drew (.cells #[.slice none 0 0, .int .i64 0] 82)) b2); have hown := hA.map; have g0 := hA.blk.cell 0 rfl; have gl := hA.blk.lt; have bw2 := then_ (below_one w.drew (.cells #[.slice none 0 0, .int .i64 0] 82)) b2; have d1 := (HK.out.later (show Below w.heap.size w w2 from ⟨bw2.os, bw2.tape, bw2.output, bw2.size, bw2.block⟩)).d.cell 0 rfl; have ld := (HK.out.later (show Below w.heap.size w w2 from ⟨bw2.os, bw2.tape, bw2.output, bw2.size, bw2.block⟩)).d.lt; have hfB := (Blk.new w.drew 82 #[.slice none 0 0, .int .i64 0]).later b2; have HW := Lib.hid bw2; obtain ⟨w3, hrun, hown3, hT3⟩ := hown.store (Maps.string_keyed Try.underlying9) Try.underlying63 hnn hkey (val := .pointer (some ⟨w.heap.size, 0, none⟩)) (d := .held (.pointer (some ⟨w.heap.size, 0, none⟩))) (ps := []) rfl; have HS := Lib.hid (create_step HX.out HW.out HN.out HP.out HL.out (Nat.le_refl _) hfB hown3 hT3); clear hown3 hT3 hown; clear b2 hA bw2))
  all_goals (
    go_wp2_with fail
    go_end0
    exact ⟨rfl, _, HS.out.drew⟩)
end
end Go.Proofs.Ytnhdnmlclnndoaa.Gm
