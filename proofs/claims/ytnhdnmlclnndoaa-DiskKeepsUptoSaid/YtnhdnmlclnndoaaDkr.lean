/- Layer 10: what may be wrong: Truncate. -/
import Derived.Test.YtnhdnmlclnndoaaDkq
set_option linter.unusedSimpArgs false
set_option linter.unusedVariables false
namespace Go.Proofs.Ytnhdnmlclnndoaa.Gm
open Go Go.RowKit Go.Maps
attribute [local go_sem ↓] Go.wp_at_zero Go.wp_at_succ

/-- Is the size more than the file has? -/
def overE (L : List Ent) (n : List UInt8) (z : Int) : Bool := match pickE L n with
  | some x => decide ((x.b.length : Int) < z)
  | none => false
def truncB (L : List Ent) (n : List UInt8) (z : Int) (err : Int) : Bool := lackB L n err || (decide (err = 1) && (decide (z < 0) || overE L n z))
section
variable {B g bm t nn : Nat} {w : World} {D : DataW Value} {L : List Ent} {q fu : Int}
set_option maxHeartbeats 8000000 in
set_option maxRecDepth 100000 in
theorem trunc1_any {off : Bool} (h : Dsk B g bm t nn w D L q fu off) (n : List UInt8) (hn : n.length ≤ 140737488351232) (bl bn bd bd2 bn2 bz : Nat) (hk : Lk w bn bd g n) (hkl : Blk w bl 79 #[lackV bn bd]) (hkd : Lk w bn2 bd2 g n) (z : Int) (hkz : Blk w bz 3 #[.int .i64 z]) (err : Int) (he : err10 err) :
    Calls Try.prog 70 #[.int .i64 err, .pointer (some ⟨bl, 0, none⟩), .pointer (some ⟨bz, 0, none⟩), .pointer (some ⟨bd2, 0, none⟩), .pointer (some ⟨bn2, 0, none⟩)] w (Gives (.bool (truncB L n z err)) w) := by
  have HL := Lib.hid (fun W (hb : Below w.heap.size w W) => lacks1_any (h.later hb) n hn bn bd (hk.later hb) err he)
  have HH := Lib.hid (fun W (hb : Below w.heap.size w W) => has10 (h.later hb) n hn)
  have c1 := hkl.cell 0 rfl
  have HKd := Lib.hid hkd
  have HKz := Lib.hid hkz
  have HX := Lib.hid h
  unfold encStr at HH
  clear h hk hkl hkd hkz
  rcases he with rfl | rfl | rfl | rfl
  · cases hl : lackB L n 1 with
    | true =>
      have HV : Hid (truncB L n z 1 = true) := Lib.hid (by simp [truncB, hl])
      rw [hl] at HL
      clear hl
      go_enter Try.func70, Try.ntmps70
      go_wp2_with fail
      refine wp_region_later (by kernel_rfl) (by kernel_rfl) ?_
      have e1 := fun (z : Later w) => Later.cell c1 z
      repeat (first | go_big_quiet_skip | (quiet_step ((first | (go_at_call 77; with_reducible exact later_call _ (HL.out _ (Later.bel _)))))))
      refine wpQuiet_nil ?_
      intro wz hw'
      obtain ⟨⟨_, hb⟩, rfl⟩ := hw'
      have HB := Lib.hid hb
      clear hb
      go_wp2_with fail
      go_ret
      exact ⟨ret_bool (by rw [HV.out]), HB.out⟩
    | false =>
      by_cases hz : z < 0
      · have HV : Hid (truncB L n z 1 = true) := Lib.hid (by simp [truncB, hl, hz])
        rw [hl] at HL
        clear hl
        have c2 := HKz.out.cell 0 rfl
        go_enter Try.func70, Try.ntmps70
        go_wp2_with fail
        refine wp_region_later (by kernel_rfl) (by kernel_rfl) ?_
        have e1 := fun (z : Later w) => Later.cell c1 z
        have e2 := fun (z : Later w) => Later.cell c2 z
        repeat (first | go_big_quiet_skip | (quiet_step ((first | (go_at_call 77; with_reducible exact later_call _ (HL.out _ (Later.bel _)))))))
        refine wpQuiet_nil ?_
        intro wz hw'
        obtain ⟨⟨_, hb⟩, rfl⟩ := hw'
        have HB := Lib.hid hb
        clear hb
        go_wp2_with fail
        go_ret
        exact ⟨ret_bool (by rw [HV.out]), HB.out⟩
      · cases hp : pickE L n with
        | none =>
          have hps : (pickE L n).isSome = false := by rw [hp]; rfl
          rw [hps] at HH
          have HV : Hid (truncB L n z 1 = false) := Lib.hid (by unfold truncB overE; rw [hl, hp]; simp only [decide_eq_false hz, Bool.false_or, decide_true, Bool.true_and])
          rw [hl] at HL
          clear hl
          have c2 := HKz.out.cell 0 rfl
          have c3 := HKd.out.d.cell 0 rfl
          have c4 := HKd.out.n.cell 0 rfl
          unfold encStr at c4
          go_enter Try.func70, Try.ntmps70
          go_wp2_with fail
          refine wp_region_later (by kernel_rfl) (by kernel_rfl) ?_
          have e1 := fun (z : Later w) => Later.cell c1 z
          have e2 := fun (z : Later w) => Later.cell c2 z
          have e3 := fun (z : Later w) => Later.cell c3 z
          have e4 := fun (z : Later w) => Later.cell c4 z
          repeat (first | go_big_quiet_skip | (quiet_step ((first | (go_at_call 77; with_reducible exact later_call _ (HL.out _ (Later.bel _))) | (go_at_call 53; with_reducible exact later_call _ (HH.out _ (Later.bel _)))))))
          refine wpQuiet_nil ?_
          intro wz hw'
          obtain ⟨⟨_, hb⟩, rfl⟩ := hw'
          have HB := Lib.hid hb
          clear hb
          go_wp2_with fail
          go_ret
          exact ⟨ret_bool (by rw [HV.out]; exact decide_eq_false (by omega)), HB.out⟩
        | some x =>
          have hps : (pickE L n).isSome = true := by rw [hp]; rfl
          rw [hps] at HH
          have hlk := fun (z : Later w) => (HX.out.later z.bel).look n (by unfold maxLen; omega)
          unfold fileV encStr at hlk
          rw [hp] at hlk
          have hfil := (HX.out.fil _ (pick_mem hp)).1
          obtain ⟨xf, xp, xc, xb, xs⟩ := x
          simp only [Fl.v] at hfil
          obtain ⟨m, hml⟩ : ∃ m, xb.length = m := ⟨_, rfl⟩
          rw [hml] at hfil
          have HV : Hid (truncB L n z 1 = decide ((m : Int) < z)) := Lib.hid (by unfold truncB overE; rw [hl, hp]; simp only [decide_eq_false hz, hml, Bool.false_or, decide_true, Bool.true_and])
          rw [hl] at HL
          clear hl
          have c2 := HKz.out.cell 0 rfl
          have c3 := HKd.out.d.cell 0 rfl
          have c4 := HKd.out.n.cell 0 rfl
          unfold encStr at c4
          have c5 := HX.out.blk.cell 0 rfl
          have c6 := hfil.cell 0 rfl
          clear hp hfil hml
          go_enter Try.func70, Try.ntmps70
          go_wp2_with fail
          refine wp_region_later (by kernel_rfl) (by kernel_rfl) ?_
          have e1 := fun (z : Later w) => Later.cell c1 z
          have e2 := fun (z : Later w) => Later.cell c2 z
          have e3 := fun (z : Later w) => Later.cell c3 z
          have e4 := fun (z : Later w) => Later.cell c4 z
          have e5 := fun (z : Later w) => Later.cell c5 z
          have e6 := fun (z : Later w) => Later.cell c6 z
          repeat (first | go_big_quiet_skip | (quiet_step ((first | (go_at_call 77; with_reducible exact later_call _ (HL.out _ (Later.bel _))) | (go_at_call 53; with_reducible exact later_call _ (HH.out _ (Later.bel _)))))))
          refine wpQuiet_nil ?_
          intro wz hw'
          obtain ⟨⟨_, hb⟩, rfl⟩ := hw'
          have HB := Lib.hid hb
          clear hb
          go_wp2_with fail
          go_ret
          exact ⟨ret_bool (by rw [HV.out, decide_eq_false (show ¬ z < 0 by omega), Bool.false_or]), HB.out⟩
  · cases hl : lackB L n 6 with
    | true =>
      have HV : Hid (truncB L n z 6 = true) := Lib.hid (by simp [truncB, hl])
      rw [hl] at HL
      clear hl
      go_enter Try.func70, Try.ntmps70
      go_wp2_with fail
      refine wp_region_later (by kernel_rfl) (by kernel_rfl) ?_
      have e1 := fun (z : Later w) => Later.cell c1 z
      repeat (first | go_big_quiet_skip | (quiet_step ((first | (go_at_call 77; with_reducible exact later_call _ (HL.out _ (Later.bel _)))))))
      refine wpQuiet_nil ?_
      intro wz hw'
      obtain ⟨⟨_, hb⟩, rfl⟩ := hw'
      have HB := Lib.hid hb
      clear hb
      go_wp2_with fail
      go_ret
      exact ⟨ret_bool (by rw [HV.out]), HB.out⟩
    | false =>
      have HV : Hid (truncB L n z 6 = false) := Lib.hid (by simp [truncB, hl])
      rw [hl] at HL
      clear hl
      go_enter Try.func70, Try.ntmps70
      go_wp2_with fail
      refine wp_region_later (by kernel_rfl) (by kernel_rfl) ?_
      have e1 := fun (z : Later w) => Later.cell c1 z
      repeat (first | go_big_quiet_skip | (quiet_step ((first | (go_at_call 77; with_reducible exact later_call _ (HL.out _ (Later.bel _)))))))
      refine wpQuiet_nil ?_
      intro wz hw'
      obtain ⟨⟨_, hb⟩, rfl⟩ := hw'
      have HB := Lib.hid hb
      clear hb
      go_wp2_with fail
      go_ret
      exact ⟨ret_bool (by rw [HV.out]), HB.out⟩
  · cases hl : lackB L n 9 with
    | true =>
      have HV : Hid (truncB L n z 9 = true) := Lib.hid (by simp [truncB, hl])
      rw [hl] at HL
      clear hl
      go_enter Try.func70, Try.ntmps70
      go_wp2_with fail
      refine wp_region_later (by kernel_rfl) (by kernel_rfl) ?_
      have e1 := fun (z : Later w) => Later.cell c1 z
      repeat (first | go_big_quiet_skip | (quiet_step ((first | (go_at_call 77; with_reducible exact later_call _ (HL.out _ (Later.bel _)))))))
      refine wpQuiet_nil ?_
      intro wz hw'
      obtain ⟨⟨_, hb⟩, rfl⟩ := hw'
      have HB := Lib.hid hb
      clear hb
      go_wp2_with fail
      go_ret
      exact ⟨ret_bool (by rw [HV.out]), HB.out⟩
    | false =>
      have HV : Hid (truncB L n z 9 = false) := Lib.hid (by simp [truncB, hl])
      rw [hl] at HL
      clear hl
      go_enter Try.func70, Try.ntmps70
      go_wp2_with fail
      refine wp_region_later (by kernel_rfl) (by kernel_rfl) ?_
      have e1 := fun (z : Later w) => Later.cell c1 z
      repeat (first | go_big_quiet_skip | (quiet_step ((first | (go_at_call 77; with_reducible exact later_call _ (HL.out _ (Later.bel _)))))))
      refine wpQuiet_nil ?_
      intro wz hw'
      obtain ⟨⟨_, hb⟩, rfl⟩ := hw'
      have HB := Lib.hid hb
      clear hb
      go_wp2_with fail
      go_ret
      exact ⟨ret_bool (by rw [HV.out]), HB.out⟩
  · cases hl : lackB L n 7 with
    | true =>
      have HV : Hid (truncB L n z 7 = true) := Lib.hid (by simp [truncB, hl])
      rw [hl] at HL
      clear hl
      go_enter Try.func70, Try.ntmps70
      go_wp2_with fail
      refine wp_region_later (by kernel_rfl) (by kernel_rfl) ?_
      have e1 := fun (z : Later w) => Later.cell c1 z
      repeat (first | go_big_quiet_skip | (quiet_step ((first | (go_at_call 77; with_reducible exact later_call _ (HL.out _ (Later.bel _)))))))
      refine wpQuiet_nil ?_
      intro wz hw'
      obtain ⟨⟨_, hb⟩, rfl⟩ := hw'
      have HB := Lib.hid hb
      clear hb
      go_wp2_with fail
      go_ret
      exact ⟨ret_bool (by rw [HV.out]), HB.out⟩
    | false =>
      have HV : Hid (truncB L n z 7 = false) := Lib.hid (by simp [truncB, hl])
      rw [hl] at HL
      clear hl
      go_enter Try.func70, Try.ntmps70
      go_wp2_with fail
      refine wp_region_later (by kernel_rfl) (by kernel_rfl) ?_
      have e1 := fun (z : Later w) => Later.cell c1 z
      repeat (first | go_big_quiet_skip | (quiet_step ((first | (go_at_call 77; with_reducible exact later_call _ (HL.out _ (Later.bel _)))))))
      refine wpQuiet_nil ?_
      intro wz hw'
      obtain ⟨⟨_, hb⟩, rfl⟩ := hw'
      have HB := Lib.hid hb
      clear hb
      go_wp2_with fail
      go_ret
      exact ⟨ret_bool (by rw [HV.out]), HB.out⟩
end
end Go.Proofs.Ytnhdnmlclnndoaa.Gm
