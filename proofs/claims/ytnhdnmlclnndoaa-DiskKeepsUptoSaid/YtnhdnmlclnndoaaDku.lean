/- Layer 10: Off, Quota, Loose; what is unsettled about one name. -/
import Derived.Test.YtnhdnmlclnndoaaDki
set_option linter.unusedSimpArgs false
set_option linter.unusedVariables false
namespace Go.Proofs.Ytnhdnmlclnndoaa.Gm
open Go Go.RowKit Go.Maps
attribute [local go_sem ↓] Go.wp_at_zero Go.wp_at_succ

theorem Off_none (w : World) : Calls Try.prog 26 #[.pointer none] w (Gives (.bool false) w) := by
  go_enter Try.func26, Try.ntmps26
  go_wp2
  go_ret
  exact ⟨rfl, Below.refl _ _⟩
set_option maxHeartbeats 1000000 in
set_option maxRecDepth 100000 in
theorem Off_yes (g bm : Nat) (q fu : Int) (off : Bool) (w : World) (h : Blk w g 65 #[.map (some bm), .int .i64 q, .int .i64 fu, .bool off]) : Calls Try.prog 26 #[.pointer (some ⟨g, 0, none⟩)] w (Gives (.bool off) w) := by
  have h3 := h.cell 3 rfl
  have hl := h.lt
  clear h
  go_enter Try.func26, Try.ntmps26
  go_wp2
  go_ret
  exact ⟨rfl, Below.refl _ _⟩
theorem Quota_none (z : Int) (w : World) : Calls Try.prog 35 #[.pointer none, .int .i64 z] w (Gives (.int .i64 2) w) := by
  have HM := Lib.hid (fun W => dmade_none W)
  go_enter Try.func35, Try.ntmps35
  go_wp2_with fail
  refine (HM.out _).mono ?_; rintro e w1 ⟨rfl, b1⟩
  have HB := Lib.hid b1
  clear b1
  go_wp2_with fail
  go_ret
  exact ⟨rfl, HB.out⟩
/-- What Quota leaves. -/
def QuotaQ (g bm : Nat) (z fu : Int) (off : Bool) (w : World) (e : Ending) (w' : World) : Prop :=
  (¬ (0 ≤ z ∧ z ≤ 4194304) ∧ e = .returned (.int .i64 1) ∧ Below w.heap.size w w') ∨ ((0 ≤ z ∧ z ≤ 4194304) ∧ e = .returned (.int .i64 0) ∧ Only [g] w w' ∧ Blk w' g 65 #[.map (some bm), .int .i64 z, .int .i64 fu, .bool off])
set_option maxHeartbeats 1000000 in
set_option maxRecDepth 100000 in
theorem Quota_yes (g bm : Nat) (q fu z : Int) (off : Bool) (w : World) (h : Blk w g 65 #[.map (some bm), .int .i64 q, .int .i64 fu, .bool off]) : Calls Try.prog 35 #[.pointer (some ⟨g, 0, none⟩), .int .i64 z] w (QuotaQ g bm z fu off w) := by
  have HM := Lib.hid (dmade_yes g bm q fu off w h)
  have HH := Lib.hid h
  have HQ := Lib.hid (fun W => mayquota_any z W)
  clear h
  go_enter Try.func35, Try.ntmps35
  go_wp2_with fail
  refine HM.out.mono ?_; rintro e w1 ⟨rfl, b1⟩
  have HB := Lib.hid b1
  clear b1
  go_wp2_with fail
  refine (HQ.out _).mono ?_; rintro e w2 ⟨rfl, b2⟩
  have HB2 := Lib.hid (then_ HB.out b2)
  clear b2 HB HM HQ
  cases hz : decide (0 ≤ z ∧ z ≤ 4194304) with
  | false =>
    have HZ := Lib.hid (of_decide_eq_false hz)
    clear hz
    go_wp2_with fail
    go_ret
    exact .inl ⟨HZ.out, rfl, HB2.out⟩
  | true =>
    have HZ := Lib.hid (of_decide_eq_true hz)
    clear hz
    have h1 := (HH.out.later HB2.out).cell 1 rfl
    have hl := (HH.out.later HB2.out).lt
    have hf := (HH.out.later HB2.out).free 1
    have HS := Lib.hid (setCell_block (HH.out.later HB2.out) (o := 1) (by simp) (.int .i64 z))
    have HO : Hid (Only [g] w2 (w2.setCell ⟨g, 1, none⟩ (.int .i64 z))) := Lib.hid (only_set10 (only_refl10 _ _))
    go_wp2_with fail
    go_ret
    have hb := HB2.out
    exact .inr ⟨HZ.out, rfl, ⟨HO.out.1.trans hb.os, HO.out.2.1.trans hb.tape, HO.out.2.2.1.trans hb.output, Nat.le_trans hb.size HO.out.2.2.2.1, fun k hk hn => (HO.out.2.2.2.2 k (Nat.lt_of_lt_of_le hk hb.size) hn).trans (hb.block k hk)⟩, HS.out⟩
theorem Loose_none (n : Value) (w : World) : Calls Try.prog 15 #[.pointer none, n] w (Gives (.int .i64 0) w) := by
  have HM := Lib.hid (fun W => don_none W)
  go_enter Try.func15, Try.ntmps15
  go_wp2_with fail
  refine (HM.out _).mono ?_; rintro e w1 ⟨rfl, b1⟩
  have HB := Lib.hid b1
  clear b1
  go_wp2_with fail
  go_ret
  exact ⟨rfl, HB.out⟩
/-- How many bytes of a file are loose. -/
def looseE (L : List Ent) (n : List UInt8) : Nat := match pickE L n with
  | some x => x.b.length - x.s
  | none => 0
section
variable {B g bm t nn : Nat} {w : World} {D : DataW Value} {L : List Ent} {q fu : Int} {off : Bool}
theorem Loose_off (h : Dsk B g bm t nn w D L q fu true) (n : Value) : Calls Try.prog 15 #[.pointer (some ⟨g, 0, none⟩), n] w (Gives (.int .i64 0) w) := by
  have HM := Lib.hid (don_yes g bm q fu true w h.blk)
  clear h
  go_enter Try.func15, Try.ntmps15
  go_wp2_with fail
  refine HM.out.mono ?_; rintro e w1 ⟨rfl, b1⟩
  have HB := Lib.hid b1
  clear b1
  go_wp2_with fail
  go_ret
  exact ⟨rfl, HB.out⟩
theorem len_tot10 (h : Dsk B g bm t nn w D L q fu off) {e : Ent} (he : e ∈ L) : e.2.b.length ≤ 4194304 := Nat.le_trans (len_le_tot he) h.tot
set_option maxHeartbeats 1000000 in
set_option maxRecDepth 100000 in
theorem Loose_on (h : Dsk B g bm t nn w D L q fu false) (n : List UInt8) (hn : n.length ≤ 140737488351232) : Calls Try.prog 15 #[.pointer (some ⟨g, 0, none⟩), encStr n] w (Gives (.int .i64 (looseE L n : Nat)) w) := by
  have HM := Lib.hid (don_yes g bm q fu false w h.blk)
  have HH := Lib.hid (fun W hb => has10 (h.later (w' := W) hb) n hn)
  have HK := Lib.hid h
  unfold encStr at HH
  unfold looseE
  unfold encStr
  cases hp : pickE L n with
  | none =>
    rw [hp] at HH
    clear h hp
    go_enter Try.func15, Try.ntmps15
    go_wp2_with fail
    refine HM.out.mono ?_; rintro e w1 ⟨rfl, b1⟩
    have HB := Lib.hid b1
    clear b1
    go_wp2_with fail
    refine (HH.out _ HB.out).mono ?_; rintro e w2 ⟨rfl, b2⟩
    have HB2 := Lib.hid (then_ HB.out b2)
    clear b2 HB
    go_wp2_with fail
    go_ret
    exact ⟨rfl, HB2.out⟩
  | some x =>
    rw [hp] at HH
    have HF := Lib.hid (fun W (hb : Below w.heap.size w W) => floose_any x W ((h.later hb).fil _ (pick_mem hp)).1 (h.syn _ (pick_mem hp)) (len_tot10 h (pick_mem hp)))
    have HL := Lib.hid (fun W (hb : Below w.heap.size w W) => (show (Instr.lookup 63 (.map (some bm)) (.string ⟨n.toArray⟩) false).run Try.prog W = .ok (.pointer (some ⟨x.f, 0, none⟩)) W by have h1 := (h.later hb).look n (by unfold maxLen; omega); unfold fileV at h1; rw [hp] at h1; exact h1))
    clear h hp
    go_enter Try.func15, Try.ntmps15
    go_wp2_with fail
    refine HM.out.mono ?_; rintro e w1 ⟨rfl, b1⟩
    have HB := Lib.hid b1
    clear b1
    go_wp2_with fail
    refine (HH.out _ HB.out).mono ?_; rintro e w2 ⟨rfl, b2⟩
    have HB2 := Lib.hid (then_ HB.out b2)
    clear b2 HB
    have h0 := (HK.out.later HB2.out).blk.cell 0 rfl
    have hl := (HK.out.later HB2.out).blk.lt
    have hk := HL.out _ HB2.out
    go_wp2_with fail
    refine (HF.out _ HB2.out).mono ?_; rintro e w3 ⟨rfl, b3⟩
    have HB3 := Lib.hid (then_ HB2.out b3)
    clear b3 HB2
    go_wp2_with fail
    go_ret
    exact ⟨rfl, HB3.out⟩
set_option maxHeartbeats 1000000 in
set_option maxRecDepth 100000 in
/-- Whether a file is settled. -/
theorem settled1_any (h : Dsk B g bm t nn w D L q fu off) {n : List UInt8} {x : Fl} (hx : (n, x) ∈ L) (bd : Nat) (hd : Blk w bd 24 #[.pointer (some ⟨g, 0, none⟩)]) : Calls Try.prog 81 #[encStr n, .pointer (some ⟨bd, 0, none⟩)] w (Gives (.bool (decide (x.b.length - x.s = 0))) w) := by
  have hp := pick_of h.uniq hx
  have hn : n.length ≤ maxLen := by
    have := h.may _ hx
    unfold mayNm at this
    simp at this
    unfold maxLen
    omega
  have hk : (Instr.lookup 63 (.map (some bm)) (.string ⟨n.toArray⟩) false).run Try.prog w = .ok (.pointer (some ⟨x.f, 0, none⟩)) w := by have h1 := h.look n hn; unfold fileV at h1; rw [hp] at h1; exact h1
  have HF := Lib.hid (floose_any x w (h.fil _ hx).1 (h.syn _ hx) (len_tot10 h hx))
  have h0 := h.blk.cell 0 rfl
  have hl := h.blk.lt
  have c0 := hd.cell 0 rfl
  have cl := hd.lt
  unfold encStr
  obtain ⟨m, hm⟩ : ∃ m, x.b.length - x.s = m := ⟨_, rfl⟩
  rw [hm] at HF ⊢
  clear h hd hp hn hm hx
  go_enter Try.func81, Try.ntmps81
  go_wp2_with fail
  refine HF.out.mono ?_; rintro e w1 ⟨rfl, b1⟩
  have HB := Lib.hid b1
  clear b1
  go_wp2_with fail
  go_ret
  exact ⟨ret_bool (by rw [Bool.eq_iff_iff]; simp), HB.out⟩
end
end Go.Proofs.Ytnhdnmlclnndoaa.Gm
