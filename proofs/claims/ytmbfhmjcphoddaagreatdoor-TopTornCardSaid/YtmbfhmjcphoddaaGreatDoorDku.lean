/- Layer 10: Off, Quota, Loose; what is unsettled about one name. -/
import Derived.Test.YtmbfhmjcphoddaaGreatDoorDki
set_option linter.unusedSimpArgs false
set_option linter.unusedVariables false
namespace Go.Proofs.YtmbfhmjcphoddaaGreatDoor.Gm
open Go Go.RowKit Go.Maps
attribute [local go_sem ↓] Go.wp_at_zero Go.wp_at_succ

/-- What Quota leaves. -/
def QuotaQ (g bm : Nat) (z fu : Int) (off : Bool) (w : World) (e : Ending) (w' : World) : Prop :=
  (¬ (0 ≤ z ∧ z ≤ 4194304) ∧ e = .returned (.int .i64 1) ∧ Below w.heap.size w w') ∨ ((0 ≤ z ∧ z ≤ 4194304) ∧ e = .returned (.int .i64 0) ∧ Only [g] w w' ∧ Blk w' g 50 #[.map (some bm), .int .i64 z, .int .i64 fu, .bool off])
/-- How many bytes of a file are loose. -/
def looseE (L : List Ent) (n : List UInt8) : Nat := match pickE L n with
  | some x => x.b.length - x.s
  | none => 0
section
variable {B g bm t nn : Nat} {w : World} {D : DataW Value} {L : List Ent} {q fu : Int} {off : Bool}
theorem len_tot10 (h : Dsk B g bm t nn w D L q fu off) {e : Ent} (he : e ∈ L) : e.2.b.length ≤ 4194304 := Nat.le_trans (len_le_tot he) h.tot
set_option maxHeartbeats 1000000 in
set_option maxRecDepth 100000 in
/-- Whether a file is settled. -/
theorem settled1_any (h : Dsk B g bm t nn w D L q fu off) {n : List UInt8} {x : Fl} (hx : (n, x) ∈ L) (bd : Nat) (hd : Blk w bd 26 #[.pointer (some ⟨g, 0, none⟩)]) : Calls Tryz.prog 51 #[encStr n, .pointer (some ⟨bd, 0, none⟩)] w (Gives (.bool (decide (x.b.length - x.s = 0))) w) := by
  have hp := pick_of h.uniq hx
  have hn : n.length ≤ maxLen := by
    have := h.may _ hx
    unfold mayNm at this
    simp at this
    unfold maxLen
    omega
  have hk : (Instr.lookup 48 (.map (some bm)) (.string ⟨n.toArray⟩) false).run Tryz.prog w = .ok (.pointer (some ⟨x.f, 0, none⟩)) w := by have h1 := h.look n hn; unfold fileV at h1; rw [hp] at h1; exact h1
  have HF := Lib.hid (floose_any x w (h.fil _ hx).1 (h.syn _ hx) (len_tot10 h hx))
  have h0 := h.blk.cell 0 rfl
  have hl := h.blk.lt
  have c0 := hd.cell 0 rfl
  have cl := hd.lt
  unfold encStr
  obtain ⟨m, hm⟩ : ∃ m, x.b.length - x.s = m := ⟨_, rfl⟩
  rw [hm] at HF ⊢
  clear h hd hp hn hm hx
  go_enter Tryz.func51, Tryz.ntmps51
  go_wp2_with fail
  refine HF.out.mono ?_; rintro e w1 ⟨rfl, b1⟩
  have HB := Lib.hid b1
  clear b1
  go_wp2_with fail
  go_ret
  exact ⟨ret_bool (by rw [Bool.eq_iff_iff]; simp), HB.out⟩
end
end Go.Proofs.YtmbfhmjcphoddaaGreatDoor.Gm
