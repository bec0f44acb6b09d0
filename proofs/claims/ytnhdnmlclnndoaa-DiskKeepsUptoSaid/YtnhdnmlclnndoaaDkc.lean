/- Layer 10: has; what a call lacks; a file's own calls. -/
import Derived.Test.YtnhdnmlclnndoaaDkb
import Derived.Test.YtnhdnmlclnndoaaKL
set_option linter.unusedSimpArgs false
set_option linter.unusedVariables false
namespace Go.Proofs.Ytnhdnmlclnndoaa.Gm
open Go Go.RowKit Go.Maps
attribute [local go_sem ↓] Go.wp_at_zero Go.wp_at_succ

section
variable {B g bm t nn : Nat} {w : World} {D : DataW Value} {L : List Ent} {q fu : Int} {off : Bool}
set_option maxHeartbeats 1000000 in
set_option maxRecDepth 100000 in
theorem has10 (h : Dsk B g bm t nn w D L q fu off) (n : List UInt8) (hn : n.length ≤ 140737488351232) : Calls Try.prog 53 #[.pointer (some ⟨g, 0, none⟩), encStr n] w (Gives (.bool (pickE L n).isSome) w) := by
  have h0 := h.blk.cell 0 rfl
  have hl := h.blk.lt
  have hk := h.look n (by unfold maxLen; omega)
  unfold encStr at *
  clear h
  cases hp : pickE L n with
  | none =>
    unfold fileV at hk
    rw [hp] at hk
    go_enter Try.func53, Try.ntmps53
    go_wp2
    go_ret
    exact ⟨rfl, Below.refl _ _⟩
  | some x =>
    unfold fileV at hk
    rw [hp] at hk
    go_enter Try.func53, Try.ntmps53
    go_wp2
    go_ret
    exact ⟨rfl, Below.refl _ _⟩
/-- What lacks's closure tells. -/
def lackB (L : List Ent) (n : List UInt8) (err : Int) : Bool := (decide (err = 1) && !mayNm n) || (decide (err = 6) && !(pickE L n).isSome)
/-- The two boxes of lacks's closure. -/
structure Lk (w : World) (bn bd g : Nat) (n : List UInt8) : Prop where
  n : Blk w bn 9 #[encStr n]
  d : Blk w bd 24 #[.pointer (some ⟨g, 0, none⟩)]
theorem Lk.later {w w' : World} {bn bd g : Nat} {n : List UInt8} (h : Lk w bn bd g n) (hb : Below w.heap.size w w') : Lk w' bn bd g n := ⟨h.n.later hb, h.d.later hb⟩
def err10 (err : Int) : Prop := err = 1 ∨ err = 6 ∨ err = 9 ∨ err = 7
set_option maxHeartbeats 4000000 in
set_option maxRecDepth 100000 in
theorem lacks1_any (h : Dsk B g bm t nn w D L q fu off) (n : List UInt8) (hn : n.length ≤ 140737488351232) (bn bd : Nat) (hk : Lk w bn bd g n) (err : Int) (he : err10 err) :
    Calls Try.prog 77 #[.int .i64 err, .pointer (some ⟨bn, 0, none⟩), .pointer (some ⟨bd, 0, none⟩)] w (Gives (.bool (lackB L n err)) w) := by
  have HM := Lib.hid (fun W => may_any n hn W)
  have HH := Lib.hid (fun W hb => has10 (h.later (w' := W) hb) n hn)
  have HK := Lib.hid hk
  unfold encStr at HM HH
  have c1 := hk.n.cell 0 rfl
  have c2 := hk.d.cell 0 rfl
  unfold encStr at c1
  have l1 := hk.n.lt
  have l2 := hk.d.lt
  clear h hk
  rcases he with rfl | rfl | rfl | rfl
  · cases hm : mayNm n <;> rw [hm] at HM
    all_goals (
      have HV : Hid (lackB L n 1 = !(mayNm n)) := Lib.hid (by simp [lackB])
      rw [hm] at HV
      clear hm
      go_enter Try.func77, Try.ntmps77
      go_wp2_with fail
      refine (HM.out _).mono ?_; rintro e w1 ⟨rfl, b1⟩
      have HB := Lib.hid b1
      clear b1
      go_wp2_with fail
      go_ret
      exact ⟨ret_bool (by rw [HV.out]; rfl), HB.out⟩)
  · cases hp : (pickE L n).isSome <;> rw [hp] at HH
    all_goals (
      have HV : Hid (lackB L n 6 = !(pickE L n).isSome) := Lib.hid (by simp [lackB])
      rw [hp] at HV
      clear hp
      go_enter Try.func77, Try.ntmps77
      go_wp2_with fail
      refine (HH.out _ (Below.refl _ _)).mono ?_; rintro e w1 ⟨rfl, b1⟩
      have HB := Lib.hid b1
      clear b1
      go_wp2_with fail
      go_ret
      exact ⟨ret_bool (by rw [HV.out]; rfl), HB.out⟩)
  all_goals (
    go_enter Try.func77, Try.ntmps77
    go_wp2_with fail
    go_ret
    exact ⟨ret_bool (by simp [lackB]), Below.refl _ _⟩)
/-- What lacks answers: its closure, with two boxes of its own. -/
def LacksR (g : Nat) (n : List UInt8) (w : World) (e : Ending) (w' : World) : Prop :=
  e = .returned (.func (.func 77) #[] #[.pointer (some ⟨w.heap.size + 1, 0, none⟩), .pointer (some ⟨w.heap.size, 0, none⟩)]) ∧ Lk w' (w.heap.size + 1) w.heap.size g n ∧ Below w.heap.size w w'
theorem lacks_any (g : Nat) (n : List UInt8) (w : World) : Calls Try.prog 49 #[.pointer (some ⟨g, 0, none⟩), encStr n] w (LacksR g n w) := by
  have hb1 := below_one w (.cells #[.pointer (some ⟨g, 0, none⟩)] 24)
  have hb2 := below_one (w.alloc (.cells #[.pointer (some ⟨g, 0, none⟩)] 24)) (.cells #[encStr n] 9)
  have k1 := Blk.new w 24 #[.pointer (some ⟨g, 0, none⟩)]
  have k2 := Blk.new (w.alloc (.cells #[.pointer (some ⟨g, 0, none⟩)] 24)) 9 #[encStr n]
  have hs : (w.alloc (.cells #[.pointer (some ⟨g, 0, none⟩)] 24)).heap.size = w.heap.size + 1 := by simp
  rw [hs] at k2
  have HB := Lib.hid (then_ hb1 hb2)
  have HK : Hid (Lk _ (w.heap.size + 1) w.heap.size g n) := Lib.hid ⟨k2, k1.later hb2⟩
  clear k1 k2 hb1 hb2 hs
  unfold encStr at *
  go_enter Try.func49, Try.ntmps49
  go_wp2
  go_ret
  exact ⟨by simp, HK.out, HB.out⟩
theorem lacks_nil (n : List UInt8) (w : World) : Calls Try.prog 49 #[.pointer none, encStr n] w (fun e w' => ∃ p1 p2, e = .returned (.func (.func 77) #[] #[p1, p2]) ∧ Below w.heap.size w w') := by
  have HB := Lib.hid (then_ (below_one w (.cells #[.pointer none] 24)) (below_one (w.alloc (.cells #[.pointer none] 24)) (.cells #[encStr n] 9)))
  unfold encStr at *
  go_enter Try.func49, Try.ntmps49
  go_wp2
  go_ret
  exact ⟨_, _, rfl, HB.out⟩
end
/-- A file's block. -/
abbrev FBlk (w : World) (x : Fl) : Prop := Blk w x.f 82 #[x.v, .int .i64 (x.s : Nat)]
theorem wrap_sub10 {a b : Nat} (h1 : b ≤ a) (h2 : a ≤ 4194304) : wrap64 ((a : Int) - (b : Int)) = ((a - b : Nat) : Int) := by
  unfold wrap64; omega
set_option maxHeartbeats 1000000 in
set_option maxRecDepth 100000 in
theorem floose_any (x : Fl) (w : World) (h : FBlk w x) (hs : x.s ≤ x.b.length) (hl : x.b.length ≤ 4194304) : Calls Try.prog 54 #[.pointer (some ⟨x.f, 0, none⟩)] w (Gives (.int .i64 ((x.b.length - x.s : Nat) : Int)) w) := by
  obtain ⟨f, p, c, b, s⟩ := x
  simp only [FBlk, Fl.v] at h hs hl
  show Calls _ _ _ w (Gives (.int .i64 ((b.length - s : Nat) : Int)) w)
  have c0 := h.cell 0 rfl
  have c1 := h.cell 1 rfl
  have hlt := h.lt
  have HW := Lib.hid (wrap_sub10 hs hl)
  obtain ⟨m, hm⟩ : ∃ m, b.length = m := ⟨_, rfl⟩
  rw [hm] at c0 HW ⊢
  clear h hs hl hm
  go_enter Try.func54, Try.ntmps54
  go_wp2_with fail
  go_region
  go_wp2_with fail
  go_ret
  exact ⟨ret_int (by first | exact HW.out | simp [HW.out]), (Below.refl _ _).drew⟩
/-- What sync leaves. -/
def FSync (x : Fl) (w : World) (e : Ending) (w' : World) : Prop := e = .returned (.tuple #[]) ∧ FBlk w' { x with s := x.b.length } ∧ Only [x.f] w w'
theorem only_set10 {f i : Nat} {w0 w : World} {u : Value} (h : Only [f] w0 w) : Only [f] w0 (w.setCell ⟨f, i, none⟩ u) := by
  have g := grown_set (i := i) (grown_below (Below.refl _ w) (some f)) u
  exact ⟨g.os.trans h.1, g.tape.trans h.2.1, g.output.trans h.2.2.1, Nat.le_trans h.size g.size, fun j hj hn => (g.block j (Nat.lt_of_lt_of_le hj h.size) (fun e => hn (by rw [Option.some.inj e]; exact List.mem_singleton.2 rfl))).trans (h.2.2.2.2 j hj hn)⟩
theorem only_refl10 (F : List Nat) (w : World) : Only F w w := ⟨rfl, rfl, rfl, Nat.le_refl _, fun _ _ _ => rfl⟩
set_option maxHeartbeats 1000000 in
set_option maxRecDepth 100000 in
theorem fsync_any (x : Fl) (w : World) (h : FBlk w x) : Calls Try.prog 59 #[.pointer (some ⟨x.f, 0, none⟩)] w (FSync x w) := by
  obtain ⟨f, p, c, b, s⟩ := x
  simp only [FBlk, Fl.v] at h ⊢
  have c0 := h.cell 0 rfl
  have c1 := h.cell 1 rfl
  have hf := h.free 1
  have hlt := h.lt
  have HH := Lib.hid h
  clear h
  go_enter Try.func59, Try.ntmps59
  go_wp2_with fail
  go_end0
  refine ⟨rfl, ?_, only_set10 (only_refl10 _ _)⟩
  simp only [FBlk, Fl.v]
  have := setCell_block HH.out (o := 1) (by simp) (.int .i64 (b.length : Int))
  simpa using this
end Go.Proofs.Ytnhdnmlclnndoaa.Gm
