/- Layer 10: Size, Read, Fuse; the calls with the power off, and of no disk. -/
import Derived.Test.YtnhdnmlclnndoaaDkt
import Derived.Test.YtnhdnmlclnndoaaDku
import Derived.Test.YtnhdnmlclnndoaaDkgf
set_option linter.unusedSimpArgs false
set_option linter.unusedVariables false
namespace Go.Proofs.Ytnhdnmlclnndoaa.Gm
open Go Go.RowKit Go.Maps
attribute [local go_sem ↓] Go.wp_at_zero Go.wp_at_succ
/-- What ask tells of a file's name. -/
def AskIs (a : Option Addr) (n : List UInt8) (c : Int) (w : World) : Prop := ∀ W bn bd, Below w.heap.size w W → LkA W bn bd a n → Calls Try.prog 48 #[.pointer a, lackF bn bd] W (Gives (.int .i64 c) W)
set_option maxHeartbeats 1000000 in
set_option maxRecDepth 100000 in
theorem Size_bad (a : Option Addr) (n : List UInt8) (c : Int) (hc : ¬ c = 0) (w : World) (hask : AskIs a n c w) : Calls Try.prog 14 #[.pointer a, encStr n] w (Gives (.tuple #[.int .i64 0, .int .i64 c]) w) := by
  have HL := Lib.hid (fun W => lacks_gen a n W)
  have HA := Lib.hid hask
  unfold encStr at HL
  unfold encStr
  have hc2 : (c == 0) = false := by simpa using hc
  clear hask
  go_enter Try.func14, Try.ntmps14
  go_wp2_with fail
  refine (HL.out _).mono ?_; rintro e w1 ⟨rfl, hk1, b1⟩
  have HB1 := Lib.hid b1
  have HQ := Lib.hid (HA.out _ _ _ b1 hk1)
  clear b1 hk1
  go_wp2_with fail
  refine HQ.out.mono ?_; rintro e w2 ⟨rfl, b2⟩
  have HB2 := Lib.hid (then_ HB1.out b2)
  clear b2
  go_wp2_with fail
  go_ret2
  exact ⟨rfl, HB2.out⟩
set_option maxHeartbeats 1000000 in
set_option maxRecDepth 100000 in
theorem Read_bad (a : Option Addr) (n : List UInt8) (c : Int) (hc : ¬ c = 0) (w : World) (hask : AskIs a n c w) : Calls Try.prog 12 #[.pointer a, encStr n] w (Gives (.tuple #[.slice none 0 0, .int .i64 c]) w) := by
  have HL := Lib.hid (fun W => lacks_gen a n W)
  have HA := Lib.hid hask
  unfold encStr at HL
  unfold encStr
  have hc2 : (c == 0) = false := by simpa using hc
  clear hask
  go_enter Try.func12, Try.ntmps12
  go_wp2_with fail
  refine (HL.out _).mono ?_; rintro e w1 ⟨rfl, hk1, b1⟩
  have HB1 := Lib.hid b1
  have HQ := Lib.hid (HA.out _ _ _ b1 hk1)
  clear b1 hk1
  go_wp2_with fail
  refine HQ.out.mono ?_; rintro e w2 ⟨rfl, b2⟩
  have HB2 := Lib.hid (then_ HB1.out b2)
  clear b2
  go_wp2_with fail
  go_ret2
  exact ⟨rfl, HB2.out⟩
section
variable {B g bm t nn : Nat} {w : World} {D : DataW Value} {L : List Ent} {q fu : Int} {off : Bool}
theorem askIs_nil (n : List UInt8) (w : World) : AskIs none n 2 w := fun W bn bd _ _ => ask_nil _ W
theorem askIs_off (h : Dsk B g bm t nn w D L q fu true) (n : List UInt8) : AskIs (some ⟨g, 0, none⟩) n 8 w := fun W bn bd hb _ => ask_off g bm q fu _ W (h.later hb).blk
theorem askIs_on (h : Dsk B g bm t nn w D L q fu false) (n : List UInt8) (hn : n.length ≤ 140737488351232) : AskIs (some ⟨g, 0, none⟩) n (firstE (lackB L n)) w := fun W bn bd hb hk => ask_lacks g bm q fu _ _ (lackB L n) W (h.later hb).blk (fun V hV err he => lacks1_any ((h.later hb).later hV) n hn bn bd (hk.lk.later hV) err he)
set_option maxHeartbeats 1000000 in
set_option maxRecDepth 100000 in
theorem Size_good (h : Dsk B g bm t nn w D L q fu false) (n : List UInt8) (hn : n.length ≤ 140737488351232) (x : Fl) (hx : (n, x) ∈ L) : Calls Try.prog 14 #[.pointer (some ⟨g, 0, none⟩), encStr n] w (Gives (.tuple #[.int .i64 (x.b.length : Nat), .int .i64 0]) w) := by
  have hc : firstE (lackB L n) = 0 := by unfold firstE lackB; simp [h.may _ hx, pick_of h.uniq hx]
  have HL := Lib.hid (fun W => lacks_gen (some ⟨g, 0, none⟩) n W)
  have hA := askIs_on h n hn
  rw [hc] at hA
  have HA := Lib.hid hA
  have HK := Lib.hid h
  have HX := Lib.hid hx
  have HKK := Lib.hid (fun W (hb : Below w.heap.size w W) => (show (Instr.lookup 63 (.map (some bm)) (.string ⟨n.toArray⟩) false).run Try.prog W = .ok (.pointer (some ⟨x.f, 0, none⟩)) W by have h1 := (h.later hb).look n (by unfold maxLen; omega); unfold fileV at h1; rw [pick_of h.uniq hx] at h1; exact h1))
  unfold encStr at HL
  unfold encStr
  clear h hx hA hc
  go_enter Try.func14, Try.ntmps14
  go_wp2_with fail
  refine (HL.out _).mono ?_; rintro e w1 ⟨rfl, hk1, b1⟩
  have HB1 := Lib.hid b1
  have HQ := Lib.hid (HA.out _ _ _ b1 hk1)
  clear b1 hk1
  go_wp2_with fail
  refine HQ.out.mono ?_; rintro e w2 ⟨rfl, b2⟩
  have HB2 := Lib.hid (then_ HB1.out b2)
  have hD2 := HK.out.later HB2.out
  have h0 := hD2.blk.cell 0 rfl
  have hl := hD2.blk.lt
  have hf := (hD2.fil _ HX.out).1.cell 0 rfl
  have hfl := (hD2.fil _ HX.out).1.lt
  simp only [Fl.v] at hf
  have hlk := HKK.out _ HB2.out
  clear b2 hD2
  go_wp2_with fail
  go_ret2
  exact ⟨rfl, HB2.out⟩
/-- What Read tells of a file. -/
def ReadR (b : List UInt8) (w : World) (e : Ending) (w' : World) : Prop := ∃ v, e = .returned (.tuple #[v, .int .i64 0]) ∧ OwnB w' w.heap.size v b ∧ Below w.heap.size w w'
set_option maxHeartbeats 1000000 in
set_option maxRecDepth 100000 in
theorem Read_good (h : Dsk B g bm t nn w D L q fu false) (n : List UInt8) (hn : n.length ≤ 140737488351232) (x : Fl) (hx : (n, x) ∈ L) : Calls Try.prog 12 #[.pointer (some ⟨g, 0, none⟩), encStr n] w (ReadR x.b w) := by
  have hc : firstE (lackB L n) = 0 := by unfold firstE lackB; simp [h.may _ hx, pick_of h.uniq hx]
  have HL := Lib.hid (fun W => lacks_gen (some ⟨g, 0, none⟩) n W)
  have hA := askIs_on h n hn
  rw [hc] at hA
  have HA := Lib.hid hA
  have HK := Lib.hid h
  have HX := Lib.hid hx
  have HKK := Lib.hid (fun W (hb : Below w.heap.size w W) => (show (Instr.lookup 63 (.map (some bm)) (.string ⟨n.toArray⟩) false).run Try.prog W = .ok (.pointer (some ⟨x.f, 0, none⟩)) W by have h1 := (h.later hb).look n (by unfold maxLen; omega); unfold fileV at h1; rw [pick_of h.uniq hx] at h1; exact h1))
  unfold encStr at HL
  unfold encStr
  clear h hx hA hc
  go_enter Try.func12, Try.ntmps12
  go_wp2_with fail
  refine (HL.out _).mono ?_; rintro e w1 ⟨rfl, hk1, b1⟩
  have HB1 := Lib.hid b1
  have HQ := Lib.hid (HA.out _ _ _ b1 hk1)
  clear b1 hk1
  go_wp2_with fail
  refine HQ.out.mono ?_; rintro e w2 ⟨rfl, b2⟩
  have HB2 := Lib.hid (then_ HB1.out b2)
  have hD2 := HK.out.later HB2.out
  have h0 := hD2.blk.cell 0 rfl
  have hl := hD2.blk.lt
  have hf := (hD2.fil _ HX.out).1.cell 0 rfl
  have hfl := (hD2.fil _ HX.out).1.lt
  simp only [Fl.v] at hf
  have hlk := HKK.out _ HB2.out
  have HC := Lib.hid (cloneB_any _ x.b w2 (hD2.fil _ HX.out).2.1.bs (by have h1 := len_tot10 hD2 HX.out; simp only at h1; omega))
  simp only [Fl.v] at HC
  clear b2 hD2
  go_wp2_with fail
  refine HC.out.mono ?_; rintro e w3 ⟨v, rfl, hO, b3⟩
  have HO := Lib.hid (OwnB.base hO HB2.out.size)
  have HB3 := Lib.hid (then_ HB2.out b3)
  clear b3 hO
  go_wp2_with fail
  go_ret2
  exact ⟨_, rfl, HO.out, HB3.out⟩
/-- What Fuse leaves. -/
def FuseQ (g bm : Nat) (q z : Int) (w : World) (e : Ending) (w' : World) : Prop :=
  (z < -1 ∧ e = .returned (.int .i64 1) ∧ Below w.heap.size w w') ∨ (¬ z < -1 ∧ e = .returned (.int .i64 0) ∧ Only [g] w w' ∧ Blk w' g 65 #[.map (some bm), .int .i64 q, .int .i64 z, .bool false])
set_option maxHeartbeats 1000000 in
set_option maxRecDepth 100000 in
theorem Fuse_bad (a : Option Addr) (z c : Int) (hc : ¬ c = 0) (w : World) (hask : ∀ W cl, Below w.heap.size w W → Calls Try.prog 48 #[.pointer a, cl] W (Gives (.int .i64 c) W)) : Calls Try.prog 24 #[.pointer a, .int .i64 z] w (Gives (.int .i64 c) w) := by
  have HB := Lib.hid (below_one w (.cells #[.int .i64 z] 3))
  have HA := Lib.hid (fun cl => hask _ cl HB.out)
  have hc2 : (c == 0) = false := by simpa using hc
  clear hask
  go_enter Try.func24, Try.ntmps24
  go_wp2_with fail
  refine (HA.out _).mono ?_; rintro e w1 ⟨rfl, b1⟩
  have HB1 := Lib.hid (then_ HB.out b1)
  clear b1
  go_wp2_with fail
  go_ret
  exact ⟨rfl, HB1.out⟩
theorem Fuse_nil (z : Int) (w : World) : Calls Try.prog 24 #[.pointer none, .int .i64 z] w (Gives (.int .i64 2) w) := Fuse_bad none z 2 (by decide) w (fun W cl _ => ask_nil cl W)
theorem Fuse_off (h : Dsk B g bm t nn w D L q fu true) (z : Int) : Calls Try.prog 24 #[.pointer (some ⟨g, 0, none⟩), .int .i64 z] w (Gives (.int .i64 8) w) := Fuse_bad _ z 8 (by decide) w (fun W cl hb => ask_off g bm q fu cl W (h.later hb).blk)
/-- What a call with an error leaves. -/
def BadQ (c0 : Int) (w : World) (c : Int) (w' : World) : Prop := c = c0 ∧ Below w.heap.size w w'
theorem bad_of (a : Option Addr) (cl dv : Value) (c0 : Int) (hc : ¬ c0 = 0) {w W : World} (hb : Below w.heap.size w W) (hask : Calls Try.prog 48 #[.pointer a, cl] W (Gives (.int .i64 c0) W)) : Calls Try.prog 61 #[.pointer a, cl, dv] W (AnsQ (BadQ c0 w)) :=
  (chg_err _ cl dv c0 W hask hc).mono fun e w' ⟨he, h2⟩ => ⟨c0, he, rfl, then_ hb h2⟩
theorem Sync_nil (n : List UInt8) (w : World) : Calls Try.prog 29 #[.pointer none, encStr n] w (AnsQ (BadQ 2 w)) :=
  Sync_gen none n w _ (fun W bn bd bn2 bd2 hb hk hk2 => bad_of none _ _ 2 (by decide) hb (ask_nil _ W))
theorem Sync_off (h : Dsk B g bm t nn w D L q fu true) (n : List UInt8) : Calls Try.prog 29 #[.pointer (some ⟨g, 0, none⟩), encStr n] w (AnsQ (BadQ 8 w)) :=
  Sync_gen (some ⟨g, 0, none⟩) n w _ (fun W bn bd bn2 bd2 hb hk hk2 => bad_of (some ⟨g, 0, none⟩) _ _ 8 (by decide) hb (ask_off g bm q fu _ W (h.later hb).blk))
theorem Remove_nil (n : List UInt8) (w : World) : Calls Try.prog 34 #[.pointer none, encStr n] w (AnsQ (BadQ 2 w)) :=
  Remove_gen none n w _ (fun W bn bd bn2 bd2 hb hk hk2 => bad_of none _ _ 2 (by decide) hb (ask_nil _ W))
theorem Remove_off (h : Dsk B g bm t nn w D L q fu true) (n : List UInt8) : Calls Try.prog 34 #[.pointer (some ⟨g, 0, none⟩), encStr n] w (AnsQ (BadQ 8 w)) :=
  Remove_gen (some ⟨g, 0, none⟩) n w _ (fun W bn bd bn2 bd2 hb hk hk2 => bad_of (some ⟨g, 0, none⟩) _ _ 8 (by decide) hb (ask_off g bm q fu _ W (h.later hb).blk))
theorem Create_nil (n : List UInt8) (w : World) : Calls Try.prog 27 #[.pointer none, encStr n] w (AnsQ (BadQ 2 w)) :=
  Create_gen none n w _ (fun W bn bd hb hk => bad_of none _ _ 2 (by decide) hb (ask_nil _ W))
theorem Create_off (h : Dsk B g bm t nn w D L q fu true) (n : List UInt8) : Calls Try.prog 27 #[.pointer (some ⟨g, 0, none⟩), encStr n] w (AnsQ (BadQ 8 w)) :=
  Create_gen (some ⟨g, 0, none⟩) n w _ (fun W bn bd hb hk => bad_of (some ⟨g, 0, none⟩) _ _ 8 (by decide) hb (ask_off g bm q fu _ W (h.later hb).blk))
theorem Append_nil (n : List UInt8) (p : Option Addr) (k cc : Nat) (w : World) : Calls Try.prog 28 #[.pointer none, encStr n, .slice p k cc] w (AnsQ (BadQ 2 w)) :=
  Append_gen none n p k cc w _ (fun W bl bn bd bn2 bd2 bb hb hk hk2 hl1 hb1 => bad_of none _ _ 2 (by decide) hb (ask_nil _ W))
theorem Append_off (h : Dsk B g bm t nn w D L q fu true) (n : List UInt8) (p : Option Addr) (k cc : Nat) : Calls Try.prog 28 #[.pointer (some ⟨g, 0, none⟩), encStr n, .slice p k cc] w (AnsQ (BadQ 8 w)) :=
  Append_gen (some ⟨g, 0, none⟩) n p k cc w _ (fun W bl bn bd bn2 bd2 bb hb hk hk2 hl1 hb1 => bad_of (some ⟨g, 0, none⟩) _ _ 8 (by decide) hb (ask_off g bm q fu _ W (h.later hb).blk))
theorem Rename_nil (n : List UInt8) (m : List UInt8) (w : World) : Calls Try.prog 32 #[.pointer none, encStr n, encStr m] w (AnsQ (BadQ 2 w)) :=
  Rename_gen none n m w _ (fun W bl bn bd bn2 bd2 bb hb hk hk2 hl1 hb1 => bad_of none _ _ 2 (by decide) hb (ask_nil _ W))
theorem Rename_off (h : Dsk B g bm t nn w D L q fu true) (n : List UInt8) (m : List UInt8) : Calls Try.prog 32 #[.pointer (some ⟨g, 0, none⟩), encStr n, encStr m] w (AnsQ (BadQ 8 w)) :=
  Rename_gen (some ⟨g, 0, none⟩) n m w _ (fun W bl bn bd bn2 bd2 bb hb hk hk2 hl1 hb1 => bad_of (some ⟨g, 0, none⟩) _ _ 8 (by decide) hb (ask_off g bm q fu _ W (h.later hb).blk))
theorem Truncate_nil (n : List UInt8) (z : Int) (w : World) : Calls Try.prog 33 #[.pointer none, encStr n, .int .i64 z] w (AnsQ (BadQ 2 w)) :=
  Truncate_gen none n z w _ (fun W bl bn bd bn2 bd2 bb hb hk hk2 hl1 hb1 => bad_of none _ _ 2 (by decide) hb (ask_nil _ W))
theorem Truncate_off (h : Dsk B g bm t nn w D L q fu true) (n : List UInt8) (z : Int) : Calls Try.prog 33 #[.pointer (some ⟨g, 0, none⟩), encStr n, .int .i64 z] w (AnsQ (BadQ 8 w)) :=
  Truncate_gen (some ⟨g, 0, none⟩) n z w _ (fun W bl bn bd bn2 bd2 bb hb hk hk2 hl1 hb1 => bad_of (some ⟨g, 0, none⟩) _ _ 8 (by decide) hb (ask_off g bm q fu _ W (h.later hb).blk))
theorem fuse_first (z : Int) : firstE (fuseB z) = if z < -1 then 1 else 0 := by
  unfold firstE fuseB
  by_cases h : z < -1 <;> simp [h]
set_option maxHeartbeats 2000000 in
set_option maxRecDepth 100000 in
theorem Fuse_on (h : Dsk B g bm t nn w D L q fu false) (z : Int) : Calls Try.prog 24 #[.pointer (some ⟨g, 0, none⟩), .int .i64 z] w (FuseQ g bm q z w) := by
  have hb := below_one w (.cells #[.int .i64 z] 3)
  have hk := Blk.new w 3 #[.int .i64 z]
  have HA := Lib.hid (ask_fuse g bm q fu (.pointer (some ⟨w.heap.size, 0, none⟩)) (fuseB z) _ (h.later hb).blk (fun W hW err he => fuse1_any z err he w.heap.size W (hk.later hW)))
  rw [fuse_first] at HA
  have HB := Lib.hid hb
  have HK := Lib.hid hk
  have HD := Lib.hid (h.later hb).blk
  clear h hb hk
  by_cases hz : z < -1
  · rw [if_pos hz] at HA
    have HZ := Lib.hid hz
    clear hz
    go_enter Try.func24, Try.ntmps24
    go_wp2_with fail
    refine HA.out.mono ?_; rintro e w1 ⟨rfl, b1⟩
    have HB1 := Lib.hid (then_ HB.out b1)
    clear b1
    go_wp2_with fail
    go_ret
    exact .inl ⟨HZ.out, rfl, HB1.out⟩
  · rw [if_neg hz] at HA
    have HZ := Lib.hid hz
    clear hz
    go_enter Try.func24, Try.ntmps24
    go_wp2_with fail
    refine HA.out.mono ?_; rintro e w1 ⟨rfl, b1⟩
    have HB1 := Lib.hid (then_ HB.out b1)
    have hK1 := HK.out.later b1
    have hD1 := HD.out.later b1
    have c0 := hK1.cell 0 rfl
    have l0 := hK1.lt
    have d2 := hD1.cell 2 rfl
    have dl := hD1.lt
    have df := hD1.free 2
    have HS := Lib.hid (setCell_block hD1 (o := 2) (by simp) (.int .i64 z))
    have HO : Hid (Only [g] w (w1.setCell ⟨g, 2, none⟩ (.int .i64 z))) := Lib.hid (only_set10 (only_below HB1.out _))
    clear b1 hK1 hD1
    go_wp2_with fail
    go_ret
    refine .inr ⟨by have := HZ.out; omega, rfl, HO.out, by simpa using HS.out⟩
end
end Go.Proofs.Ytnhdnmlclnndoaa.Gm
