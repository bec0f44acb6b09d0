/- Layer 10: change: an error; the power that goes; what is done. -/
import Derived.Test.YtmbfhmjcphoddaaGreatDoorDkg
set_option linter.unusedSimpArgs false
set_option linter.unusedVariables false
namespace Go.Proofs.YtmbfhmjcphoddaaGreatDoor.Gm
open Go Go.RowKit Go.Maps
attribute [local go_sem ↓] Go.wp_at_zero Go.wp_at_succ

theorem chg_err (pd cl dv : Value) (c : Int) (w : World) (hask : Calls Tryz.prog 40 #[pd, cl] w (Gives (.int .i64 c) w)) (hc : ¬ c = 0) : Calls Tryz.prog 15 #[pd, cl, dv] w (Gives (.int .i64 c) w) := by
  have HA := Lib.hid hask
  clear hask
  have hc2 : (c == 0) = false := by simpa using hc
  go_enter Tryz.func15, Tryz.ntmps15
  go_wp2_with fail
  refine HA.out.mono ?_; rintro e w1 ⟨rfl, b1⟩
  have HB := Lib.hid b1
  clear b1
  go_wp2_with fail
  go_ret
  exact ⟨rfl, HB.out⟩
/-- The power goes. -/
def GoesOff (g bm : Nat) (q : Int) (w : World) (e : Ending) (w' : World) : Prop := e = .returned (.int .i64 8) ∧ Blk w' g 50 #[.map (some bm), .int .i64 q, .int .i64 (-1), .bool true] ∧ Only [g] w w'
set_option maxHeartbeats 1000000 in
set_option maxRecDepth 100000 in
theorem chg_zero (g bm : Nat) (q : Int) (cl dv : Value) (w : World) (h : Blk w g 50 #[.map (some bm), .int .i64 q, .int .i64 0, .bool false]) (hask : Calls Tryz.prog 40 #[.pointer (some ⟨g, 0, none⟩), cl] w (Gives (.int .i64 0) w)) : Calls Tryz.prog 15 #[.pointer (some ⟨g, 0, none⟩), cl, dv] w (GoesOff g bm q w) := by
  have HA := Lib.hid hask
  have HH := Lib.hid h
  clear hask h
  go_enter Tryz.func15, Tryz.ntmps15
  go_wp2_with fail
  refine HA.out.mono ?_; rintro e w1 ⟨rfl, b1⟩
  have hk := HH.out.later b1
  have h2 := hk.cell 2 rfl
  have h3 := hk.cell 3 rfl
  have f2 := hk.free 2
  have f3 := hk.free 3
  have hl := hk.lt
  have HK := Lib.hid hk
  have HB := Lib.hid b1
  have hk2 := setCell_block hk (o := 3) (by simp) (.bool true)
  have HK2 : Hid (Blk (w1.setCell ⟨g, 3, none⟩ (.bool true)) g 50 #[.map (some bm), .int .i64 q, .int .i64 0, .bool true]) := Lib.hid (by simpa using hk2)
  have e2 := HK2.out.cell 2 rfl
  have e3 := HK2.out.free 2
  clear hk b1 hk2
  go_wp2_with fail
  go_ret
  have hk3 := setCell_block HK2.out (o := 2) (by simp) (.int .i64 (-1))
  exact ⟨rfl, by simpa using hk3, only_set10 (only_set10 (only_below HB.out _))⟩
/-- What the fuse is behind a call that is done. -/
def fuseN (fu : Int) : Int := if 0 < fu then fu - 1 else fu
/-- It is done: what do leaves, behind a fuse that burned. -/
def DoneR (g bm : Nat) (q fu : Int) (R : World → World → Prop) (w : World) (e : Ending) (w' : World) : Prop := e = .returned (.int .i64 0) ∧ ∃ W, Only [g] w W ∧ Blk W g 50 #[.map (some bm), .int .i64 q, .int .i64 (fuseN fu), .bool false] ∧ R W w'
theorem wrap_dec {z : Int} (h0 : 0 < z) (h1 : z ≤ 9223372036854775807) : wrap64 (z - 1) = z - 1 := by
  unfold wrap64; omega
set_option maxHeartbeats 2000000 in
set_option maxRecDepth 100000 in
theorem chg_create (g bm : Nat) (q fu : Int) (cl c0 c1 : Value) (R : World → World → Prop) (w : World) (h : Blk w g 50 #[.map (some bm), .int .i64 q, .int .i64 fu, .bool false]) (hf : ¬ fu = 0) (hf1 : -1 ≤ fu) (hf2 : fu ≤ 9223372036854775807)
    (hask : Calls Tryz.prog 40 #[.pointer (some ⟨g, 0, none⟩), cl] w (Gives (.int .i64 0) w))
    (hdo : ∀ W, Only [g] w W → Blk W g 50 #[.map (some bm), .int .i64 q, .int .i64 (fuseN fu), .bool false] → Calls Tryz.prog 19 #[c0, c1] W fun e w' => e = .returned (.tuple #[]) ∧ R W w') :
    Calls Tryz.prog 15 #[.pointer (some ⟨g, 0, none⟩), cl, .func (.func 19) #[] #[c0, c1]] w (DoneR g bm q fu R w) := by
  have HA := Lib.hid hask
  have HH := Lib.hid h
  have HD := Lib.hid hdo
  clear hask h hdo
  have hfb : (fu == 0) = false := by simpa using hf
  go_enter Tryz.func15, Tryz.ntmps15
  go_wp2_with fail
  refine HA.out.mono ?_; rintro e w1 ⟨rfl, b1⟩
  have hk := HH.out.later b1
  have h2 := hk.cell 2 rfl
  have f2 := hk.free 2
  have hl := hk.lt
  have HK := Lib.hid hk
  have HO := Lib.hid (only_below b1 [g])
  clear b1 hk
  by_cases hp : 0 < fu
  · have hd := Lib.hid (wrap_dec hp hf2)
    have HF : Hid (fuseN fu = fu - 1) := Lib.hid (by unfold fuseN; rw [if_pos hp])
    have hk2 := setCell_block HK.out (o := 2) (by simp) (.int .i64 (fu - 1))
    have HDo : Hid (Calls Tryz.prog 19 #[c0, c1] (w1.setCell ⟨g, 2, none⟩ (.int .i64 (fu - 1))) fun e w' => e = .returned (.tuple #[]) ∧ R (w1.setCell ⟨g, 2, none⟩ (.int .i64 (fu - 1))) w') := Lib.hid (HD.out _ (only_set10 HO.out) (by rw [HF.out]; simpa using hk2))
    have HE : Hid (Blk (w1.setCell ⟨g, 2, none⟩ (.int .i64 (fu - 1))) g 50 #[.map (some bm), .int .i64 q, .int .i64 (fuseN fu), .bool false]) := Lib.hid (by rw [HF.out]; simpa using hk2)
    clear hk2 hf hf1
    go_wp2_with fail
    try rw [hd.out]
    refine HDo.out.mono ?_; rintro e w2 ⟨rfl, hR⟩
    have HR := Lib.hid hR
    clear hR
    go_wp2_with fail
    go_ret
    exact ⟨rfl, _, only_set10 HO.out, HE.out, HR.out⟩
  · have hd : (decide (0 < fu)) = false := by simpa using hp
    have HF : Hid (fuseN fu = fu) := Lib.hid (by unfold fuseN; rw [if_neg hp])
    have HDo := Lib.hid (HD.out _ HO.out (by rw [HF.out]; exact HK.out))
    clear hf hf1 hf2
    go_wp2_with fail
    refine HDo.out.mono ?_; rintro e w2 ⟨rfl, hR⟩
    have HR := Lib.hid hR
    clear hR
    go_wp2_with fail
    go_ret
    exact ⟨rfl, _, HO.out, by rw [HF.out]; exact HK.out, HR.out⟩
set_option maxHeartbeats 2000000 in
set_option maxRecDepth 100000 in
theorem chg_append (g bm : Nat) (q fu : Int) (cl c0 c1 c2 : Value) (R : World → World → Prop) (w : World) (h : Blk w g 50 #[.map (some bm), .int .i64 q, .int .i64 fu, .bool false]) (hf : ¬ fu = 0) (hf1 : -1 ≤ fu) (hf2 : fu ≤ 9223372036854775807)
    (hask : Calls Tryz.prog 40 #[.pointer (some ⟨g, 0, none⟩), cl] w (Gives (.int .i64 0) w))
    (hdo : ∀ W, Only [g] w W → Blk W g 50 #[.map (some bm), .int .i64 q, .int .i64 (fuseN fu), .bool false] → Calls Tryz.prog 29 #[c0, c1, c2] W fun e w' => e = .returned (.tuple #[]) ∧ R W w') :
    Calls Tryz.prog 15 #[.pointer (some ⟨g, 0, none⟩), cl, .func (.func 29) #[] #[c0, c1, c2]] w (DoneR g bm q fu R w) := by
  have HA := Lib.hid hask
  have HH := Lib.hid h
  have HD := Lib.hid hdo
  clear hask h hdo
  have hfb : (fu == 0) = false := by simpa using hf
  go_enter Tryz.func15, Tryz.ntmps15
  go_wp2_with fail
  refine HA.out.mono ?_; rintro e w1 ⟨rfl, b1⟩
  have hk := HH.out.later b1
  have h2 := hk.cell 2 rfl
  have f2 := hk.free 2
  have hl := hk.lt
  have HK := Lib.hid hk
  have HO := Lib.hid (only_below b1 [g])
  clear b1 hk
  by_cases hp : 0 < fu
  · have hd := Lib.hid (wrap_dec hp hf2)
    have HF : Hid (fuseN fu = fu - 1) := Lib.hid (by unfold fuseN; rw [if_pos hp])
    have hk2 := setCell_block HK.out (o := 2) (by simp) (.int .i64 (fu - 1))
    have HDo : Hid (Calls Tryz.prog 29 #[c0, c1, c2] (w1.setCell ⟨g, 2, none⟩ (.int .i64 (fu - 1))) fun e w' => e = .returned (.tuple #[]) ∧ R (w1.setCell ⟨g, 2, none⟩ (.int .i64 (fu - 1))) w') := Lib.hid (HD.out _ (only_set10 HO.out) (by rw [HF.out]; simpa using hk2))
    have HE : Hid (Blk (w1.setCell ⟨g, 2, none⟩ (.int .i64 (fu - 1))) g 50 #[.map (some bm), .int .i64 q, .int .i64 (fuseN fu), .bool false]) := Lib.hid (by rw [HF.out]; simpa using hk2)
    clear hk2 hf hf1
    go_wp2_with fail
    try rw [hd.out]
    refine HDo.out.mono ?_; rintro e w2 ⟨rfl, hR⟩
    have HR := Lib.hid hR
    clear hR
    go_wp2_with fail
    go_ret
    exact ⟨rfl, _, only_set10 HO.out, HE.out, HR.out⟩
  · have hd : (decide (0 < fu)) = false := by simpa using hp
    have HF : Hid (fuseN fu = fu) := Lib.hid (by unfold fuseN; rw [if_neg hp])
    have HDo := Lib.hid (HD.out _ HO.out (by rw [HF.out]; exact HK.out))
    clear hf hf1 hf2
    go_wp2_with fail
    refine HDo.out.mono ?_; rintro e w2 ⟨rfl, hR⟩
    have HR := Lib.hid hR
    clear hR
    go_wp2_with fail
    go_ret
    exact ⟨rfl, _, HO.out, by rw [HF.out]; exact HK.out, HR.out⟩
set_option maxHeartbeats 2000000 in
set_option maxRecDepth 100000 in
theorem chg_sync (g bm : Nat) (q fu : Int) (cl c0 c1 : Value) (R : World → World → Prop) (w : World) (h : Blk w g 50 #[.map (some bm), .int .i64 q, .int .i64 fu, .bool false]) (hf : ¬ fu = 0) (hf1 : -1 ≤ fu) (hf2 : fu ≤ 9223372036854775807)
    (hask : Calls Tryz.prog 40 #[.pointer (some ⟨g, 0, none⟩), cl] w (Gives (.int .i64 0) w))
    (hdo : ∀ W, Only [g] w W → Blk W g 50 #[.map (some bm), .int .i64 q, .int .i64 (fuseN fu), .bool false] → Calls Tryz.prog 30 #[c0, c1] W fun e w' => e = .returned (.tuple #[]) ∧ R W w') :
    Calls Tryz.prog 15 #[.pointer (some ⟨g, 0, none⟩), cl, .func (.func 30) #[] #[c0, c1]] w (DoneR g bm q fu R w) := by
  have HA := Lib.hid hask
  have HH := Lib.hid h
  have HD := Lib.hid hdo
  clear hask h hdo
  have hfb : (fu == 0) = false := by simpa using hf
  go_enter Tryz.func15, Tryz.ntmps15
  go_wp2_with fail
  refine HA.out.mono ?_; rintro e w1 ⟨rfl, b1⟩
  have hk := HH.out.later b1
  have h2 := hk.cell 2 rfl
  have f2 := hk.free 2
  have hl := hk.lt
  have HK := Lib.hid hk
  have HO := Lib.hid (only_below b1 [g])
  clear b1 hk
  by_cases hp : 0 < fu
  · have hd := Lib.hid (wrap_dec hp hf2)
    have HF : Hid (fuseN fu = fu - 1) := Lib.hid (by unfold fuseN; rw [if_pos hp])
    have hk2 := setCell_block HK.out (o := 2) (by simp) (.int .i64 (fu - 1))
    have HDo : Hid (Calls Tryz.prog 30 #[c0, c1] (w1.setCell ⟨g, 2, none⟩ (.int .i64 (fu - 1))) fun e w' => e = .returned (.tuple #[]) ∧ R (w1.setCell ⟨g, 2, none⟩ (.int .i64 (fu - 1))) w') := Lib.hid (HD.out _ (only_set10 HO.out) (by rw [HF.out]; simpa using hk2))
    have HE : Hid (Blk (w1.setCell ⟨g, 2, none⟩ (.int .i64 (fu - 1))) g 50 #[.map (some bm), .int .i64 q, .int .i64 (fuseN fu), .bool false]) := Lib.hid (by rw [HF.out]; simpa using hk2)
    clear hk2 hf hf1
    go_wp2_with fail
    try rw [hd.out]
    refine HDo.out.mono ?_; rintro e w2 ⟨rfl, hR⟩
    have HR := Lib.hid hR
    clear hR
    go_wp2_with fail
    go_ret
    exact ⟨rfl, _, only_set10 HO.out, HE.out, HR.out⟩
  · have hd : (decide (0 < fu)) = false := by simpa using hp
    have HF : Hid (fuseN fu = fu) := Lib.hid (by unfold fuseN; rw [if_neg hp])
    have HDo := Lib.hid (HD.out _ HO.out (by rw [HF.out]; exact HK.out))
    clear hf hf1 hf2
    go_wp2_with fail
    refine HDo.out.mono ?_; rintro e w2 ⟨rfl, hR⟩
    have HR := Lib.hid hR
    clear hR
    go_wp2_with fail
    go_ret
    exact ⟨rfl, _, HO.out, by rw [HF.out]; exact HK.out, HR.out⟩
end Go.Proofs.YtmbfhmjcphoddaaGreatDoor.Gm
