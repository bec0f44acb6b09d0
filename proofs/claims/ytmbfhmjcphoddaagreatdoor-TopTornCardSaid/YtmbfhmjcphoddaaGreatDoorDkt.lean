/- Layer 10: the calls that change something, whole. -/
import Derived.Test.YtmbfhmjcphoddaaGreatDoorDkh
import Derived.Laws.EntriesVeiled
import Derived.Test.YtmbfhmjcphoddaaGreatDoorDkg
import Derived.Test.YtmbfhmjcphoddaaGreatDoorDkq
import Derived.Test.YtmbfhmjcphoddaaGreatDoorDkp
/- Layer 10: the calls that change something, as they come to change. -/
set_option linter.unusedSimpArgs false
set_option linter.unusedVariables false
namespace Go.Proofs.YtmbfhmjcphoddaaGreatDoor.Gm
open Go Go.RowKit Go.Maps
attribute [local go_sem ↓] Go.wp_at_zero Go.wp_at_succ

/-- The two boxes of a call. -/
structure LkA (w : World) (bn bd : Nat) (a : Option Addr) (n : List UInt8) : Prop where
  n : Blk w bn 9 #[encStr n]
  d : Blk w bd 26 #[.pointer a]
theorem LkA.later {w w' : World} {bn bd : Nat} {a : Option Addr} {n : List UInt8} (h : LkA w bn bd a n) (hb : Below w.heap.size w w') : LkA w' bn bd a n := ⟨h.n.later hb, h.d.later hb⟩
theorem LkA.lk {w : World} {bn bd g : Nat} {n : List UInt8} (h : LkA w bn bd (some ⟨g, 0, none⟩) n) : Lk w bn bd g n := ⟨h.n, h.d⟩
/-- The closure that lacks answered. -/
abbrev lackF (bn bd : Nat) : Value := .func (.func 47) #[] #[.pointer (some ⟨bn, 0, none⟩), .pointer (some ⟨bd, 0, none⟩)]
abbrev ptr0 (b : Nat) : Value := .pointer (some ⟨b, 0, none⟩)
/-- What a call answers: a code, and what is left. -/
abbrev AnsQ (Q : Int → World → Prop) : Ending → World → Prop := fun e w' => ∃ c : Int, e = .returned (.int .i64 c) ∧ Q c w'
/-- Two boxes more. -/
theorem boxes2 (w : World) (a : Option Addr) (n : List UInt8) : LkA ((w.alloc (.cells #[.pointer a] 26)).alloc (.cells #[encStr n] 9)) (w.heap.size + 1) w.heap.size a n ∧ Below w.heap.size w ((w.alloc (.cells #[.pointer a] 26)).alloc (.cells #[encStr n] 9)) := by
  have hb1 := below_one w (.cells #[.pointer a] 26)
  have hb2 := below_one (w.alloc (.cells #[.pointer a] 26)) (.cells #[encStr n] 9)
  have k1 := Blk.new w 26 #[.pointer a]
  have k2 := Blk.new (w.alloc (.cells #[.pointer a] 26)) 9 #[encStr n]
  have hs : (w.alloc (.cells #[.pointer a] 26)).heap.size = w.heap.size + 1 := by simp
  rw [hs] at k2
  exact ⟨⟨k2, k1.later hb2⟩, then_ hb1 hb2⟩
def LacksA (a : Option Addr) (n : List UInt8) (w : World) (e : Ending) (w' : World) : Prop := e = .returned (lackF (w.heap.size + 1) w.heap.size) ∧ LkA w' (w.heap.size + 1) w.heap.size a n ∧ Below w.heap.size w w'
theorem lacks_gen (a : Option Addr) (n : List UInt8) (w : World) : Calls Tryz.prog 26 #[.pointer a, encStr n] w (LacksA a n w) := by
  obtain ⟨hk, hb⟩ := boxes2 w a n
  have HB := Lib.hid hb
  have HK := Lib.hid hk
  clear hk hb
  unfold encStr at *
  go_enter Tryz.func26, Tryz.ntmps26
  go_wp2
  go_ret
  exact ⟨by simp, HK.out, HB.out⟩
set_option maxHeartbeats 2000000 in
theorem Create_gen (a : Option Addr) (n : List UInt8) (w : World) (Q : Int → World → Prop)
    (HC : ∀ W bn bd, Below w.heap.size w W → LkA W bn bd a n → Calls Tryz.prog 15 #[.pointer a, .func (.func 16) #[] #[ptr0 bn, ptr0 bd], .func (.func 19) #[] #[ptr0 bd, ptr0 bn]] W (AnsQ Q)) :
    Calls Tryz.prog 5 #[.pointer a, encStr n] w (AnsQ Q) := by
  obtain ⟨hk, hb⟩ := boxes2 w a n
  have HH := Lib.hid (HC _ _ _ hb hk)
  have HK := Lib.hid hk
  clear hk hb HC
  unfold encStr at *
  go_enter Tryz.func5, Tryz.ntmps5
  go_wp2_with fail
  refine (HH.out).mono ?_; rintro e w1 ⟨c, rfl, hQ⟩
  have HQ := Lib.hid hQ
  clear hQ
  go_wp2_with fail
  go_ret
  exact ⟨c, rfl, HQ.out⟩
set_option maxHeartbeats 2000000 in
theorem Append_gen (a : Option Addr) (n : List UInt8) (p : Option Addr) (k cc : Nat) (w : World) (Q : Int → World → Prop)
    (HC : ∀ W bl bn bd bn2 bd2 bb, Below w.heap.size w W → LkA W bn bd a n → LkA W bn2 bd2 a n → Blk W bl 53 #[lackF bn bd] → Blk W bb 25 #[.slice p k cc] → Calls Tryz.prog 15 #[.pointer a, .func (.func 27) #[] #[ptr0 bl, ptr0 bd2, ptr0 bb], .func (.func 29) #[] #[ptr0 bd2, ptr0 bn2, ptr0 bb]] W (AnsQ Q)) :
    Calls Tryz.prog 9 #[.pointer a, encStr n, .slice p k cc] w (AnsQ Q) := by
  obtain ⟨hk, hb⟩ := boxes2 w a n
  have hb3 := below_one ((w.alloc (.cells #[.pointer a] 26)).alloc (.cells #[encStr n] 9)) (.cells #[.slice p k cc] 25)
  have hk3 := Blk.new ((w.alloc (.cells #[.pointer a] 26)).alloc (.cells #[encStr n] 9)) 25 #[.slice p k cc]
  have hs : ((w.alloc (.cells #[.pointer a] 26)).alloc (.cells #[encStr n] 9)).heap.size = w.heap.size + 1 + 1 := by simp
  rw [hs] at hk3
  have HB := Lib.hid (then_ hb hb3)
  have HK := Lib.hid (hk.later hb3)
  have HK3 := Lib.hid hk3
  have HCC := Lib.hid HC
  have HLk := Lib.hid (fun W => lacks_gen a n W)
  clear hk hb hb3 hk3 hs HC
  unfold encStr at HB HK HK3 HLk HCC
  unfold encStr
  go_enter Tryz.func9, Tryz.ntmps9
  go_wp2_with fail
  refine (HLk.out _).mono ?_; rintro e w1 ⟨rfl, hk1, b1⟩
  have HB1 := Lib.hid (then_ HB.out b1)
  have HKo := Lib.hid (HK.out.later b1)
  have HKt := Lib.hid (HK3.out.later b1)
  have HK1 := Lib.hid hk1
  have c1 := HKo.out.d.cell 0 rfl
  have l1 := HKo.out.d.lt
  clear hk1 b1
  obtain ⟨bq, hbq⟩ : ∃ bq, (((w.alloc (.cells #[.pointer a] 26)).alloc (.cells #[.string ⟨n.toArray⟩] 9)).alloc (.cells #[.slice p k cc] 25)).heap.size = bq := ⟨_, rfl⟩
  rw [hbq] at HK1
  rw [hbq]
  clear hbq
  go_wp2_with fail
  have hbl := below_one w1 (.cells #[lackF (bq + 1) bq] 53)
  have HH := Lib.hid (HCC.out _ w1.heap.size (bq + 1) bq (w.heap.size + 1) w.heap.size (w.heap.size + 1 + 1) (then_ HB1.out hbl) (HK1.out.later hbl) (HKo.out.later hbl) (Blk.new w1 53 #[lackF (bq + 1) bq]) (HKt.out.later hbl))
  clear hbl
  refine HH.out.mono ?_; rintro e w2 ⟨c, rfl, hQ⟩
  have HQ := Lib.hid hQ
  clear hQ
  go_wp2_with fail
  go_ret
  exact ⟨c, rfl, HQ.out⟩
set_option maxHeartbeats 4000000 in
set_option maxRecDepth 100000 in
theorem Sync_gen (a : Option Addr) (n : List UInt8) (w : World) (Q : Int → World → Prop)
    (HC : ∀ W bn bd bn2 bd2, Below w.heap.size w W → LkA W bn bd a n → LkA W bn2 bd2 a n → Calls Tryz.prog 15 #[.pointer a, lackF bn bd, .func (.func 30) #[] #[ptr0 bd2, ptr0 bn2]] W (AnsQ Q)) :
    Calls Tryz.prog 10 #[.pointer a, encStr n] w (AnsQ Q) := by
  obtain ⟨hk, hb⟩ := boxes2 w a n
  have HB := Lib.hid hb
  have HK := Lib.hid hk
  have HCC := Lib.hid HC
  have HLk := Lib.hid (fun W => lacks_gen a n W)
  clear hk hb HC
  unfold encStr at HB HK HLk HCC
  unfold encStr
  go_enter Tryz.func10, Tryz.ntmps10
  go_wp2_with fail
  obtain ⟨W2, hW2⟩ : ∃ W2, (w.alloc (.cells #[.pointer a] 26)).alloc (.cells #[.string ⟨n.toArray⟩] 9) = W2 := ⟨_, rfl⟩
  rw [hW2] at HB HK
  try rw [hW2]
  clear hW2
  have c1 := HK.out.d.cell 0 rfl
  have l1 := HK.out.d.lt
  have c2 := HK.out.n.cell 0 rfl
  have l2 := HK.out.n.lt
  go_region_law (first
    | (go_simp; go_at_call 26; refine (HLk.out W2.drew).mono ?_; rintro e w1 ⟨rfl, hk1, b1'⟩; have b1 : Below W2.heap.size W2 w1 := ⟨b1'.os, b1'.tape, b1'.output, b1'.size, b1'.block⟩; have HB1 := Lib.hid (then_ HB.out b1); have HKo := Lib.hid (HK.out.later b1); have HK1 := Lib.hid hk1; have d1 := HKo.out.d.cell 0 rfl; have dl := HKo.out.d.lt; have HH := Lib.hid (HCC.out w1 _ _ _ _ HB1.out HK1.out HKo.out); clear hk1 b1 b1')
    | (go_simp; go_at_call 15; refine HH.out.mono ?_; rintro e w2 ⟨c, rfl, hQ⟩; have HQ := Lib.hid hQ; clear hQ))
  all_goals (
    go_wp2_with fail
    go_ret
    exact ⟨c, rfl, HQ.out⟩)
end Go.Proofs.YtmbfhmjcphoddaaGreatDoor.Gm
/- Layer 10: ask, for one closure. -/
set_option linter.unusedSimpArgs false
set_option linter.unusedVariables false
namespace Go.Proofs.YtmbfhmjcphoddaaGreatDoor.Gm
open Go Go.RowKit Go.Maps
attribute [local go_sem ↓] Go.wp_at_zero Go.wp_at_succ

set_option maxHeartbeats 4000000 in
set_option maxRecDepth 100000 in
theorem ask_append (g bm : Nat) (q fu : Int) (c0 c1 c2 : Value) (ans : Int → Bool) (w : World) (h : Blk w g 50 #[.map (some bm), .int .i64 q, .int .i64 fu, .bool false])
    (hans : ∀ W, Below w.heap.size w W → ∀ err, err10 err → Calls Tryz.prog 27 #[.int .i64 err, c0, c1, c2] W (Gives (.bool (ans err)) W)) :
    Calls Tryz.prog 40 #[.pointer (some ⟨g, 0, none⟩), .func (.func 27) #[] #[c0, c1, c2]] w (Gives (.int .i64 (firstE ans)) w) := by
  have HM := Lib.hid (dmade_yes g bm q fu false w h)
  have HH := Lib.hid h
  have HA := Lib.hid hans
  clear h hans
  go_enter Tryz.func40, Tryz.ntmps40
  go_wp2_with fail
  refine HM.out.mono ?_; rintro e w1 ⟨rfl, b1⟩
  have h3 := (HH.out.later b1).cell 3 rfl
  have hl := (HH.out.later b1).lt
  have HB := Lib.hid b1
  clear b1
  go_wp2_with fail
  clear h3 hl
  go_loopw [15, 6] (fun i _ wr => ∃ k : Nat, k ≤ 4 ∧ i = .int .i64 k ∧ Hid (preE ans k) ∧ Hid (Below w.heap.size w wr)) (fun i _ _ => 4 - (intOf i).toNat)
  case atStart => exact ⟨0, by omega, rfl, Lib.hid ⟨fun h => by omega, fun h => by omega, fun h => by omega, fun h => by omega⟩, HB⟩
  case round =>
    obtain ⟨k, hk, rfl, HP, HBr⟩ := hrel
    rcases (show k = 0 ∨ k = 1 ∨ k = 2 ∨ k = 3 ∨ k = 4 by omega) with rfl | rfl | rfl | rfl | rfl
    · cases hv : ans 1 with
      | true =>
        have HC := Lib.hid (HA.out _ HBr.out 1 (by unfold err10; omega))
        rw [hv] at HC
        have HV : Hid (firstE ans = 1) := Lib.hid (by simp [firstE, hv])
        clear hv
        have hix := (idx_err wr).1 ()
        go_wp2_with fail
        refine HC.out.mono ?_; rintro e w2 ⟨rfl, b2⟩
        have HB2 := Lib.hid (then_ HBr.out b2)
        clear b2 hix
        go_wp2_with fail
        go_ret
        exact ⟨ret_int (by rw [HV.out]), HB2.out⟩
      | false =>
        have HC := Lib.hid (HA.out _ HBr.out 1 (by unfold err10; omega))
        rw [hv] at HC
        have HV : Hid (preE ans 1) := Lib.hid ⟨fun _ => hv, fun h => by omega, fun h => by omega, fun h => by omega⟩
        clear hv
        have hix := (idx_err wr).1 ()
        go_wp2_with fail
        refine HC.out.mono ?_; rintro e w2 ⟨rfl, b2⟩
        have HB2 := Lib.hid (then_ HBr.out b2)
        clear b2 hix
        go_wp2_with fail
        go_roundw
        case rel => exact ⟨1, by omega, by simp, HV, HB2⟩
        case measure => simp [intOf]
    · cases hv : ans 6 with
      | true =>
        have HC := Lib.hid (HA.out _ HBr.out 6 (by unfold err10; omega))
        rw [hv] at HC
        have HV : Hid (firstE ans = 6) := Lib.hid (by simp [firstE, hv, HP.out.1 (by omega)])
        clear hv
        have hix := (idx_err wr).2.1
        go_wp2_with fail
        refine HC.out.mono ?_; rintro e w2 ⟨rfl, b2⟩
        have HB2 := Lib.hid (then_ HBr.out b2)
        clear b2 hix
        go_wp2_with fail
        go_ret
        exact ⟨ret_int (by rw [HV.out]), HB2.out⟩
      | false =>
        have HC := Lib.hid (HA.out _ HBr.out 6 (by unfold err10; omega))
        rw [hv] at HC
        have HV : Hid (preE ans 2) := Lib.hid ⟨fun _ => HP.out.1 (by omega), fun _ => hv, fun h => by omega, fun h => by omega⟩
        clear hv
        have hix := (idx_err wr).2.1
        go_wp2_with fail
        refine HC.out.mono ?_; rintro e w2 ⟨rfl, b2⟩
        have HB2 := Lib.hid (then_ HBr.out b2)
        clear b2 hix
        go_wp2_with fail
        go_roundw
        case rel => exact ⟨2, by omega, by simp, HV, HB2⟩
        case measure => simp [intOf]
    · cases hv : ans 9 with
      | true =>
        have HC := Lib.hid (HA.out _ HBr.out 9 (by unfold err10; omega))
        rw [hv] at HC
        have HV : Hid (firstE ans = 9) := Lib.hid (by simp [firstE, hv, HP.out.1 (by omega), HP.out.2.1 (by omega)])
        clear hv
        have hix := (idx_err wr).2.2.1
        go_wp2_with fail
        refine HC.out.mono ?_; rintro e w2 ⟨rfl, b2⟩
        have HB2 := Lib.hid (then_ HBr.out b2)
        clear b2 hix
        go_wp2_with fail
        go_ret
        exact ⟨ret_int (by rw [HV.out]), HB2.out⟩
      | false =>
        have HC := Lib.hid (HA.out _ HBr.out 9 (by unfold err10; omega))
        rw [hv] at HC
        have HV : Hid (preE ans 3) := Lib.hid ⟨fun _ => HP.out.1 (by omega), fun _ => HP.out.2.1 (by omega), fun _ => hv, fun h => by omega⟩
        clear hv
        have hix := (idx_err wr).2.2.1
        go_wp2_with fail
        refine HC.out.mono ?_; rintro e w2 ⟨rfl, b2⟩
        have HB2 := Lib.hid (then_ HBr.out b2)
        clear b2 hix
        go_wp2_with fail
        go_roundw
        case rel => exact ⟨3, by omega, by simp, HV, HB2⟩
        case measure => simp [intOf]
    · cases hv : ans 7 with
      | true =>
        have HC := Lib.hid (HA.out _ HBr.out 7 (by unfold err10; omega))
        rw [hv] at HC
        have HV : Hid (firstE ans = 7) := Lib.hid (by simp [firstE, hv, HP.out.1 (by omega), HP.out.2.1 (by omega), HP.out.2.2.1 (by omega)])
        clear hv
        have hix := (idx_err wr).2.2.2
        go_wp2_with fail
        refine HC.out.mono ?_; rintro e w2 ⟨rfl, b2⟩
        have HB2 := Lib.hid (then_ HBr.out b2)
        clear b2 hix
        go_wp2_with fail
        go_ret
        exact ⟨ret_int (by rw [HV.out]), HB2.out⟩
      | false =>
        have HC := Lib.hid (HA.out _ HBr.out 7 (by unfold err10; omega))
        rw [hv] at HC
        have HV : Hid (preE ans 4) := Lib.hid ⟨fun _ => HP.out.1 (by omega), fun _ => HP.out.2.1 (by omega), fun _ => HP.out.2.2.1 (by omega), fun _ => hv⟩
        clear hv
        have hix := (idx_err wr).2.2.2
        go_wp2_with fail
        refine HC.out.mono ?_; rintro e w2 ⟨rfl, b2⟩
        have HB2 := Lib.hid (then_ HBr.out b2)
        clear b2 hix
        go_wp2_with fail
        go_roundw
        case rel => exact ⟨4, by omega, by simp, HV, HB2⟩
        case measure => simp [intOf]
    · have HV : Hid (firstE ans = 0) := Lib.hid (by simp [firstE, HP.out.1 (by omega), HP.out.2.1 (by omega), HP.out.2.2.1 (by omega), HP.out.2.2.2 (by omega)])
      go_wp2_with fail
      go_ret
      exact ⟨ret_int (by rw [HV.out]), HBr.out⟩
end Go.Proofs.YtmbfhmjcphoddaaGreatDoor.Gm
/- Layer 10: ask, for one closure. -/
set_option linter.unusedSimpArgs false
set_option linter.unusedVariables false
namespace Go.Proofs.YtmbfhmjcphoddaaGreatDoor.Gm
open Go Go.RowKit Go.Maps
attribute [local go_sem ↓] Go.wp_at_zero Go.wp_at_succ

set_option maxHeartbeats 4000000 in
set_option maxRecDepth 100000 in
theorem ask_create (g bm : Nat) (q fu : Int) (c0 c1 : Value) (ans : Int → Bool) (w : World) (h : Blk w g 50 #[.map (some bm), .int .i64 q, .int .i64 fu, .bool false])
    (hans : ∀ W, Below w.heap.size w W → ∀ err, err10 err → Calls Tryz.prog 16 #[.int .i64 err, c0, c1] W (Gives (.bool (ans err)) W)) :
    Calls Tryz.prog 40 #[.pointer (some ⟨g, 0, none⟩), .func (.func 16) #[] #[c0, c1]] w (Gives (.int .i64 (firstE ans)) w) := by
  have HM := Lib.hid (dmade_yes g bm q fu false w h)
  have HH := Lib.hid h
  have HA := Lib.hid hans
  clear h hans
  go_enter Tryz.func40, Tryz.ntmps40
  go_wp2_with fail
  refine HM.out.mono ?_; rintro e w1 ⟨rfl, b1⟩
  have h3 := (HH.out.later b1).cell 3 rfl
  have hl := (HH.out.later b1).lt
  have HB := Lib.hid b1
  clear b1
  go_wp2_with fail
  clear h3 hl
  go_loopw [15, 6] (fun i _ wr => ∃ k : Nat, k ≤ 4 ∧ i = .int .i64 k ∧ Hid (preE ans k) ∧ Hid (Below w.heap.size w wr)) (fun i _ _ => 4 - (intOf i).toNat)
  case atStart => exact ⟨0, by omega, rfl, Lib.hid ⟨fun h => by omega, fun h => by omega, fun h => by omega, fun h => by omega⟩, HB⟩
  case round =>
    obtain ⟨k, hk, rfl, HP, HBr⟩ := hrel
    rcases (show k = 0 ∨ k = 1 ∨ k = 2 ∨ k = 3 ∨ k = 4 by omega) with rfl | rfl | rfl | rfl | rfl
    · cases hv : ans 1 with
      | true =>
        have HC := Lib.hid (HA.out _ HBr.out 1 (by unfold err10; omega))
        rw [hv] at HC
        have HV : Hid (firstE ans = 1) := Lib.hid (by simp [firstE, hv])
        clear hv
        have hix := (idx_err wr).1 ()
        go_wp2_with fail
        refine HC.out.mono ?_; rintro e w2 ⟨rfl, b2⟩
        have HB2 := Lib.hid (then_ HBr.out b2)
        clear b2 hix
        go_wp2_with fail
        go_ret
        exact ⟨ret_int (by rw [HV.out]), HB2.out⟩
      | false =>
        have HC := Lib.hid (HA.out _ HBr.out 1 (by unfold err10; omega))
        rw [hv] at HC
        have HV : Hid (preE ans 1) := Lib.hid ⟨fun _ => hv, fun h => by omega, fun h => by omega, fun h => by omega⟩
        clear hv
        have hix := (idx_err wr).1 ()
        go_wp2_with fail
        refine HC.out.mono ?_; rintro e w2 ⟨rfl, b2⟩
        have HB2 := Lib.hid (then_ HBr.out b2)
        clear b2 hix
        go_wp2_with fail
        go_roundw
        case rel => exact ⟨1, by omega, by simp, HV, HB2⟩
        case measure => simp [intOf]
    · cases hv : ans 6 with
      | true =>
        have HC := Lib.hid (HA.out _ HBr.out 6 (by unfold err10; omega))
        rw [hv] at HC
        have HV : Hid (firstE ans = 6) := Lib.hid (by simp [firstE, hv, HP.out.1 (by omega)])
        clear hv
        have hix := (idx_err wr).2.1
        go_wp2_with fail
        refine HC.out.mono ?_; rintro e w2 ⟨rfl, b2⟩
        have HB2 := Lib.hid (then_ HBr.out b2)
        clear b2 hix
        go_wp2_with fail
        go_ret
        exact ⟨ret_int (by rw [HV.out]), HB2.out⟩
      | false =>
        have HC := Lib.hid (HA.out _ HBr.out 6 (by unfold err10; omega))
        rw [hv] at HC
        have HV : Hid (preE ans 2) := Lib.hid ⟨fun _ => HP.out.1 (by omega), fun _ => hv, fun h => by omega, fun h => by omega⟩
        clear hv
        have hix := (idx_err wr).2.1
        go_wp2_with fail
        refine HC.out.mono ?_; rintro e w2 ⟨rfl, b2⟩
        have HB2 := Lib.hid (then_ HBr.out b2)
        clear b2 hix
        go_wp2_with fail
        go_roundw
        case rel => exact ⟨2, by omega, by simp, HV, HB2⟩
        case measure => simp [intOf]
    · cases hv : ans 9 with
      | true =>
        have HC := Lib.hid (HA.out _ HBr.out 9 (by unfold err10; omega))
        rw [hv] at HC
        have HV : Hid (firstE ans = 9) := Lib.hid (by simp [firstE, hv, HP.out.1 (by omega), HP.out.2.1 (by omega)])
        clear hv
        have hix := (idx_err wr).2.2.1
        go_wp2_with fail
        refine HC.out.mono ?_; rintro e w2 ⟨rfl, b2⟩
        have HB2 := Lib.hid (then_ HBr.out b2)
        clear b2 hix
        go_wp2_with fail
        go_ret
        exact ⟨ret_int (by rw [HV.out]), HB2.out⟩
      | false =>
        have HC := Lib.hid (HA.out _ HBr.out 9 (by unfold err10; omega))
        rw [hv] at HC
        have HV : Hid (preE ans 3) := Lib.hid ⟨fun _ => HP.out.1 (by omega), fun _ => HP.out.2.1 (by omega), fun _ => hv, fun h => by omega⟩
        clear hv
        have hix := (idx_err wr).2.2.1
        go_wp2_with fail
        refine HC.out.mono ?_; rintro e w2 ⟨rfl, b2⟩
        have HB2 := Lib.hid (then_ HBr.out b2)
        clear b2 hix
        go_wp2_with fail
        go_roundw
        case rel => exact ⟨3, by omega, by simp, HV, HB2⟩
        case measure => simp [intOf]
    · cases hv : ans 7 with
      | true =>
        have HC := Lib.hid (HA.out _ HBr.out 7 (by unfold err10; omega))
        rw [hv] at HC
        have HV : Hid (firstE ans = 7) := Lib.hid (by simp [firstE, hv, HP.out.1 (by omega), HP.out.2.1 (by omega), HP.out.2.2.1 (by omega)])
        clear hv
        have hix := (idx_err wr).2.2.2
        go_wp2_with fail
        refine HC.out.mono ?_; rintro e w2 ⟨rfl, b2⟩
        have HB2 := Lib.hid (then_ HBr.out b2)
        clear b2 hix
        go_wp2_with fail
        go_ret
        exact ⟨ret_int (by rw [HV.out]), HB2.out⟩
      | false =>
        have HC := Lib.hid (HA.out _ HBr.out 7 (by unfold err10; omega))
        rw [hv] at HC
        have HV : Hid (preE ans 4) := Lib.hid ⟨fun _ => HP.out.1 (by omega), fun _ => HP.out.2.1 (by omega), fun _ => HP.out.2.2.1 (by omega), fun _ => hv⟩
        clear hv
        have hix := (idx_err wr).2.2.2
        go_wp2_with fail
        refine HC.out.mono ?_; rintro e w2 ⟨rfl, b2⟩
        have HB2 := Lib.hid (then_ HBr.out b2)
        clear b2 hix
        go_wp2_with fail
        go_roundw
        case rel => exact ⟨4, by omega, by simp, HV, HB2⟩
        case measure => simp [intOf]
    · have HV : Hid (firstE ans = 0) := Lib.hid (by simp [firstE, HP.out.1 (by omega), HP.out.2.1 (by omega), HP.out.2.2.1 (by omega), HP.out.2.2.2 (by omega)])
      go_wp2_with fail
      go_ret
      exact ⟨ret_int (by rw [HV.out]), HBr.out⟩
end Go.Proofs.YtmbfhmjcphoddaaGreatDoor.Gm
/- Layer 10: ask, for one closure. -/
set_option linter.unusedSimpArgs false
set_option linter.unusedVariables false
namespace Go.Proofs.YtmbfhmjcphoddaaGreatDoor.Gm
open Go Go.RowKit Go.Maps
attribute [local go_sem ↓] Go.wp_at_zero Go.wp_at_succ

set_option maxHeartbeats 4000000 in
set_option maxRecDepth 100000 in
theorem ask_lacks (g bm : Nat) (q fu : Int) (c0 c1 : Value) (ans : Int → Bool) (w : World) (h : Blk w g 50 #[.map (some bm), .int .i64 q, .int .i64 fu, .bool false])
    (hans : ∀ W, Below w.heap.size w W → ∀ err, err10 err → Calls Tryz.prog 47 #[.int .i64 err, c0, c1] W (Gives (.bool (ans err)) W)) :
    Calls Tryz.prog 40 #[.pointer (some ⟨g, 0, none⟩), .func (.func 47) #[] #[c0, c1]] w (Gives (.int .i64 (firstE ans)) w) := by
  have HM := Lib.hid (dmade_yes g bm q fu false w h)
  have HH := Lib.hid h
  have HA := Lib.hid hans
  clear h hans
  go_enter Tryz.func40, Tryz.ntmps40
  go_wp2_with fail
  refine HM.out.mono ?_; rintro e w1 ⟨rfl, b1⟩
  have h3 := (HH.out.later b1).cell 3 rfl
  have hl := (HH.out.later b1).lt
  have HB := Lib.hid b1
  clear b1
  go_wp2_with fail
  clear h3 hl
  go_loopw [15, 6] (fun i _ wr => ∃ k : Nat, k ≤ 4 ∧ i = .int .i64 k ∧ Hid (preE ans k) ∧ Hid (Below w.heap.size w wr)) (fun i _ _ => 4 - (intOf i).toNat)
  case atStart => exact ⟨0, by omega, rfl, Lib.hid ⟨fun h => by omega, fun h => by omega, fun h => by omega, fun h => by omega⟩, HB⟩
  case round =>
    obtain ⟨k, hk, rfl, HP, HBr⟩ := hrel
    rcases (show k = 0 ∨ k = 1 ∨ k = 2 ∨ k = 3 ∨ k = 4 by omega) with rfl | rfl | rfl | rfl | rfl
    · cases hv : ans 1 with
      | true =>
        have HC := Lib.hid (HA.out _ HBr.out 1 (by unfold err10; omega))
        rw [hv] at HC
        have HV : Hid (firstE ans = 1) := Lib.hid (by simp [firstE, hv])
        clear hv
        have hix := (idx_err wr).1 ()
        go_wp2_with fail
        refine HC.out.mono ?_; rintro e w2 ⟨rfl, b2⟩
        have HB2 := Lib.hid (then_ HBr.out b2)
        clear b2 hix
        go_wp2_with fail
        go_ret
        exact ⟨ret_int (by rw [HV.out]), HB2.out⟩
      | false =>
        have HC := Lib.hid (HA.out _ HBr.out 1 (by unfold err10; omega))
        rw [hv] at HC
        have HV : Hid (preE ans 1) := Lib.hid ⟨fun _ => hv, fun h => by omega, fun h => by omega, fun h => by omega⟩
        clear hv
        have hix := (idx_err wr).1 ()
        go_wp2_with fail
        refine HC.out.mono ?_; rintro e w2 ⟨rfl, b2⟩
        have HB2 := Lib.hid (then_ HBr.out b2)
        clear b2 hix
        go_wp2_with fail
        go_roundw
        case rel => exact ⟨1, by omega, by simp, HV, HB2⟩
        case measure => simp [intOf]
    · cases hv : ans 6 with
      | true =>
        have HC := Lib.hid (HA.out _ HBr.out 6 (by unfold err10; omega))
        rw [hv] at HC
        have HV : Hid (firstE ans = 6) := Lib.hid (by simp [firstE, hv, HP.out.1 (by omega)])
        clear hv
        have hix := (idx_err wr).2.1
        go_wp2_with fail
        refine HC.out.mono ?_; rintro e w2 ⟨rfl, b2⟩
        have HB2 := Lib.hid (then_ HBr.out b2)
        clear b2 hix
        go_wp2_with fail
        go_ret
        exact ⟨ret_int (by rw [HV.out]), HB2.out⟩
      | false =>
        have HC := Lib.hid (HA.out _ HBr.out 6 (by unfold err10; omega))
        rw [hv] at HC
        have HV : Hid (preE ans 2) := Lib.hid ⟨fun _ => HP.out.1 (by omega), fun _ => hv, fun h => by omega, fun h => by omega⟩
        clear hv
        have hix := (idx_err wr).2.1
        go_wp2_with fail
        refine HC.out.mono ?_; rintro e w2 ⟨rfl, b2⟩
        have HB2 := Lib.hid (then_ HBr.out b2)
        clear b2 hix
        go_wp2_with fail
        go_roundw
        case rel => exact ⟨2, by omega, by simp, HV, HB2⟩
        case measure => simp [intOf]
    · cases hv : ans 9 with
      | true =>
        have HC := Lib.hid (HA.out _ HBr.out 9 (by unfold err10; omega))
        rw [hv] at HC
        have HV : Hid (firstE ans = 9) := Lib.hid (by simp [firstE, hv, HP.out.1 (by omega), HP.out.2.1 (by omega)])
        clear hv
        have hix := (idx_err wr).2.2.1
        go_wp2_with fail
        refine HC.out.mono ?_; rintro e w2 ⟨rfl, b2⟩
        have HB2 := Lib.hid (then_ HBr.out b2)
        clear b2 hix
        go_wp2_with fail
        go_ret
        exact ⟨ret_int (by rw [HV.out]), HB2.out⟩
      | false =>
        have HC := Lib.hid (HA.out _ HBr.out 9 (by unfold err10; omega))
        rw [hv] at HC
        have HV : Hid (preE ans 3) := Lib.hid ⟨fun _ => HP.out.1 (by omega), fun _ => HP.out.2.1 (by omega), fun _ => hv, fun h => by omega⟩
        clear hv
        have hix := (idx_err wr).2.2.1
        go_wp2_with fail
        refine HC.out.mono ?_; rintro e w2 ⟨rfl, b2⟩
        have HB2 := Lib.hid (then_ HBr.out b2)
        clear b2 hix
        go_wp2_with fail
        go_roundw
        case rel => exact ⟨3, by omega, by simp, HV, HB2⟩
        case measure => simp [intOf]
    · cases hv : ans 7 with
      | true =>
        have HC := Lib.hid (HA.out _ HBr.out 7 (by unfold err10; omega))
        rw [hv] at HC
        have HV : Hid (firstE ans = 7) := Lib.hid (by simp [firstE, hv, HP.out.1 (by omega), HP.out.2.1 (by omega), HP.out.2.2.1 (by omega)])
        clear hv
        have hix := (idx_err wr).2.2.2
        go_wp2_with fail
        refine HC.out.mono ?_; rintro e w2 ⟨rfl, b2⟩
        have HB2 := Lib.hid (then_ HBr.out b2)
        clear b2 hix
        go_wp2_with fail
        go_ret
        exact ⟨ret_int (by rw [HV.out]), HB2.out⟩
      | false =>
        have HC := Lib.hid (HA.out _ HBr.out 7 (by unfold err10; omega))
        rw [hv] at HC
        have HV : Hid (preE ans 4) := Lib.hid ⟨fun _ => HP.out.1 (by omega), fun _ => HP.out.2.1 (by omega), fun _ => HP.out.2.2.1 (by omega), fun _ => hv⟩
        clear hv
        have hix := (idx_err wr).2.2.2
        go_wp2_with fail
        refine HC.out.mono ?_; rintro e w2 ⟨rfl, b2⟩
        have HB2 := Lib.hid (then_ HBr.out b2)
        clear b2 hix
        go_wp2_with fail
        go_roundw
        case rel => exact ⟨4, by omega, by simp, HV, HB2⟩
        case measure => simp [intOf]
    · have HV : Hid (firstE ans = 0) := Lib.hid (by simp [firstE, HP.out.1 (by omega), HP.out.2.1 (by omega), HP.out.2.2.1 (by omega), HP.out.2.2.2 (by omega)])
      go_wp2_with fail
      go_ret
      exact ⟨ret_int (by rw [HV.out]), HBr.out⟩
end Go.Proofs.YtmbfhmjcphoddaaGreatDoor.Gm
/- Layer 10: what may be wrong: Truncate. -/
set_option linter.unusedSimpArgs false
set_option linter.unusedVariables false
namespace Go.Proofs.YtmbfhmjcphoddaaGreatDoor.Gm
open Go Go.RowKit Go.Maps
attribute [local go_sem ↓] Go.wp_at_zero Go.wp_at_succ

/-- Is the size more than the file has? -/
def overE (L : List Ent) (n : List UInt8) (z : Int) : Bool := match pickE L n with
  | some x => decide ((x.b.length : Int) < z)
  | none => false
def truncB (L : List Ent) (n : List UInt8) (z : Int) (err : Int) : Bool := lackB L n err || (decide (err = 1) && (decide (z < 0) || overE L n z))
section
variable {B g bm t nn : Nat} {w : World} {D : DataW Value} {L : List Ent} {q fu : Int}
end
end Go.Proofs.YtmbfhmjcphoddaaGreatDoor.Gm
/- Layer 10: ask, for one closure. -/
set_option linter.unusedSimpArgs false
set_option linter.unusedVariables false
namespace Go.Proofs.YtmbfhmjcphoddaaGreatDoor.Gm
open Go Go.RowKit Go.Maps
attribute [local go_sem ↓] Go.wp_at_zero Go.wp_at_succ

end Go.Proofs.YtmbfhmjcphoddaaGreatDoor.Gm
/- Layer 10: ask, for one closure. -/
set_option linter.unusedSimpArgs false
set_option linter.unusedVariables false
namespace Go.Proofs.YtmbfhmjcphoddaaGreatDoor.Gm
open Go Go.RowKit Go.Maps
attribute [local go_sem ↓] Go.wp_at_zero Go.wp_at_succ

end Go.Proofs.YtmbfhmjcphoddaaGreatDoor.Gm
set_option linter.unusedSimpArgs false
set_option linter.unusedVariables false
namespace Go.Proofs.YtmbfhmjcphoddaaGreatDoor.Gm
open Go Go.RowKit Go.Maps

section
variable {B g bm t nn : Nat} {w w' W : World} {D : DataW Value} {L L' : List Ent} {q fu : Int} {off : Bool}
theorem StepD.from_ (h : StepD B g bm t L L' q fu off W w') (hb : Below w.heap.size w W) : StepD B g bm t L L' q fu off w w' := by
  obtain ⟨nn', D', hD, hC, hI⟩ := h
  exact ⟨nn', D', hD, Chg.trans (Chg.below hb) hC (fun i hi => .inl hi), fun k hk => (hI k hk).imp id (fun h => Nat.le_trans hb.size h)⟩
theorem StepD.after (h : StepD B g bm t L L' q fu off W w') (hO : Only [g] w W) : StepD B g bm t L L' q fu off w w' := by
  obtain ⟨nn', D', hD, hC, hI⟩ := h
  exact ⟨nn', D', hD, Chg.trans (Chg.only hO (fun k hk => .inl (List.mem_singleton.1 hk))) hC (fun i hi => .inl hi), fun k hk => (hI k hk).imp id (fun h => Nat.le_trans hO.size h)⟩
/-- What a call that changes something leaves: an error; the power gone; or what is asked. -/
def MutQ (B g bm t : Nat) (L : List Ent) (q fu : Int) (c0 : Int) (R : List Ent → Prop) (w : World) (c : Int) (w' : World) : Prop :=
  (¬ c0 = 0 ∧ c = c0 ∧ Below w.heap.size w w') ∨ (c0 = 0 ∧ fu = 0 ∧ c = 8 ∧ StepD B g bm t L L q (-1) true w w') ∨ (c0 = 0 ∧ ¬ fu = 0 ∧ c = 0 ∧ ∃ L', R L' ∧ StepD B g bm t L L' q (fuseN fu) false w w')
theorem MutQ.from_ {c0 : Int} {R : List Ent → Prop} {c : Int} (h : MutQ B g bm t L q fu c0 R W c w') (hb : Below w.heap.size w W) : MutQ B g bm t L q fu c0 R w c w' := by
  rcases h with ⟨h1, h2, h3⟩ | ⟨h1, h2, h3, h4⟩ | ⟨h1, h2, h3, L', h4, h5⟩
  · exact .inl ⟨h1, h2, then_ hb h3⟩
  · exact .inr (.inl ⟨h1, h2, h3, h4.from_ hb⟩)
  · exact .inr (.inr ⟨h1, h2, h3, L', h4, h5.from_ hb⟩)
theorem fuse_range (h1 : -1 ≤ fu ∧ fu ≤ 9223372036854775807) : -1 ≤ fuseN fu ∧ fuseN fu ≤ 9223372036854775807 := by
  unfold fuseN; split <;> omega
theorem mut_of (h : Dsk B g bm t nn W D L q fu false) (c0 : Int) (R : List Ent → Prop) (cl dv : Value) (hask : Calls Tryz.prog 40 #[.pointer (some ⟨g, 0, none⟩), cl] W (Gives (.int .i64 c0) W))
    (hdo : ¬ fu = 0 → c0 = 0 → Calls Tryz.prog 15 #[.pointer (some ⟨g, 0, none⟩), cl, dv] W (DoneR g bm q fu (fun V w' => ∃ L', R L' ∧ StepD B g bm t L L' q (fuseN fu) false V w') W)) :
    Calls Tryz.prog 15 #[.pointer (some ⟨g, 0, none⟩), cl, dv] W (AnsQ (MutQ B g bm t L q fu c0 R W)) := by
  by_cases hc : c0 = 0
  · by_cases hf : fu = 0
    · subst hf
      rw [hc] at hask
      refine (chg_zero g bm q cl dv W h.blk hask).mono fun e w' ⟨he, hb, hO⟩ => ⟨8, he, .inr (.inl ⟨hc, rfl, rfl, nn, D, (h.turn hO hb h.qb (by omega)).up (by omega), Chg.only hO (fun k hk => .inl (List.mem_singleton.1 hk)), fun k hk => .inl hk⟩)⟩
    · refine (hdo hf hc).mono fun e w' ⟨he, V, hO, hb, L', hR, hS⟩ => ⟨0, he, .inr (.inr ⟨hc, hf, rfl, L', hR, hS.after hO⟩)⟩
  · exact (chg_err _ cl dv c0 W hask hc).mono fun e w' ⟨he, hb⟩ => ⟨c0, he, .inl ⟨hc, rfl, hb⟩⟩
theorem blk_only {k : Nat} {t' : TypeId} {cs : Array Value} (hO : Only [g] w w') {cg : Array Value} (hg : Blk w g 50 cg) (hb : Blk w k t' cs) (hne : t' ≠ 50) : Blk w' k t' cs := (hO.2.2.2.2 k hb.lt (fun hm => by
  rw [List.mem_singleton.1 hm] at hb
  exact blk_not hg (fun e => hne e.symm) _ hb)).trans hb
theorem lk_only {bn bd : Nat} {n : List UInt8} (hO : Only [g] w w') {cg : Array Value} (hg : Blk w g 50 cg) (hk : Lk w bn bd g n) : Lk w' bn bd g n := ⟨blk_only hO hg hk.n (by decide), blk_only hO hg hk.d (by decide)⟩
/-- No error of lacks: the file is there. -/
theorem lack_there {n : List UInt8} (h : firstE (lackB L n) = 0) : mayNm n = true ∧ ∃ x, (n, x) ∈ L := by
  unfold firstE lackB at h
  cases hm : mayNm n <;> cases hp : pickE L n <;> simp [hm, hp] at h
  exact ⟨rfl, _, pick_mem hp⟩
set_option maxHeartbeats 1000000 in
theorem Sync_on (h : Dsk B g bm t nn w D L q fu false) (ht : t < 1099511627776) (n : List UInt8) (hn : n.length ≤ 140737488351232)  :
    Calls Tryz.prog 10 #[.pointer (some ⟨g, 0, none⟩), encStr n] w (AnsQ (MutQ B g bm t L q fu (firstE (lackB L n)) (fun L' => ∃ x, (n, x) ∈ L ∧ L' = updE L n { x with s := x.b.length }) w)) := by
  refine Sync_gen (some ⟨g, 0, none⟩) n  w _ (fun W bn bd bn2 bd2 hb hk hk2 => ?_)
  have hW := h.later hb
  refine (mut_of hW (firstE (lackB L n)) (fun L' => ∃ x, (n, x) ∈ L ∧ L' = updE L n { x with s := x.b.length }) _ _ (ask_lacks g bm q fu _ _ (lackB L n) W hW.blk (fun V hV err he => lacks1_any (hW.later hV) n hn bn bd (hk.lk.later hV) err he)) (fun hf hc => ?_)).mono fun e w' ⟨c, he, hm⟩ => ⟨c, he, hm.from_ hb⟩
  obtain ⟨_, x, hx⟩ := lack_there hc
  refine chg_sync g bm q fu _ _ _ _ W hW.blk hf hW.fb.1 hW.fb.2 (hc ▸ ask_lacks g bm q fu _ _ (lackB L n) W hW.blk (fun V hV err he => lacks1_any (hW.later hV) n hn bn bd (hk.lk.later hV) err he)) (fun V hO hbV => (sync1_any (hW.turn hO hbV hW.qb (fuse_range hW.fb)) hx (lk_only hO hW.blk hk2.lk)).mono fun e w' ⟨he, hs⟩ => ⟨he, _, ⟨x, hx, rfl⟩, hs⟩)
set_option maxHeartbeats 1000000 in
theorem Create_on (h : Dsk B g bm t nn w D L q fu false) (ht : t < 1099511627776) (n : List UInt8) (hn : n.length ≤ 140737488351232)  :
    Calls Tryz.prog 5 #[.pointer (some ⟨g, 0, none⟩), encStr n] w (AnsQ (MutQ B g bm t L q fu (firstE (createB L n)) (fun L' => mayNm n = true ∧ pickE L n = none ∧ L.length < 512 ∧ ∃ f, L' = putEd L (n, ⟨f, none, 0, [], 0⟩)) w)) := by
  refine Create_gen (some ⟨g, 0, none⟩) n  w _ (fun W bn bd hb hk => ?_)
  have hW := h.later hb
  refine (mut_of hW (firstE (createB L n)) (fun L' => mayNm n = true ∧ pickE L n = none ∧ L.length < 512 ∧ ∃ f, L' = putEd L (n, ⟨f, none, 0, [], 0⟩)) _ _ (ask_create g bm q fu _ _ (createB L n) W hW.blk (fun V hV err he => create1_any (hW.later hV) n hn bn bd (hk.lk.later hV) err he)) (fun hf hc => ?_)).mono fun e w' ⟨c, he, hm⟩ => ⟨c, he, hm.from_ hb⟩
  have hall : mayNm n = true ∧ pickE L n = none ∧ L.length < 512 := by
    unfold firstE createB at hc
    cases hm : mayNm n <;> cases hp : pickE L n <;> simp [hm, hp] at hc
    exact ⟨rfl, rfl, by omega⟩
  refine chg_create g bm q fu _ _ _ _ W hW.blk hf hW.fb.1 hW.fb.2 (hc ▸ ask_create g bm q fu _ _ (createB L n) W hW.blk (fun V hV err he => create1_any (hW.later hV) n hn bn bd (hk.lk.later hV) err he)) (fun V hO hbV => (create2_any (hW.turn hO hbV hW.qb (fuse_range hW.fb)) ht hall.1 hall.2.1 hall.2.2 (lk_only hO hW.blk hk.lk)).mono fun e w' ⟨he, f, hs⟩ => ⟨he, _, ⟨hall.1, hall.2.1, hall.2.2, f, rfl⟩, hs⟩)
theorem bs_only {v : Value} {b : List UInt8} (hO : Only [g] w w') (hg : Blk w g 50 #[.map (some bm), .int .i64 q, .int .i64 fu, .bool off]) (hb : Bs w v b) : Bs w' v b := by
  rcases hb with h | ⟨a, cap, h1, h2, h3⟩
  · exact .inl h
  · refine .inr ⟨a, cap, h1, h2, fun hl => ?_⟩
    obtain ⟨k, o, rfl, hbl, hc⟩ := h3 hl
    have hkg : k ≠ g := fun e => by
      subst e
      have h0 := hc 0 (List.length_pos_iff.2 hl)
      unfold Blk at hg
      simp only [World.cell?, hg, Nat.add_zero] at h0
      rcases o with _ | _ | _ | _ | o <;> simp [byteV] at h0
    exact ⟨k, o, rfl, Nat.lt_of_lt_of_le hbl hO.size, fun i hi => by
      have e := hO.2.2.2.2 k hbl (fun hm => hkg (List.mem_singleton.1 hm))
      simpa [World.cell?, e] using hc i hi⟩
set_option maxHeartbeats 1000000 in
theorem Append_on (h : Dsk B g bm t nn w D L q fu false) (ht : t < 1099511627776) (n : List UInt8) (hn : n.length ≤ 140737488351232) (p : Option Addr) (cc : Nat) (bs : List UInt8) (hlen : bs.length ≤ 140737488351232) (hBs : Bs w (.slice p bs.length cc) bs) :
    Calls Tryz.prog 9 #[.pointer (some ⟨g, 0, none⟩), encStr n, .slice p bs.length cc] w (AnsQ (MutQ B g bm t L q fu (firstE (appendB L n bs.length q)) (fun L' => ∃ x p' c', (n, x) ∈ L ∧ totE L + bs.length ≤ 4194304 ∧ L' = updE L n ⟨x.f, p', c', x.b ++ bs, x.s⟩) w)) := by
  refine Append_gen (some ⟨g, 0, none⟩) n p bs.length cc w _ (fun W bl bn bd bn2 bd2 bb hb hk hk2 hbl hbb => ?_)
  have hW := h.later hb
  refine (mut_of hW (firstE (appendB L n bs.length q)) (fun L' => ∃ x p' c', (n, x) ∈ L ∧ totE L + bs.length ≤ 4194304 ∧ L' = updE L n ⟨x.f, p', c', x.b ++ bs, x.s⟩) _ _ (ask_append g bm q fu _ _ _ (appendB L n bs.length q) W hW.blk (fun V hV err he => append1_any (hW.later hV) n hn bl bn bd bd2 bb (hk.lk.later hV) (hbl.later hV) (hk2.d.later hV) p bs.length cc (hbb.later hV) hlen err he)) (fun hf hc => ?_)).mono fun e w' ⟨c, he, hm⟩ => ⟨c, he, hm.from_ hb⟩
  have hall : firstE (lackB L n) = 0 ∧ totE L + bs.length ≤ 4194304 := by
    have hq := hW.qb
    unfold firstE appendB at hc
    unfold firstE
    cases h1 : lackB L n 1 <;> cases h6 : lackB L n 6 <;> cases h9 : lackB L n 9 <;> cases h7 : lackB L n 7 <;> simp [h1, h6, h9, h7] at hc ⊢
    omega
  obtain ⟨_, x, hx⟩ := lack_there hall.1
  refine chg_append g bm q fu _ _ _ _ _ W hW.blk hf hW.fb.1 hW.fb.2 (hc ▸ ask_append g bm q fu _ _ _ (appendB L n bs.length q) W hW.blk (fun V hV err he => append1_any (hW.later hV) n hn bl bn bd bd2 bb (hk.lk.later hV) (hbl.later hV) (hk2.d.later hV) p bs.length cc (hbb.later hV) hlen err he)) (fun V hO hbV => (append2_any (hW.turn hO hbV hW.qb (fuse_range hW.fb)) hx (lk_only hO hW.blk hk2.lk) (blk_only hO hW.blk hbb (by decide)) (bs_only hO hW.blk (hBs.below hb)) hall.2).mono fun e w' ⟨he, p', c', hs⟩ => ⟨he, _, ⟨x, p', c', hx, hall.2, rfl⟩, hs⟩)
end
end Go.Proofs.YtmbfhmjcphoddaaGreatDoor.Gm
