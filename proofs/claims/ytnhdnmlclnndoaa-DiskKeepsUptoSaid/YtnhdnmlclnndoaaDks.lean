/- Layer 10: the calls that change something, as they come to change. -/
import Derived.Test.YtnhdnmlclnndoaaDkh
import Derived.Laws.EntriesVeiled
set_option linter.unusedSimpArgs false
set_option linter.unusedVariables false
namespace Go.Proofs.Ytnhdnmlclnndoaa.Gm
open Go Go.RowKit Go.Maps
attribute [local go_sem ↓] Go.wp_at_zero Go.wp_at_succ

/-- The two boxes of a call. -/
structure LkA (w : World) (bn bd : Nat) (a : Option Addr) (n : List UInt8) : Prop where
  n : Blk w bn 9 #[encStr n]
  d : Blk w bd 24 #[.pointer a]
theorem LkA.later {w w' : World} {bn bd : Nat} {a : Option Addr} {n : List UInt8} (h : LkA w bn bd a n) (hb : Below w.heap.size w w') : LkA w' bn bd a n := ⟨h.n.later hb, h.d.later hb⟩
theorem LkA.lk {w : World} {bn bd g : Nat} {n : List UInt8} (h : LkA w bn bd (some ⟨g, 0, none⟩) n) : Lk w bn bd g n := ⟨h.n, h.d⟩
/-- The closure that lacks answered. -/
abbrev lackF (bn bd : Nat) : Value := .func (.func 77) #[] #[.pointer (some ⟨bn, 0, none⟩), .pointer (some ⟨bd, 0, none⟩)]
abbrev ptr0 (b : Nat) : Value := .pointer (some ⟨b, 0, none⟩)
/-- What a call answers: a code, and what is left. -/
abbrev AnsQ (Q : Int → World → Prop) : Ending → World → Prop := fun e w' => ∃ c : Int, e = .returned (.int .i64 c) ∧ Q c w'
/-- Two boxes more. -/
theorem boxes2 (w : World) (a : Option Addr) (n : List UInt8) : LkA ((w.alloc (.cells #[.pointer a] 24)).alloc (.cells #[encStr n] 9)) (w.heap.size + 1) w.heap.size a n ∧ Below w.heap.size w ((w.alloc (.cells #[.pointer a] 24)).alloc (.cells #[encStr n] 9)) := by
  have hb1 := below_one w (.cells #[.pointer a] 24)
  have hb2 := below_one (w.alloc (.cells #[.pointer a] 24)) (.cells #[encStr n] 9)
  have k1 := Blk.new w 24 #[.pointer a]
  have k2 := Blk.new (w.alloc (.cells #[.pointer a] 24)) 9 #[encStr n]
  have hs : (w.alloc (.cells #[.pointer a] 24)).heap.size = w.heap.size + 1 := by simp
  rw [hs] at k2
  exact ⟨⟨k2, k1.later hb2⟩, then_ hb1 hb2⟩
def LacksA (a : Option Addr) (n : List UInt8) (w : World) (e : Ending) (w' : World) : Prop := e = .returned (lackF (w.heap.size + 1) w.heap.size) ∧ LkA w' (w.heap.size + 1) w.heap.size a n ∧ Below w.heap.size w w'
theorem lacks_gen (a : Option Addr) (n : List UInt8) (w : World) : Calls Try.prog 49 #[.pointer a, encStr n] w (LacksA a n w) := by
  obtain ⟨hk, hb⟩ := boxes2 w a n
  have HB := Lib.hid hb
  have HK := Lib.hid hk
  clear hk hb
  unfold encStr at *
  go_enter Try.func49, Try.ntmps49
  go_wp2
  go_ret
  exact ⟨by simp, HK.out, HB.out⟩
set_option maxHeartbeats 2000000 in
theorem Create_gen (a : Option Addr) (n : List UInt8) (w : World) (Q : Int → World → Prop)
    (HC : ∀ W bn bd, Below w.heap.size w W → LkA W bn bd a n → Calls Try.prog 61 #[.pointer a, .func (.func 62) #[] #[ptr0 bn, ptr0 bd], .func (.func 63) #[] #[ptr0 bd, ptr0 bn]] W (AnsQ Q)) :
    Calls Try.prog 27 #[.pointer a, encStr n] w (AnsQ Q) := by
  obtain ⟨hk, hb⟩ := boxes2 w a n
  have HH := Lib.hid (HC _ _ _ hb hk)
  have HK := Lib.hid hk
  clear hk hb HC
  unfold encStr at *
  go_enter Try.func27, Try.ntmps27
  go_wp2_with fail
  refine (HH.out).mono ?_; rintro e w1 ⟨c, rfl, hQ⟩
  have HQ := Lib.hid hQ
  clear hQ
  go_wp2_with fail
  go_ret
  exact ⟨c, rfl, HQ.out⟩
set_option maxHeartbeats 2000000 in
theorem Append_gen (a : Option Addr) (n : List UInt8) (p : Option Addr) (k cc : Nat) (w : World) (Q : Int → World → Prop)
    (HC : ∀ W bl bn bd bn2 bd2 bb, Below w.heap.size w W → LkA W bn bd a n → LkA W bn2 bd2 a n → Blk W bl 79 #[lackF bn bd] → Blk W bb 31 #[.slice p k cc] → Calls Try.prog 61 #[.pointer a, .func (.func 65) #[] #[ptr0 bl, ptr0 bd2, ptr0 bb], .func (.func 66) #[] #[ptr0 bd2, ptr0 bn2, ptr0 bb]] W (AnsQ Q)) :
    Calls Try.prog 28 #[.pointer a, encStr n, .slice p k cc] w (AnsQ Q) := by
  obtain ⟨hk, hb⟩ := boxes2 w a n
  have hb3 := below_one ((w.alloc (.cells #[.pointer a] 24)).alloc (.cells #[encStr n] 9)) (.cells #[.slice p k cc] 31)
  have hk3 := Blk.new ((w.alloc (.cells #[.pointer a] 24)).alloc (.cells #[encStr n] 9)) 31 #[.slice p k cc]
  have hs : ((w.alloc (.cells #[.pointer a] 24)).alloc (.cells #[encStr n] 9)).heap.size = w.heap.size + 1 + 1 := by simp
  rw [hs] at hk3
  have HB := Lib.hid (then_ hb hb3)
  have HK := Lib.hid (hk.later hb3)
  have HK3 := Lib.hid hk3
  have HCC := Lib.hid HC
  have HLk := Lib.hid (fun W => lacks_gen a n W)
  clear hk hb hb3 hk3 hs HC
  unfold encStr at HB HK HK3 HLk HCC
  unfold encStr
  go_enter Try.func28, Try.ntmps28
  go_wp2_with fail
  refine (HLk.out _).mono ?_; rintro e w1 ⟨rfl, hk1, b1⟩
  have HB1 := Lib.hid (then_ HB.out b1)
  have HKo := Lib.hid (HK.out.later b1)
  have HKt := Lib.hid (HK3.out.later b1)
  have HK1 := Lib.hid hk1
  have c1 := HKo.out.d.cell 0 rfl
  have l1 := HKo.out.d.lt
  clear hk1 b1
  obtain ⟨bq, hbq⟩ : ∃ bq, (((w.alloc (.cells #[.pointer a] 24)).alloc (.cells #[.string ⟨n.toArray⟩] 9)).alloc (.cells #[.slice p k cc] 31)).heap.size = bq := ⟨_, rfl⟩
  rw [hbq] at HK1
  rw [hbq]
  clear hbq
  go_wp2_with fail
  have hbl := below_one w1 (.cells #[lackF (bq + 1) bq] 79)
  have HH := Lib.hid (HCC.out _ w1.heap.size (bq + 1) bq (w.heap.size + 1) w.heap.size (w.heap.size + 1 + 1) (then_ HB1.out hbl) (HK1.out.later hbl) (HKo.out.later hbl) (Blk.new w1 79 #[lackF (bq + 1) bq]) (HKt.out.later hbl))
  clear hbl
  refine HH.out.mono ?_; rintro e w2 ⟨c, rfl, hQ⟩
  have HQ := Lib.hid hQ
  clear hQ
  go_wp2_with fail
  go_ret
  exact ⟨c, rfl, HQ.out⟩
set_option maxHeartbeats 2000000 in
theorem Rename_gen (a : Option Addr) (n : List UInt8) (m : List UInt8) (w : World) (Q : Int → World → Prop)
    (HC : ∀ W bl bn bd bn2 bd2 bb, Below w.heap.size w W → LkA W bn bd a n → LkA W bn2 bd2 a n → Blk W bl 79 #[lackF bn bd] → Blk W bb 9 #[encStr m] → Calls Try.prog 61 #[.pointer a, .func (.func 68) #[] #[ptr0 bl, ptr0 bb], .func (.func 69) #[] #[ptr0 bd2, ptr0 bn2, ptr0 bb]] W (AnsQ Q)) :
    Calls Try.prog 32 #[.pointer a, encStr n, encStr m] w (AnsQ Q) := by
  obtain ⟨hk, hb⟩ := boxes2 w a n
  have hb3 := below_one ((w.alloc (.cells #[.pointer a] 24)).alloc (.cells #[encStr n] 9)) (.cells #[encStr m] 9)
  have hk3 := Blk.new ((w.alloc (.cells #[.pointer a] 24)).alloc (.cells #[encStr n] 9)) 9 #[encStr m]
  have hs : ((w.alloc (.cells #[.pointer a] 24)).alloc (.cells #[encStr n] 9)).heap.size = w.heap.size + 1 + 1 := by simp
  rw [hs] at hk3
  have HB := Lib.hid (then_ hb hb3)
  have HK := Lib.hid (hk.later hb3)
  have HK3 := Lib.hid hk3
  have HCC := Lib.hid HC
  have HLk := Lib.hid (fun W => lacks_gen a n W)
  clear hk hb hb3 hk3 hs HC
  unfold encStr at HB HK HK3 HLk HCC
  unfold encStr
  go_enter Try.func32, Try.ntmps32
  go_wp2_with fail
  refine (HLk.out _).mono ?_; rintro e w1 ⟨rfl, hk1, b1⟩
  have HB1 := Lib.hid (then_ HB.out b1)
  have HKo := Lib.hid (HK.out.later b1)
  have HKt := Lib.hid (HK3.out.later b1)
  have HK1 := Lib.hid hk1
  have c1 := HKo.out.d.cell 0 rfl
  have l1 := HKo.out.d.lt
  clear hk1 b1
  obtain ⟨bq, hbq⟩ : ∃ bq, (((w.alloc (.cells #[.pointer a] 24)).alloc (.cells #[.string ⟨n.toArray⟩] 9)).alloc (.cells #[.string ⟨m.toArray⟩] 9)).heap.size = bq := ⟨_, rfl⟩
  rw [hbq] at HK1
  rw [hbq]
  clear hbq
  go_wp2_with fail
  have hbl := below_one w1 (.cells #[lackF (bq + 1) bq] 79)
  have HH := Lib.hid (HCC.out _ w1.heap.size (bq + 1) bq (w.heap.size + 1) w.heap.size (w.heap.size + 1 + 1) (then_ HB1.out hbl) (HK1.out.later hbl) (HKo.out.later hbl) (Blk.new w1 79 #[lackF (bq + 1) bq]) (HKt.out.later hbl))
  clear hbl
  refine HH.out.mono ?_; rintro e w2 ⟨c, rfl, hQ⟩
  have HQ := Lib.hid hQ
  clear hQ
  go_wp2_with fail
  go_ret
  exact ⟨c, rfl, HQ.out⟩
set_option maxHeartbeats 2000000 in
theorem Truncate_gen (a : Option Addr) (n : List UInt8) (z : Int) (w : World) (Q : Int → World → Prop)
    (HC : ∀ W bl bn bd bn2 bd2 bb, Below w.heap.size w W → LkA W bn bd a n → LkA W bn2 bd2 a n → Blk W bl 79 #[lackF bn bd] → Blk W bb 3 #[.int .i64 z] → Calls Try.prog 61 #[.pointer a, .func (.func 70) #[] #[ptr0 bl, ptr0 bb, ptr0 bd2, ptr0 bn2], .func (.func 71) #[] #[ptr0 bd2, ptr0 bn2, ptr0 bb]] W (AnsQ Q)) :
    Calls Try.prog 33 #[.pointer a, encStr n, .int .i64 z] w (AnsQ Q) := by
  obtain ⟨hk, hb⟩ := boxes2 w a n
  have hb3 := below_one ((w.alloc (.cells #[.pointer a] 24)).alloc (.cells #[encStr n] 9)) (.cells #[.int .i64 z] 3)
  have hk3 := Blk.new ((w.alloc (.cells #[.pointer a] 24)).alloc (.cells #[encStr n] 9)) 3 #[.int .i64 z]
  have hs : ((w.alloc (.cells #[.pointer a] 24)).alloc (.cells #[encStr n] 9)).heap.size = w.heap.size + 1 + 1 := by simp
  rw [hs] at hk3
  have HB := Lib.hid (then_ hb hb3)
  have HK := Lib.hid (hk.later hb3)
  have HK3 := Lib.hid hk3
  have HCC := Lib.hid HC
  have HLk := Lib.hid (fun W => lacks_gen a n W)
  clear hk hb hb3 hk3 hs HC
  unfold encStr at HB HK HK3 HLk HCC
  unfold encStr
  go_enter Try.func33, Try.ntmps33
  go_wp2_with fail
  refine (HLk.out _).mono ?_; rintro e w1 ⟨rfl, hk1, b1⟩
  have HB1 := Lib.hid (then_ HB.out b1)
  have HKo := Lib.hid (HK.out.later b1)
  have HKt := Lib.hid (HK3.out.later b1)
  have HK1 := Lib.hid hk1
  have c1 := HKo.out.d.cell 0 rfl
  have l1 := HKo.out.d.lt
  clear hk1 b1
  obtain ⟨bq, hbq⟩ : ∃ bq, (((w.alloc (.cells #[.pointer a] 24)).alloc (.cells #[.string ⟨n.toArray⟩] 9)).alloc (.cells #[.int .i64 z] 3)).heap.size = bq := ⟨_, rfl⟩
  rw [hbq] at HK1
  rw [hbq]
  clear hbq
  go_wp2_with fail
  have hbl := below_one w1 (.cells #[lackF (bq + 1) bq] 79)
  have HH := Lib.hid (HCC.out _ w1.heap.size (bq + 1) bq (w.heap.size + 1) w.heap.size (w.heap.size + 1 + 1) (then_ HB1.out hbl) (HK1.out.later hbl) (HKo.out.later hbl) (Blk.new w1 79 #[lackF (bq + 1) bq]) (HKt.out.later hbl))
  clear hbl
  refine HH.out.mono ?_; rintro e w2 ⟨c, rfl, hQ⟩
  have HQ := Lib.hid hQ
  clear hQ
  go_wp2_with fail
  go_ret
  exact ⟨c, rfl, HQ.out⟩
set_option maxHeartbeats 4000000 in
set_option maxRecDepth 100000 in
theorem Sync_gen (a : Option Addr) (n : List UInt8) (w : World) (Q : Int → World → Prop)
    (HC : ∀ W bn bd bn2 bd2, Below w.heap.size w W → LkA W bn bd a n → LkA W bn2 bd2 a n → Calls Try.prog 61 #[.pointer a, lackF bn bd, .func (.func 67) #[] #[ptr0 bd2, ptr0 bn2]] W (AnsQ Q)) :
    Calls Try.prog 29 #[.pointer a, encStr n] w (AnsQ Q) := by
  obtain ⟨hk, hb⟩ := boxes2 w a n
  have HB := Lib.hid hb
  have HK := Lib.hid hk
  have HCC := Lib.hid HC
  have HLk := Lib.hid (fun W => lacks_gen a n W)
  clear hk hb HC
  unfold encStr at HB HK HLk HCC
  unfold encStr
  go_enter Try.func29, Try.ntmps29
  go_wp2_with fail
  obtain ⟨W2, hW2⟩ : ∃ W2, (w.alloc (.cells #[.pointer a] 24)).alloc (.cells #[.string ⟨n.toArray⟩] 9) = W2 := ⟨_, rfl⟩
  rw [hW2] at HB HK
  try rw [hW2]
  clear hW2
  have c1 := HK.out.d.cell 0 rfl
  have l1 := HK.out.d.lt
  have c2 := HK.out.n.cell 0 rfl
  have l2 := HK.out.n.lt
  go_region_law (first
    | (go_simp; go_at_call 49; refine (HLk.out W2.drew).mono ?_; rintro e w1 ⟨rfl, hk1, b1'⟩; have b1 : Below W2.heap.size W2 w1 := ⟨b1'.os, b1'.tape, b1'.output, b1'.size, b1'.block⟩; have HB1 := Lib.hid (then_ HB.out b1); have HKo := Lib.hid (HK.out.later b1); have HK1 := Lib.hid hk1; have d1 := HKo.out.d.cell 0 rfl; have dl := HKo.out.d.lt; have HH := Lib.hid (HCC.out w1 _ _ _ _ HB1.out HK1.out HKo.out); clear hk1 b1 b1')
    | (go_simp; go_at_call 61; refine HH.out.mono ?_; rintro e w2 ⟨c, rfl, hQ⟩; have HQ := Lib.hid hQ; clear hQ))
  all_goals (
    go_wp2_with fail
    go_ret
    exact ⟨c, rfl, HQ.out⟩)
set_option maxHeartbeats 4000000 in
set_option maxRecDepth 100000 in
theorem Remove_gen (a : Option Addr) (n : List UInt8) (w : World) (Q : Int → World → Prop)
    (HC : ∀ W bn bd bn2 bd2, Below w.heap.size w W → LkA W bn bd a n → LkA W bn2 bd2 a n → Calls Try.prog 61 #[.pointer a, lackF bn bd, .func (.func 72) #[] #[ptr0 bd2, ptr0 bn2]] W (AnsQ Q)) :
    Calls Try.prog 34 #[.pointer a, encStr n] w (AnsQ Q) := by
  obtain ⟨hk, hb⟩ := boxes2 w a n
  have HB := Lib.hid hb
  have HK := Lib.hid hk
  have HCC := Lib.hid HC
  have HLk := Lib.hid (fun W => lacks_gen a n W)
  clear hk hb HC
  unfold encStr at HB HK HLk HCC
  unfold encStr
  go_enter Try.func34, Try.ntmps34
  go_wp2_with fail
  obtain ⟨W2, hW2⟩ : ∃ W2, (w.alloc (.cells #[.pointer a] 24)).alloc (.cells #[.string ⟨n.toArray⟩] 9) = W2 := ⟨_, rfl⟩
  rw [hW2] at HB HK
  try rw [hW2]
  clear hW2
  have c1 := HK.out.d.cell 0 rfl
  have l1 := HK.out.d.lt
  have c2 := HK.out.n.cell 0 rfl
  have l2 := HK.out.n.lt
  go_region_law (first
    | (go_simp; go_at_call 49; refine (HLk.out W2.drew).mono ?_; rintro e w1 ⟨rfl, hk1, b1'⟩; have b1 : Below W2.heap.size W2 w1 := ⟨b1'.os, b1'.tape, b1'.output, b1'.size, b1'.block⟩; have HB1 := Lib.hid (then_ HB.out b1); have HKo := Lib.hid (HK.out.later b1); have HK1 := Lib.hid hk1; have d1 := HKo.out.d.cell 0 rfl; have dl := HKo.out.d.lt; have HH := Lib.hid (HCC.out w1 _ _ _ _ HB1.out HK1.out HKo.out); clear hk1 b1 b1')
    | (go_simp; go_at_call 61; refine HH.out.mono ?_; rintro e w2 ⟨c, rfl, hQ⟩; have HQ := Lib.hid hQ; clear hQ))
  all_goals (
    go_wp2_with fail
    go_ret
    exact ⟨c, rfl, HQ.out⟩)
end Go.Proofs.Ytnhdnmlclnndoaa.Gm
