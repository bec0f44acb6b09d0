/- The contracts of package wire's laying: room, lay, fold, Num, Int, Bytes; slices.Clone at bytes. -/
import Derived.Test.YtmbfhmjcphoddaaGreatDoorGb
import Derived.Test.YtmbfhmjcphoddaaGreatDoorWf
import Derived.Test.YtmbfhmjcphoddaaGreatDoorGd
/- What a reader answers, as plain functions (without the document's layer 3). -/
set_option linter.unusedSimpArgs false
set_option linter.unusedVariables false
namespace Go.Proofs.YtmbfhmjcphoddaaGreatDoor
open Go.RowKit Gm

theorem err_pos {L : List UInt8} {most c : Nat} (h : readN L most = .err c) : c ≠ 0 := by
  unfold readN at h
  rintro rfl
  split at h
  · cases h
  split at h
  · cases h
  split at h
  · cases h
  split at h
  · cases h
  split at h <;> cases h
/-- What a reading of bytes answers. -/
inductive RB where
  | ok (s : List UInt8) (k : Nat)
  | err (e : Nat)
def readB (L : List UInt8) (most : Int) : RB :=
  if most < 0 then .err 1
  else match readN L most.toNat with
    | .err c => .err c
    | .ok n k => if (L.drop k).length < n then .err 4 else .ok ((L.drop k).take n) (k + n)
def numV (L : List UInt8) (most : Nat) : Nat := match readN L most with
  | .ok n _ => n
  | .err _ => 0
def numE (L : List UInt8) (most : Nat) : Nat := match readN L most with
  | .ok _ _ => 0
  | .err c => c
def numR (L : List UInt8) (most : Nat) : List UInt8 := match readN L most with
  | .ok _ k => L.drop k
  | .err _ => L
/-- The greatest number of 64 bits. -/
def m64 : Nat := 18446744073709551615
def intV (L : List UInt8) : Int := match readN L m64 with
  | .ok n _ => unfoldI n
  | .err _ => 0
def intE (L : List UInt8) : Nat := numE L m64
def intR (L : List UInt8) : List UInt8 := numR L m64
def bytV (L : List UInt8) (most : Int) : List UInt8 := match readB L most with
  | .ok s _ => s
  | .err _ => []
def bytE (L : List UInt8) (most : Int) : Nat := match readB L most with
  | .ok _ _ => 0
  | .err c => c
def bytR (L : List UInt8) (most : Int) : List UInt8 := match readB L most with
  | .ok _ k => L.drop k
  | .err _ => L
/-- What a step of the program's reader leaves: the answer; the reader reads as L'; nothing else has changed, and nothing of it lies but where it lay, or in new memory. -/
def StepE (RdW : World → List Nat → Value → List UInt8 → Prop) (F : List Nat) (r : Value) (L' : List UInt8) (ans : Value) (w : World) (e : Ending) (w' : World) : Prop :=
  e = .returned ans ∧ ∃ F', RdW w' F' r L' ∧ (∀ k ∈ F', k ∈ F ∨ w.heap.size ≤ k) ∧ Only F w w'
/-- Likewise, where bytes are answered in new memory that is not the reader's. -/
def StepB (RdW : World → List Nat → Value → List UInt8 → Prop) (F : List Nat) (r : Value) (L' S : List UInt8) (c : Nat) (w : World) (e : Ending) (w' : World) : Prop :=
  ∃ u, e = .returned (.tuple #[u, .int .i64 c]) ∧ OwnB w' w.heap.size u S ∧ ∃ F', RdW w' F' r L' ∧ (∀ k ∈ F', k ∈ F ∨ w.heap.size ≤ k) ∧ (∀ k ∈ F', u.ownBlock ≠ some k) ∧ Only F w w'
/-- What New leaves. -/
def NewE (RdW : World → List Nat → Value → List UInt8 → Prop) (L : List UInt8) (w : World) (e : Ending) (w' : World) : Prop :=
  ∃ r F, e = .returned r ∧ RdW w' F r L ∧ (∀ k ∈ F, w.heap.size ≤ k) ∧ Below w.heap.size w w'

end Go.Proofs.YtmbfhmjcphoddaaGreatDoor
set_option linter.unusedSimpArgs false
set_option linter.unusedVariables false
namespace Go.Proofs.YtmbfhmjcphoddaaGreatDoor
open Go.RowKit Gm
attribute [local go_sem ↓] Go.wp_at_zero Go.wp_at_succ

theorem wroom_any (v : Value) (L : List UInt8) (n : Nat) (w : World) (hB : Bs w v L) (hL : L.length + n ≤ 140737488355328) : Calls Tryz.prog 81 #[v, .int .i64 n] w (MadeB L w) := by
  obtain ⟨i0, ii, iz0, iz1, iz2⟩ := info_parts infoB
  have HBs := Lib.hid hB
  obtain ⟨p, cap, rfl⟩ := hB.form
  clear hB
  go_enter Tryz.func81, Tryz.ntmps81
  go_wp2_with (first
    | (at_make; refine wpList_make_own w rfl _ _ 25 rfl w.heap.size 5 i0 (.int .u8 0) 1 Tryz.underlying25 ii iz0 iz1 .i64 .i64 _ (L.length + n) rfl rfl (by omega) (by rw [iz2]; omega) (by unfold maxLen; omega) (Nat.le_refl _) ?_; intro w1 hown1 hgrow1; have HO1 := Lib.hid hown1; have HB1 := Lib.hid ((Below.refl w.heap.size w).grown hgrow1 (Nat.le_refl _) (fun j hj => by simp at hj)); have HS1 := Lib.hid (HBs.out.below HB1.out); clear hown1 hgrow1)
    | (at_builtin; refine wpList_append_src rfl _ _ 25 rfl w.heap.size 5 i0 (.int .u8 0) 1 1 Tryz.underlying25 ii iz0 iz1 iz2 rfl (by decide) _ 0 [] rfl HO1.out _ L.length (cellsB L) rfl HS1.out.src L.length (by omega) (by unfold maxLen; omega) (by omega) HB1.out.size ?_; intro pA capA w2 hown hgrow))
  go_ret
  exact ⟨_, rfl, hown, HB1.out.grown hgrow HB1.out.size (fun j hj => (World.ownsRow.lt HO1.out j hj).1)⟩

theorem or_byte (n : Nat) : bits BinOp.or IntKind.u8 ((n : Int) % 256) 128 = (((UInt8.ofNat (128 + n % 128)).toNat : Nat) : Int) := by
  have h : ∀ n : Fin 256, bits BinOp.or IntKind.u8 ((n.val : Nat) : Int) 128 = ((128 + n.val % 128 : Nat) : Int) := by decide +kernel
  have e : (n : Int) % 256 = ((n % 256 : Nat) : Int) := by omega
  have := h ⟨n % 256, Nat.mod_lt _ (by decide)⟩
  simp only at this
  rw [e, this, UInt8.toNat_ofNat']
  omega

/-- lay appends a form to a row of the caller's own. -/
theorem wlay_any (base : Nat) (v : Value) (L : List UInt8) (n : Nat) (hn : n < 18446744073709551616) (w : World) (hO : OwnB w base v L) (hbase : base ≤ w.heap.size) (hL : L.length + 10 ≤ 140737488355328) : Calls Tryz.prog 80 #[v, .int .u64 n] w (fun e w' => ∃ v', e = .returned v' ∧ OwnB w' base v' (L ++ formN n) ∧ Below base w w') := by
  obtain ⟨i0, ii, iz0, iz1, iz2⟩ := info_parts infoB
  have HL := Lib.hid (formN_length hn)
  have HO := Lib.hid hO
  have HBase := Lib.hid hbase
  obtain ⟨p, cap, rfl⟩ := hO.bs.form
  clear hO hbase
  go_enter Tryz.func80, Tryz.ntmps80
  go_wp2_with fail
  go_step3
  go_wp2_with fail
  go_step3
  go_wp2_with fail
  go_loopw [0, 1] (fun v mv wr => ∃ (m : Nat) (pre : List UInt8), mv = .int .u64 m ∧ m ≤ n ∧ OwnB wr base v pre ∧ pre ++ formN m = L ++ formN n ∧ Below base w wr) (fun _ mv _ => (intOf mv).toNat)
  case atStart => exact ⟨n, L, rfl, Nat.le_refl _, HO.out, rfl, Below.refl _ _⟩
  case round =>
    obtain ⟨m, pre, rfl, hm, hO, hpre, hbel⟩ := hrel
    obtain ⟨pv, capv, rfl⟩ := hO.bs.form
    have HO := Lib.hid hO
    have HPre := Lib.hid hpre
    have HB := Lib.hid hbel
    have hsz : base ≤ wr.heap.size := Nat.le_trans HBase.out hbel.size
    have hlp : pre.length + 1 ≤ L.length + 10 := by have h := congrArg List.length hpre; rw [List.length_append, List.length_append] at h; have := HL.out.2; have := (formN_length (v := m) (by omega)).1; omega
    clear hO hpre hbel
    by_cases hm8 : 128 ≤ m
    · have d1 : (((m : Int) / 128) == 0) = false := by rw [beq_eq_false_iff_ne]; omega
      have d2 : ((m / 128) == 0) = false := by rw [beq_eq_false_iff_ne]; omega
      have HF := Lib.hid (formN_ge hm8)
      have HC := Lib.hid (or_byte m)
      go_wp2_with (at_builtin; refine wpList_append_src rfl _ _ 25 rfl base 5 i0 (.int .u8 0) 1 1 Tryz.underlying25 ii iz0 iz1 iz2 rfl (by decide) _ _ _ rfl (World.ownsRow.alloc HO.out _) _ 1 (cellsB [UInt8.ofNat (128 + m % 128)]) rfl (src_b rfl _ _ HC.out) (pre.length + 1) rfl (by unfold maxLen; omega) (by omega) (by simp; omega) ?_; intro pB capB w2 hown2 hgrow2; have HO2 := Lib.hid hown2; have HB2 := Lib.hid ((HB.out.alloc hsz (.cells #[.int .u8 (bits BinOp.or IntKind.u8 ((m : Int) % 256) 128)] 5)).grown hgrow2 (by simp; omega) (fun j hj => (World.ownsRow.lt HO.out j hj).1)); clear hown2 hgrow2)
      go_roundw
      case rel => exact ⟨m / 128, pre ++ [UInt8.ofNat (128 + m % 128)], by simp, by omega, by simpa using ownB_app HO2.out (by simp), by rw [← HPre.out, HF.out]; simp, HB2.out⟩
      case measure => simp [intOf]; omega
    · have d1 : (((m : Int) / 128) == 0) = true := by rw [beq_iff_eq]; omega
      have d2 : ((m / 128) == 0) = true := by rw [beq_iff_eq]; omega
      have HF : Hid (pre ++ [UInt8.ofNat m] = L ++ formN n) := Lib.hid (by rw [← HPre.out, formN_lt (by omega)])
      have hc : (m : Int) = (((UInt8.ofNat m).toNat : Nat) : Int) := by rw [UInt8.toNat_ofNat']; omega
      have HC := Lib.hid hc
      clear hc
      go_wp2_with (at_builtin; refine wpList_append_src rfl _ _ 25 rfl base 5 i0 (.int .u8 0) 1 1 Tryz.underlying25 ii iz0 iz1 iz2 rfl (by decide) _ _ _ rfl (World.ownsRow.alloc HO.out _) _ 1 (cellsB [UInt8.ofNat m]) rfl (src_b rfl _ _ HC.out) (pre.length + 1) rfl (by unfold maxLen; omega) (by omega) (by simp; omega) ?_; intro pB capB w2 hown2 hgrow2; have HO2 := Lib.hid hown2; have HB2 := Lib.hid ((HB.out.alloc hsz (.cells #[.int .u8 ((m : Int))] 5)).grown hgrow2 (by simp; omega) (fun j hj => (World.ownsRow.lt HO.out j hj).1)); clear hown2 hgrow2)
      try rw [Exit.noGoto_ret]
      go_ret
      refine ⟨_, rfl, ?_, HB2.out⟩
      rw [← HF.out]
      exact ownB_app HO2.out (by simp)

theorem wfold_any (x : Int) (h1 : -9223372036854775808 ≤ x) (h2 : x ≤ 9223372036854775807) (w : World) : Calls Tryz.prog 123 #[.int .i64 x] w (Quits (.int .u64 (foldI x : Nat)) w) := by
  by_cases hx : 0 ≤ x
  · have d : decide (x < (0 : Int)) = false := by simpa using hx
    go_enter Tryz.func123, Tryz.ntmps123
    go_wp2_with fail
    go_ret
    exact ⟨ret_int (by unfold foldI; rw [if_pos hx]; omega), rfl⟩
  · have d : decide (x < (0 : Int)) = true := by simp; omega
    go_enter Tryz.func123, Tryz.ntmps123
    go_wp2_with fail
    go_ret
    exact ⟨ret_int (by unfold foldI; rw [if_neg (by omega)]; omega), rfl⟩
theorem wunfold_any (n : Nat) (hn : n < 18446744073709551616) (w : World) : Calls Tryz.prog 132 #[.int .u64 n] w (Quits (.int .i64 (unfoldI n)) w) := by
  by_cases hx : n % 2 = 0
  · have d : (((n : Int) % 2) == 1) = false := by rw [beq_eq_false_iff_ne]; omega
    go_enter Tryz.func132, Tryz.ntmps132
    go_wp2_with fail
    go_ret
    exact ⟨ret_int (by unfold unfoldI; rw [if_pos hx]; omega), rfl⟩
  · have d : (((n : Int) % 2) == 1) = true := by rw [beq_iff_eq]; omega
    go_enter Tryz.func132, Tryz.ntmps132
    go_wp2_with fail
    go_ret
    exact ⟨ret_int (by unfold unfoldI; rw [if_neg hx]; omega), rfl⟩

theorem wnum_any (v : Value) (L : List UInt8) (n : Nat) (hn : n < 18446744073709551616) (w : World) (hB : Bs w v L) (hL : L.length + 10 ≤ 140737488355328) : Calls Tryz.prog 58 #[v, .int .u64 n] w (MadeB (L ++ formN n) w) := by
  have HR := Lib.hid (wroom_any v L 10 w hB hL)
  have hLay := fun W v' h hb => wlay_any w.heap.size v' L n hn W h hb hL
  obtain ⟨M, hM⟩ : ∃ M, L ++ formN n = M := ⟨_, rfl⟩
  rw [hM] at hLay ⊢
  have HLay := Lib.hid hLay
  clear hLay hM
  obtain ⟨p, cap, rfl⟩ := hB.form
  clear hB
  go_enter Tryz.func58, Tryz.ntmps58
  go_wp2_with fail
  refine HR.out.mono ?_; rintro e w1 ⟨v1, rfl, hO1, b1⟩
  obtain ⟨p1, cap1, rfl⟩ := hO1.bs.form
  have HO1 := Lib.hid hO1
  have HB1 := Lib.hid b1
  clear hO1 b1
  go_wp2_with fail
  refine (HLay.out _ _ HO1.out HB1.out.size).mono ?_; rintro e w2 ⟨v2, rfl, hO2, b2⟩
  obtain ⟨p2, cap2, rfl⟩ := hO2.bs.form
  have HO2 := Lib.hid hO2
  go_wp2_with fail
  go_ret
  exact ⟨_, rfl, HO2.out, HB1.out.trans b2⟩
theorem wint_any (v : Value) (L : List UInt8) (x : Int) (h1 : -9223372036854775808 ≤ x) (h2 : x ≤ 9223372036854775807) (w : World) (hB : Bs w v L) (hL : L.length + 10 ≤ 140737488355328) : Calls Tryz.prog 109 #[v, .int .i64 x] w (MadeB (L ++ formN (foldI x)) w) := by
  have HF := Lib.hid (wfold_any x h1 h2 w)
  have hN := wnum_any v L (foldI x) (fold_lt h1 h2) w hB hL
  obtain ⟨M, hM⟩ : ∃ M, L ++ formN (foldI x) = M := ⟨_, rfl⟩
  rw [hM] at hN ⊢
  have HN := Lib.hid hN
  clear hN hM
  obtain ⟨p, cap, rfl⟩ := hB.form
  clear hB
  go_enter Tryz.func109, Tryz.ntmps109
  go_wp2_with fail
  refine HF.out.mono ?_; rintro e w1 ⟨rfl, rfl⟩
  go_wp2_with fail
  refine HN.out.mono ?_; rintro e w2 ⟨v2, rfl, hO2, b2⟩
  obtain ⟨p2, cap2, rfl⟩ := hO2.form
  go_wp2_with fail
  go_ret
  exact ⟨_, rfl, hO2, b2⟩
theorem wbytes_any (v : Value) (L : List UInt8) (u : Value) (S : List UInt8) (w : World) (hB : Bs w v L) (hS : Bs w u S) (hL : L.length + 10 + S.length ≤ 140737488355328) : Calls Tryz.prog 82 #[v, u] w (MadeB (L ++ formN S.length ++ S) w) := by
  obtain ⟨i0, ii, iz0, iz1, iz2⟩ := info_parts infoB
  have HL := Lib.hid (formN_length (v := S.length) (by omega))
  have hR := wroom_any v L (10 + S.length) w hB (by omega)
  rw [show (((10 + S.length : Nat)) : Int) = 10 + (S.length : Int) by omega] at hR
  have HR := Lib.hid hR
  have hLay := fun W v' h hb => wlay_any w.heap.size v' L S.length (by omega) W h hb (by omega)
  have hlen : (L ++ formN S.length).length + S.length ≤ 140737488355328 := by rw [List.length_append]; have := HL.out.2; omega
  obtain ⟨M, hM⟩ : ∃ M, L ++ formN S.length = M := ⟨_, rfl⟩
  rw [hM] at hLay hlen ⊢
  have HLay := Lib.hid hLay
  clear hLay hM hR
  have HS := Lib.hid hS
  obtain ⟨p, cap, rfl⟩ := hB.form
  obtain ⟨q, capq, rfl⟩ := hS.form
  clear hB hS
  go_enter Tryz.func82, Tryz.ntmps82
  go_wp2_with fail
  refine HR.out.mono ?_; rintro e w1 ⟨v1, rfl, hO1, b1⟩
  obtain ⟨p1, cap1, rfl⟩ := hO1.bs.form
  have HO1 := Lib.hid hO1
  have HB1 := Lib.hid b1
  clear hO1 b1
  go_wp2_with fail
  refine (HLay.out _ _ HO1.out HB1.out.size).mono ?_; rintro e w2 ⟨v2, rfl, hO2, b2⟩
  obtain ⟨p2, cap2, rfl⟩ := hO2.bs.form
  have HO2 := Lib.hid hO2
  have HB2 := Lib.hid (HB1.out.trans b2)
  have HS2 := Lib.hid (HS.out.below HB2.out)
  clear hO2 b2
  go_wp2_with (at_builtin; refine wpList_append_src rfl _ _ 25 rfl w.heap.size 5 i0 (.int .u8 0) 1 1 Tryz.underlying25 ii iz0 iz1 iz2 rfl (by decide) _ _ _ rfl HO2.out _ S.length (cellsB S) rfl HS2.out.src (M.length + S.length) rfl (by unfold maxLen; omega) (by omega) HB2.out.size ?_; intro pB capB w3 hown3 hgrow3; have HO3 := Lib.hid hown3; have HB3 := Lib.hid (HB2.out.grown hgrow3 HB2.out.size (fun j hj => (World.ownsRow.lt HO2.out j hj).1)); clear hown3 hgrow3)
  go_ret
  exact ⟨_, rfl, ownB_app HO3.out rfl, HB3.out⟩
end Go.Proofs.YtmbfhmjcphoddaaGreatDoor
