/- Layer 11: what asks a place of bytes for a frame. -/
import Derived.Test.YtmbfhmjcphoddaaGreatDoorYg
import Derived.Test.YtmbfhmjcphoddaaGreatDoorKL
import Derived.ChangeKeysEq
import Derived.Test.YtmbfhmjcphoddaaGreatDoorFma
import Derived.Lib.EndianBits
/- Layer 11: package frame's small functions: may, Size, length. -/
/- Frames: package crc's Take; the document's. -/
set_option linter.unusedSimpArgs false
set_option linter.unusedVariables false
namespace Go.Proofs.YtmbfhmjcphoddaaGreatDoor.Crc
open Go Go.RowKit Gm
attribute [local go_sem ↓] Go.wp_at_zero Go.wp_at_succ

def takeE (L : List UInt8) : Int := if L.length < 4 then 4 else if frameL L then 0 else 5
def takeB (L : List UInt8) : List UInt8 := if frameL L then L.take (L.length - 4) else []
/-- What a Take leaves. -/
def TakeR (L : List UInt8) (w : World) (e : Ending) (w' : World) : Prop := ∃ v, e = .returned (.tuple #[v, .int .i64 (takeE L)]) ∧ OwnB w' w.heap.size v (takeB L) ∧ Below w.heap.size w w'
theorem split4 (L : List UInt8) (h : 4 ≤ L.length) : ∃ H a b c d, L = H ++ [a, b, c, d] := by
  obtain ⟨a, b, c, d, h4⟩ := four_le (L.drop (L.length - 4)) (by rw [List.length_drop]; omega)
  exact ⟨L.take (L.length - 4), a, b, c, d, by rw [← h4, List.take_append_drop]⟩
theorem frame_split (H : List UInt8) (a b c d : UInt8) : frameL (H ++ [a, b, c, d]) = decide (le4 (sumL H) = [a, b, c, d]) := by
  have e : (H ++ [a, b, c, d]).take ((H ++ [a, b, c, d]).length - 4) = H := by
    rw [List.length_append]; exact List.take_left' (by simp)
  unfold frameL
  rw [e]
  unfold putL
  rw [Bool.eq_iff_iff]
  simp
theorem takeE_split (H : List UInt8) (a b c d : UInt8) : takeE (H ++ [a, b, c, d]) = if le4 (sumL H) = [a, b, c, d] then 0 else 5 := by
  unfold takeE
  rw [frame_split, if_neg (by simp)]
  by_cases h : le4 (sumL H) = [a, b, c, d] <;> simp [h]
theorem takeB_split (H : List UInt8) (a b c d : UInt8) : takeB (H ++ [a, b, c, d]) = if le4 (sumL H) = [a, b, c, d] then H else [] := by
  unfold takeB
  rw [frame_split]
  by_cases h : le4 (sumL H) = [a, b, c, d]
  · rw [if_pos (by simpa using h), if_pos h, List.length_append]; exact List.take_left' (by simp)
  · rw [if_neg (by simpa using h), if_neg h]
theorem take_short {L : List UInt8} (h : L.length < 4) : takeE L = 4 ∧ takeB L = [] := by
  constructor
  · unfold takeE; rw [if_pos h]
  · unfold takeB frameL; rw [if_neg (by simp; omega)]
/-- Whether two arrays of four bytes are one. -/
def eq4 (a b c d a' b' c' d' : UInt8) : Bool := decide ([a, b, c, d] = [a', b', c', d'])
theorem run_neq_arr4 (a b c d a' b' c' d' : UInt8) (w : World) : (binOp .neq 86 (arr4 a b c d) (arr4 a' b' c' d')).run Tryz.prog w = .ok (.bool (!eq4 a b c d a' b' c' d')) w := by
  obtain ⟨i0, ii, _, _, _⟩ := info_parts infoB
  have hp : Tryz.prog.cellsOf 5 = 1 := by kernel_rfl
  unfold arr4
  rw [run_neq_struct, run_equalIn_array w 9999 _ _ Tryz.underlying86 ii, hp]
  have hr : List.range 4 = [0, 1, 2, 3] := rfl
  rw [hr]
  simp [go_sem, Op.eqItems, Tryz.underlying5]
  have q : ∀ x y : UInt8, ((x.toNat : Int) = (y.toNat : Int)) ↔ x = y := fun x y => by rw [Int.natCast_inj, UInt8.toNat_inj]
  by_cases h0 : a = a' <;> by_cases h1 : b = b' <;> by_cases h2 : c = c' <;> by_cases h3 : d = d' <;> simp [q, h0, h1, h2, h3, eq4]
theorem run_guard_arr4 (a b c d a' b' c' d' : UInt8) (x y : Operand) (w : World) : (eqGuard .neq 86 x y (arr4 a b c d) (arr4 a' b' c' d')).run Tryz.prog w = .ok () w := run_eqGuard_agg _ _ _ _ _ _ _ (by kernel_rfl)
attribute [local go_sem ↓] run_neq_arr4 run_guard_arr4
theorem slice_pre_b (p : Option Addr) (m cap k : Nat) (hk : k ≤ m) (hc : m ≤ cap) (hp : p = none → cap = 0) (W : World) : (Instr.slice 25 (.slice p m cap) none (some (.int .i64 (k : Int))) none).run Tryz.prog W = .ok (.slice p k cap) W := by
  cases p with
  | none =>
    have := hp rfl
    subst this
    have : k = 0 := by omega
    subst this
    have : m = 0 := by omega
    subst this
    go_simp
  | some a =>
    have h1 : (k : Int) ≤ (cap : Int) := by omega
    have h2 : k ≤ cap := by omega
    go_simp
theorem slice_suf_b (b o m cap k r : Nat) (hk : k < m) (hr : k + r = m) (hc : m ≤ cap) (W : World) : (Instr.slice 25 (.slice (some ⟨b, o, none⟩) m cap) (some (.int .i64 (k : Int))) none none).run Tryz.prog W = .ok (.slice (some ⟨b, o + k, none⟩) r (cap - k)) W := by
  subst hr
  have h1 : (k : Int) ≤ (cap : Int) := by omega
  have h2 : k ≤ cap := by omega
  have h4 : ¬ ((cap : Int) = (k : Int)) := by omega
  have e : (some ((⟨b, o, none⟩ : Addr).add (k * 1))) = some (⟨b, o + k, none⟩ : Addr) := by
    unfold Addr.add
    by_cases h0 : k = 0
    · subst h0; simp
    · simp [h0]
  have e2 : k + r - k = r := by omega
  have h5 : ¬ (cap = k) := by omega
  have h6 : ¬ ((k : Int) + (r : Int) < (k : Int)) := by omega
  have h7 : ¬ (cap < k + r) := by omega
  rw [Nat.mul_one] at e
  go_simp
theorem arr_at (a : Addr) (c : Nat) (W : World) : (Instr.arrayAt 86 (.slice (some a) 4 c)).run Tryz.prog W = .ok (.pointer (some a)) W := by
  simp [Instr.arrayAt, run_underlying Tryz.underlying86]
def maxTk : Nat := 140737488355328
set_option maxHeartbeats 2000000 in
set_option maxRecDepth 100000 in
theorem take_any (v : Value) (L : List UInt8) (w : World) (hE : Env w) (hB : Bs w v L) (hl : L.length ≤ maxTk) : Calls Tryz.prog 90 #[v] w (TakeR L w) := by
  by_cases h4 : L.length < 4
  · obtain ⟨e1, e2⟩ := take_short h4
    obtain ⟨p, cap, rfl⟩ := hB.form
    unfold TakeR
    rw [e1, e2]
    obtain ⟨m, hm⟩ : ∃ m, L.length = m := ⟨_, rfl⟩
    rw [hm] at h4 ⊢
    clear hB hm hE hl e1 e2
    have hn : (m : Int) - 4 < 0 := by omega
    go_enter Tryz.func90, Tryz.ntmps90
    go_wp2_with fail
    go_ret2
    exact ⟨_, rfl, OwnB.nil _ _, Below.refl _ _⟩
  · obtain ⟨H, a, b, c, d, rfl⟩ := split4 L (by omega)
    obtain ⟨a', b', c', d', hs⟩ := four_le (le4 (sumL H)) rfl
    have hlen : (H ++ [a, b, c, d]).length = H.length + 4 := by rw [List.length_append]; rfl
    rw [hlen] at hl
    obtain ⟨p, cap, bb, o, rfl, hp, hbl, c0⟩ := bs_at hB (i := H.length) (by rw [hlen]; omega)
    have hcap : H.length + 4 ≤ cap := by
      rcases hB with ⟨h, _⟩ | ⟨a1, cap1, h1, h2, _⟩
      · simp only [Value.slice.injEq] at h; subst hp; cases h.1
      · simp only [Value.slice.injEq] at h1; rw [h1.2.2, ← hlen]; exact h2
    subst hp
    have hcs : ∀ i, i < 4 → w.cell? ⟨bb, o + H.length + i, none⟩ = some (byteV ([a, b, c, d].getD i 0)) := fun i hi => by
      obtain ⟨p1, cap1, b1, o1, e1, e2, _, e3⟩ := bs_at hB (i := H.length + i) (by rw [hlen]; omega)
      subst e2
      simp only [Value.slice.injEq, Option.some.injEq, Addr.mk.injEq, true_and] at e1
      obtain ⟨⟨rfl, rfl, -⟩, -⟩ := e1
      rw [Nat.add_assoc, e3]
      congr 2
      rw [List.getD_eq_getElem?_getD, List.getElem?_append_right (by omega), Nat.add_sub_cancel_left, List.getD_eq_getElem?_getD]
    have hH : Bs w (.slice (some ⟨bb, o, none⟩) H.length cap) H := by
      have := Bs.take hB (K := H.length) (by rw [hlen]; omega)
      rwa [List.take_left' rfl] at this
    have hlH : H.length ≤ maxTk := by omega
    have HS := Lib.hid (fun (W : World) (h : Below w.heap.size w W) => seal_at _ H a' b' c' d' hs W (hE.below h) (hH.below h) (Nat.le_trans hlH (by decide)))
    have HC := Lib.hid (fun (W : World) (h : Below w.heap.size w W) => cloneB_any _ H W (hH.below h) (Nat.le_trans hlH (by decide)))
    unfold TakeR
    rw [takeE_split, takeB_split, hs, hlen]
    have HQ : Hid (eq4 a' b' c' d' a b c d = decide ([a', b', c', d'] = [a, b, c, d])) := Lib.hid rfl
    have r1 := slice_pre_b (some ⟨bb, o, none⟩) (H.length + 4) cap H.length (by omega) hcap (by intro h; cases h)
    have r2 := slice_suf_b bb o (H.length + 4) cap H.length 4 (by omega) rfl hcap
    have r3 := arr_at ⟨bb, o + H.length, none⟩ (cap - H.length)
    have q0 := hcs 0 (by omega)
    have q1 := hcs 1 (by omega)
    have q2 := hcs 2 (by omega)
    have q3 := hcs 3 (by omega)
    obtain ⟨h, hh⟩ : ∃ h, H.length = h := ⟨_, rfl⟩
    obtain ⟨m, hm⟩ : ∃ m, h + 4 = m := ⟨_, rfl⟩
    rw [hh] at HS HC r1 r2 r3 q0 q1 q2 q3 ⊢
    rw [hm] at r1 r2 ⊢
    have hm4 : (m : Int) - 4 = (h : Int) := by omega
    have hm0 : ¬ ((h : Int) < 0) := by omega
    have hm63 : m ≤ 140737488355328 := by rw [← hm, ← hh]; exact hl
    have p0 := fun (z : Later w) => Later.cell q0 z
    have p1 := fun (z : Later w) => Later.cell q1 z
    have p2 := fun (z : Later w) => Later.cell q2 z
    have p3 := fun (z : Later w) => Later.cell q3 z
    simp only [List.getD_cons_zero, List.getD_cons_succ, Nat.add_zero] at p0 p1 p2 p3
    have HL := Lib.hid hl
    clear hE hB hl h4 hs hlen hbl c0 hcs hH hlH hh hm q0 q1 q2 q3
    by_cases hd : [a', b', c', d'] = [a, b, c, d]
    · have hq : eq4 a' b' c' d' a b c d = true := by rw [HQ.out]; simpa using hd
      rw [if_pos hd, if_pos hd]
      clear hd HQ
      go_enter Tryz.func90, Tryz.ntmps90
      go_wp2_with fail
      refine wp_region_later (by kernel_rfl) (by kernel_rfl) ?_
      repeat (quiet_step ((first | (go_at_call 45; exact later_call _ (HS.out _ (Later.bel _))))))
      refine wpQuiet_nil ?_
      intro wz hw'
      obtain ⟨⟨_, hbz⟩, rfl⟩ := hw'
      have HBz := Lib.hid hbz
      have HCz := Lib.hid (HC.out _ hbz)
      clear hbz p0 p1 p2 p3 HC HS
      go_wp2_with fail
      refine HCz.out.mono ?_; rintro e w4 ⟨vr, rfl, ho, b4⟩
      have HO4 := Lib.hid (ho.base (Below.size HBz.out))
      have HB4 := Lib.hid (then_ HBz.out b4)
      clear ho b4 HCz
      go_wp2_with fail
      go_ret2
      exact ⟨_, rfl, HO4.out, HB4.out⟩
    · have hq : eq4 a' b' c' d' a b c d = false := by rw [HQ.out]; simpa using hd
      rw [if_neg hd, if_neg hd]
      clear hd HQ
      go_enter Tryz.func90, Tryz.ntmps90
      go_wp2_with fail
      refine wp_region_later (by kernel_rfl) (by kernel_rfl) ?_
      repeat (quiet_step ((first | (go_at_call 45; exact later_call _ (HS.out _ (Later.bel _))))))
      refine wpQuiet_nil ?_
      intro wz hw'
      obtain ⟨⟨_, hbz⟩, rfl⟩ := hw'
      have HBz := Lib.hid hbz
      have HCz := Lib.hid (HC.out _ hbz)
      clear hbz p0 p1 p2 p3 HC HS
      go_wp2_with fail
      go_ret2
      exact ⟨_, rfl, OwnB.nil _ _, HBz.out⟩
end Go.Proofs.YtmbfhmjcphoddaaGreatDoor.Crc
set_option linter.unusedSimpArgs false
set_option linter.unusedVariables false
namespace Go.Proofs.YtmbfhmjcphoddaaGreatDoor.Crc
open Go Go.RowKit Gm
attribute [local go_sem ↓] Go.wp_at_zero Go.wp_at_succ

def mayN (n : Nat) : Bool := decide (1 ≤ n) && decide (n ≤ 2048)
theorem may_any (n : Nat) (w : World) : Calls Tryz.prog 91 #[.int .u64 (n : Int)] w (Quits (.bool (mayN n)) w) := by
  unfold mayN
  by_cases h1 : 1 ≤ n
  · by_cases h2 : n ≤ 2048
    · have k1 : ¬ ((n : Int) < 1) := by omega
      have k2 : ¬ ((2048 : Int) < n) := by omega
      have k3 : (1 : Int) ≤ n := by omega
      have k4 : (n : Int) ≤ 2048 := by omega
      go_enter Tryz.func91, Tryz.ntmps91
      go_wp2_with fail
      go_ret
      exact ⟨by simp [h1, h2], rfl⟩
    · have k1 : ¬ ((n : Int) < 1) := by omega
      have k2 : (2048 : Int) < n := by omega
      have k3 : (1 : Int) ≤ n := by omega
      have k4 : ¬ ((n : Int) ≤ 2048) := by omega
      go_enter Tryz.func91, Tryz.ntmps91
      go_wp2_with fail
      go_ret
      exact ⟨by simp [h1, h2], rfl⟩
  · have k1 : (n : Int) < 1 := by omega
    have k3 : ¬ ((1 : Int) ≤ n) := by omega
    go_enter Tryz.func91, Tryz.ntmps91
    go_wp2_with fail
    go_ret
    exact ⟨by simp [h1], rfl⟩
def sizeR (r : List UInt8) : Nat := if mayR r then r.length + 8 else 0
theorem size_any (v : Value) (L : List UInt8) (hl : L.length ≤ maxTk) (w : World) (hB : Bs w v L) : Calls Tryz.prog 68 #[v] w (Quits (.int .i64 (sizeR L : Nat)) w) := by
  obtain ⟨p, cap, rfl⟩ := hB.form
  have hm : mayR L = mayN L.length := rfl
  unfold sizeR
  rw [hm]
  unfold maxTk at hl
  obtain ⟨n, hn⟩ : ∃ n, L.length = n := ⟨_, rfl⟩
  rw [hn] at hl ⊢
  have HC := Lib.hid (may_any n)
  have e1 : IntKind.u64.wrap (n : Int) = (n : Int) := by rw [IntKind.wrap_u64]; omega
  clear hB hm hn
  cases hb : mayN n with
  | false =>
    rw [hb] at HC
    go_enter Tryz.func68, Tryz.ntmps68
    go_wp2_with fail
    refine (HC.out _).mono ?_; rintro e w1 ⟨rfl, rfl⟩
    go_wp2_with fail
    go_ret
    exact ⟨rfl, rfl⟩
  | true =>
    rw [hb] at HC
    have e2 : 4 + (n : Int) + 4 = ((n + 8 : Nat) : Int) := by omega
    go_enter Tryz.func68, Tryz.ntmps68
    go_wp2_with fail
    refine (HC.out _).mono ?_; rintro e w1 ⟨rfl, rfl⟩
    go_wp2_with fail
    go_ret
    exact ⟨rfl, rfl⟩
theorem or4 (x0 x1 x2 x3 : Nat) (y0 : x0 < 256) (y1 : x1 < 256) (y2 : x2 < 256) (y3 : x3 < 256) : bits BinOp.or IntKind.u64 (bits BinOp.or IntKind.u64 (bits BinOp.or IntKind.u64 (x0 : Int) ((x1 : Int) * 256)) ((x2 : Int) * 65536)) ((x3 : Int) * 16777216) = ((x0 + 256 * x1 + 65536 * x2 + 16777216 * x3 : Nat) : Int) := by
  have e1 := u64_or8 (x0 : Int) ((x1 : Int) * 256) (by omega) (by omega) (by omega) (by omega) (by omega)
  have e2 := u64_or16 ((x0 : Int) + (x1 : Int) * 256) ((x2 : Int) * 65536) (by omega) (by omega) (by omega) (by omega) (by omega)
  have e3 := u64_or24 ((x0 : Int) + (x1 : Int) * 256 + (x2 : Int) * 65536) ((x3 : Int) * 16777216) (by omega) (by omega) (by omega) (by omega) (by omega)
  rw [e1, e2, e3]
  omega
def lengthN (b : List UInt8) : Nat := if decide (4 ≤ b.length) && mayN (lenN b) then lenN b else 0
def lengthB (b : List UInt8) : Bool := decide (4 ≤ b.length) && mayN (lenN b)
set_option maxHeartbeats 2000000 in
theorem length_any (v : Value) (L : List UInt8) (hl : L.length ≤ maxTk) (w : World) (hB : Bs w v L) : Calls Tryz.prog 89 #[v] w (Gives (.tuple #[.int .i64 (lengthN L : Nat), .bool (lengthB L)]) w) := by
  obtain ⟨p, cap, rfl⟩ := hB.form
  by_cases h4 : 4 ≤ L.length
  · obtain ⟨p0, cap0, bb, o, e0, hp, hbl, c0⟩ := bs_at hB (i := 0) (by omega)
    have hcs : ∀ i, i < 4 → w.cell? ⟨bb, o + i, none⟩ = some (byteV (L.getD i 0)) := fun i hi => by
      obtain ⟨p1, cap1, b1, o1, e1, e2, _, e3⟩ := bs_at hB (i := i) (by omega)
      rw [e0] at e1
      subst hp e2
      simp only [Value.slice.injEq, Option.some.injEq, Addr.mk.injEq, true_and] at e1
      obtain ⟨⟨rfl, rfl, -⟩, -⟩ := e1
      exact e3
    subst hp
    simp only [Value.slice.injEq] at e0
    obtain ⟨rfl, -, rfl⟩ := e0
    have q0 := hcs 0 (by omega)
    have q1 := hcs 1 (by omega)
    have q2 := hcs 2 (by omega)
    have q3 := hcs 3 (by omega)
    have hN : lengthB L = mayN (lenN L) := by unfold lengthB; simp [h4]
    have hM : lengthN L = if mayN (lenN L) then lenN L else 0 := by unfold lengthN; simp [h4]
    rw [hN, hM]
    have HN : Hid (lenN L = (L.getD 0 0).toNat + 256 * (L.getD 1 0).toNat + 65536 * (L.getD 2 0).toNat + 16777216 * (L.getD 3 0).toNat) := Lib.hid rfl
    have y0 := (L.getD 0 0).toNat_lt
    have y1 := (L.getD 1 0).toNat_lt
    have y2 := (L.getD 2 0).toNat_lt
    have y3 := (L.getD 3 0).toNat_lt
    obtain ⟨x0, hx0⟩ : ∃ x, (L.getD 0 0).toNat = x := ⟨_, rfl⟩
    obtain ⟨x1, hx1⟩ : ∃ x, (L.getD 1 0).toNat = x := ⟨_, rfl⟩
    obtain ⟨x2, hx2⟩ : ∃ x, (L.getD 2 0).toNat = x := ⟨_, rfl⟩
    obtain ⟨x3, hx3⟩ : ∃ x, (L.getD 3 0).toNat = x := ⟨_, rfl⟩
    unfold byteV at q0 q1 q2 q3
    rw [hx0] at q0 y0 HN
    rw [hx1] at q1 y1 HN
    rw [hx2] at q2 y2 HN
    rw [hx3] at q3 y3 HN
    obtain ⟨N, hNN⟩ : ∃ N, lenN L = N := ⟨_, rfl⟩
    rw [hNN] at HN ⊢
    obtain ⟨M0, hM0⟩ : ∃ M0, (if mayN N = true then N else 0) = M0 := ⟨_, rfl⟩
    have HM := Lib.hid hM0
    rw [hM0]
    have hor := or4 x0 x1 x2 x3 y0 y1 y2 y3
    rw [← HN.out] at hor
    obtain ⟨m, hm⟩ : ∃ m, L.length = m := ⟨_, rfl⟩
    rw [hm] at h4 hl ⊢
    rw [Nat.add_zero] at q0
    unfold maxTk at hl
    have hc : m ≤ cap := by
      rcases hB with ⟨h, _⟩ | ⟨a1, cap1, h1, h2, _⟩
      · cases h
      · simp only [Value.slice.injEq] at h1; rw [h1.2.2, ← hm]; exact h2
    clear hB hcs hN hM hx0 hx1 hx2 hx3 hNN hm c0 hbl hM0
    have hn : ¬ ((m : Int) < 4) := by omega
    have i0 : (0 : Int) < m := by omega
    have i1 : (1 : Int) < m := by omega
    have i2 : (2 : Int) < m := by omega
    have i3 : (3 : Int) < m := by omega
    have j0 : 0 < m := by omega
    go_enter Tryz.func89, Tryz.ntmps89
    go_wp2_with fail
    go_quiet (fail)
    obtain ⟨wq, hwq⟩ : ∃ wq, w.drewN nq = wq := ⟨_, rfl⟩
    have HB := Lib.hid (bel_drewN (Below.refl w.heap.size w) nq)
    rw [hwq] at HB
    rw [hwq]
    have hcm := may_any N wq
    go_wp2_with fail
    refine hcm.mono ?_; rintro e w1 ⟨rfl, rfl⟩
    have hNk : (N : Int) < 9223372036854775808 := by have := HN.out; omega
    have hw : IntKind.i64.wrap (N : Int) = (N : Int) := by rw [IntKind.wrap_i64]; omega
    cases hm : mayN N with
    | false =>
      have hMM : M0 = 0 := by rw [← HM.out, hm]; rfl
      subst hMM
      go_wp2_with fail
      go_ret2
      exact ⟨by rw [hm]; rfl, HB.out⟩
    | true =>
      have hMM : M0 = N := by rw [← HM.out, hm]; rfl
      subst hMM
      go_wp2_with fail
      go_ret2
      exact ⟨by rw [hm]; rfl, HB.out⟩
  · have hN : lengthB L = false := by unfold lengthB; simp [h4]
    have hM : lengthN L = 0 := by unfold lengthN; simp [h4]
    rw [hN, hM]
    obtain ⟨m, hm⟩ : ∃ m, L.length = m := ⟨_, rfl⟩
    rw [hm] at h4 ⊢
    have hn : (m : Int) < 4 := by omega
    clear hB hl hN hM hm
    go_enter Tryz.func89, Tryz.ntmps89
    go_wp2_with fail
    go_ret2
    exact ⟨rfl, Below.refl _ _⟩
end Go.Proofs.YtmbfhmjcphoddaaGreatDoor.Crc
set_option linter.unusedSimpArgs false
set_option linter.unusedVariables false
namespace Go.Proofs.YtmbfhmjcphoddaaGreatDoor.Crc
open Go Go.RowKit Gm
attribute [local go_sem ↓] Go.wp_at_zero Go.wp_at_succ

/-- Bytes from a place on, as a slice. -/
theorem slice_from {w : World} {v : Value} {L : List UInt8} (hB : Bs w v L) {k : Nat} (hk : k ≤ L.length) (hl : L.length ≤ maxTk) : ∃ p c, (∀ W, (Instr.slice 25 v (some (.int .i64 (k : Int))) none none).run Tryz.prog W = .ok (.slice p (L.length - k) c) W) ∧ Bs w (.slice p (L.length - k) c) (L.drop k) := by
  rcases hB with ⟨rfl, rfl⟩ | ⟨a, cap, rfl, h2, h3⟩
  · obtain rfl : k = 0 := by simpa using hk
    exact ⟨none, 0, fun W => by go_simp, Bs.nil w⟩
  · refine ⟨if cap = k then some a else some (a.add k), cap - k, fun W => ?_, Bs.drop (.inr ⟨a, cap, rfl, h2, h3⟩) hk rfl⟩
    generalize L.length = m at *
    have h4 : (k : Int) ≤ (cap : Int) := by omega
    have h5 : k ≤ cap := by omega
    have h6 : ¬ ((m : Int) < (k : Int)) := by omega
    have h7 : ¬ (cap < m) := by omega
    have h8 : k * 1 = k := Nat.mul_one k
    by_cases hc : cap = k
    · have h9 : (cap : Int) = (k : Int) := by omega
      go_simp
    · have h9 : ¬ ((cap : Int) = (k : Int)) := by omega
      go_simp
/-- Bytes up to a place, as a slice. -/
theorem slice_upto {w : World} {v : Value} {L : List UInt8} (hB : Bs w v L) {k : Nat} (hk : k ≤ L.length) : ∃ p c, (∀ W, (Instr.slice 25 v none (some (.int .i64 (k : Int))) none).run Tryz.prog W = .ok (.slice p k c) W) ∧ Bs w (.slice p k c) (L.take k) := by
  rcases hB with ⟨rfl, rfl⟩ | ⟨a, cap, rfl, h2, h3⟩
  · obtain rfl : k = 0 := by simpa using hk
    exact ⟨none, 0, fun W => by go_simp, Bs.nil w⟩
  · exact ⟨some a, cap, slice_pre_b (some a) L.length cap k hk h2 (by intro h; cases h), Bs.take (.inr ⟨a, cap, rfl, h2, h3⟩) hk⟩
/-- A record in memory of its own: behind the four bytes of a frame's length. -/
def Rec (w : World) (base : Nat) (v : Value) (r : List UInt8) : Prop := ∃ (g cap : Nat) (h : List UInt8), v = .slice (some ⟨g, 4, none⟩) r.length (cap - 4) ∧ h.length = 4 ∧ OwnB w base (.slice (some ⟨g, 0, none⟩) (r.length + 4) cap) (h ++ r)
theorem Rec.form {w : World} {base : Nat} {v : Value} {r : List UInt8} (h : Rec w base v r) : ∃ g cap, v = .slice (some ⟨g, 4, none⟩) r.length (cap - 4) := by
  obtain ⟨g, cap, _, h1, _⟩ := h
  exact ⟨g, cap, h1⟩
theorem Rec.bs {w : World} {base : Nat} {v : Value} {r : List UInt8} (h : Rec w base v r) : Bs w v r := by
  obtain ⟨g, cap, hd, rfl, h4, ho⟩ := h
  have hb : Bs w (.slice (some ⟨g, 0, none⟩) (hd ++ r).length cap) (hd ++ r) := by
    have e : (hd ++ r).length = r.length + 4 := by rw [List.length_append, h4]; omega
    have ho2 := ho
    rw [← e] at ho2
    exact OwnB.bs ho2
  have hc : r.length + 4 ≤ cap := by
    rcases ho.2 with ⟨h, _⟩ | ⟨g1, cap1, cur, h, _, _, h2, _⟩
    · cases h
    · simp only [Value.slice.injEq] at h
      rw [h.2.2]
      have := h2
      rw [List.length_append, h4] at this
      omega
  have hd4 := Bs.drop hb (K := 4) (by rw [List.length_append]; omega) (A := some ⟨g, if cap = 4 then 0 else 4, none⟩) (by by_cases e : cap = 4 <;> simp [e, Addr.add])
  rw [← h4, List.drop_left' rfl, List.length_append, h4, Nat.add_sub_cancel_left] at hd4
  rcases hd4 with ⟨h, _⟩ | ⟨a1, cap1, h1, h2, h3⟩
  · cases h
  · simp only [Value.slice.injEq, Option.some.injEq, true_and] at h1
    obtain ⟨rfl, rfl⟩ := h1
    refine .inr ⟨⟨g, 4, none⟩, cap - 4, rfl, h2, fun hl => ?_⟩
    obtain ⟨b, o, e, r1⟩ := h3 hl
    have : 0 < r.length := by
      cases r with
      | nil => exact absurd rfl hl
      | cons c r => simp
    rw [if_neg (by omega)] at e
    exact ⟨b, o, e, r1⟩
theorem Rec.later {w w' : World} {base : Nat} {v : Value} {r : List UInt8} (h : Rec w base v r) (hb : Below w.heap.size w w') : Rec w' base v r := by
  obtain ⟨g, cap, hd, h1, h4, ho⟩ := h
  exact ⟨g, cap, hd, h1, h4, ho.below hb⟩
theorem Rec.base {w : World} {base base' : Nat} {v : Value} {r : List UInt8} (h : Rec w base v r) (hb : base' ≤ base) : Rec w base' v r := by
  obtain ⟨g, cap, hd, h1, h4, ho⟩ := h
  exact ⟨g, cap, hd, h1, h4, ho.base hb⟩
/-- What the asker answers. -/
def AskR (R : List UInt8) (w : World) (e : Ending) (w' : World) : Prop := Below w.heap.size w w' ∧ ((oneR R = none ∧ e = .returned (.tuple #[.slice none 0 0, .bool false])) ∨ ∃ r v, oneR R = some r ∧ e = .returned (.tuple #[v, .bool true]) ∧ Rec w' w.heap.size v r)
theorem one_parts (R : List UInt8) : oneB R = (lengthB R && decide (lenN R + 8 ≤ R.length) && frameL (R.take (lenN R + 8))) := by
  unfold oneB lengthB mayN
  cases decide (4 ≤ R.length) <;> cases decide (1 ≤ lenN R) <;> cases decide (lenN R ≤ 2048) <;> rfl
theorem one_no {R : List UInt8} (h : oneB R = false) : oneR R = none := by unfold oneR; rw [h]; rfl
set_option maxHeartbeats 4000000 in
set_option maxRecDepth 100000 in
theorem ask_any (b : Nat) (v : Value) (L : List UInt8) (k : Nat) (hk : k ≤ L.length) (hl : L.length ≤ maxTk) (w : World) (hb : Blk w b 25 #[v]) (hB : Bs w v L) (hE : Env w) : Calls Tryz.prog 88 #[.int .i64 (k : Int), .pointer (some ⟨b, 0, none⟩)] w (AskR (L.drop k) w) := by
  obtain ⟨p0, c0, rfl⟩ := hB.form
  obtain ⟨p, c, r1, hR⟩ := slice_from hB hk hl
  have kc := hb.cell 0 (u := .slice p0 L.length c0) rfl
  have hlR : (L.drop k).length ≤ maxTk := by rw [List.length_drop]; omega
  rw [show L.length - k = (L.drop k).length by rw [List.length_drop]] at r1 hR
  clear hb hB hl
  generalize hRR : L.drop k = R at *
  clear hRR
  generalize L.length = m at *
  have HLn := Lib.hid (fun W (h : Below w.heap.size w W) => length_any _ R hlR W (hR.below h))
  have hlR2 : R.length ≤ 140737488355328 := hlR
  unfold AskR
  cases h1 : lengthB R with
  | false =>
    have hn : oneR R = none := one_no (by rw [one_parts, h1]; rfl)
    rw [h1] at HLn
    have HN := Lib.hid hn
    generalize R.length = n at *
    clear hR hlR h1 hn
    go_enter Tryz.func88, Tryz.ntmps88
    go_wp2_with fail
    refine (HLn.out _ (Below.refl _ _)).mono ?_; rintro e w1 ⟨rfl, b1⟩
    go_wp2_with fail
    go_ret2
    exact ⟨b1, .inl ⟨HN.out, rfl⟩⟩
  | true =>
    have hm : 1 ≤ lenN R ∧ lenN R ≤ 2048 := by
      unfold lengthB mayN at h1
      simp only [Bool.and_eq_true, decide_eq_true_eq] at h1
      exact h1.2
    have hlen : lengthN R = lenN R := by
      unfold lengthN
      unfold lengthB at h1
      rw [h1]; rfl
    rw [h1, hlen] at HLn
    by_cases h2 : lenN R + 8 ≤ R.length
    · obtain ⟨p2, c2, r2, hX⟩ := slice_upto hR h2
      have hlX : (R.take (lenN R + 8)).length = lenN R + 8 := by rw [List.length_take]; omega
      have HT := Lib.hid (fun W (h : Below w.heap.size w W) => take_any _ _ W (hE.below h) (hX.below h) (by rw [hlX]; unfold maxTk; omega))
      unfold TakeR at HT
      cases h3 : frameL (R.take (lenN R + 8)) with
      | false =>
        have hn : oneR R = none := one_no (by rw [one_parts, h3, Bool.and_false])
        have e1 : takeE (R.take (lenN R + 8)) = 5 := by unfold takeE; rw [if_neg (by rw [hlX]; omega), h3]; rfl
        rw [e1] at HT
        have HN := Lib.hid hn
        have h2' : ¬ ((R.length : Int) < ((lenN R + 8 : Nat) : Int)) := by omega
        have e2 : 4 + ((lenN R : Nat) : Int) + 4 = ((lenN R + 8 : Nat) : Int) := by omega
        have e3 : IntKind.i64.wrap (4 + ((lenN R : Nat) : Int)) = 4 + ((lenN R : Nat) : Int) := by rw [IntKind.wrap_i64]; omega
        have e4 : IntKind.i64.wrap (4 + ((lenN R : Nat) : Int) + 4) = 4 + ((lenN R : Nat) : Int) + 4 := by rw [IntKind.wrap_i64]; omega
        have e5 : IntKind.i64.wrap (((lenN R + 8 : Nat) : Int)) = ((lenN R + 8 : Nat) : Int) := by rw [IntKind.wrap_i64]; omega
        obtain ⟨N, hN⟩ : ∃ N, lenN R = N := ⟨_, rfl⟩
        rw [hN] at HLn HT r2 h2' e2 e3 e4 e5 hm
        obtain ⟨N8, hN8⟩ : ∃ N8, N + 8 = N8 := ⟨_, rfl⟩
        rw [hN8] at HT r2 h2' e2 e5
        generalize R.take N8 = X at *
        generalize R.length = n at *
        clear hR hlR h1 hn hX hlX h3 e1 hlen h2 hN hN8
        go_enter Tryz.func88, Tryz.ntmps88
        go_wp2_with fail
        refine (HLn.out _ (Below.refl _ _)).mono ?_; rintro e w1 ⟨rfl, b1⟩
        go_wp2_with fail
        refine (HT.out _ b1).mono ?_; rintro e w2 ⟨v2, rfl, ho2, b2⟩
        obtain ⟨q2, d2, rfl⟩ := ho2.form
        generalize (takeB X).length = nX at *
        have HB2 := Lib.hid (then_ b1 b2)
        clear ho2 b2 b1 HT HLn
        go_wp2_with fail
        go_ret2
        exact ⟨HB2.out, .inl ⟨HN.out, rfl⟩⟩
      | true =>
        have hn : oneR R = some ((R.drop 4).take (lenN R)) := by
          unfold oneR
          rw [one_parts, h1, h3, decide_eq_true h2]; rfl
        have e1 : takeE (R.take (lenN R + 8)) = 0 := by unfold takeE; rw [if_neg (by rw [hlX]; omega), h3]; rfl
        have e6 : takeB (R.take (lenN R + 8)) = R.take 4 ++ (R.drop 4).take (lenN R) := by
          unfold takeB
          rw [h3, if_pos rfl, hlX, List.take_take, show min (lenN R + 8 - 4) (lenN R + 8) = 4 + lenN R by omega, List.take_add]
        have e7 : (R.take 4).length = 4 := by rw [List.length_take]; omega
        have e8 : ((R.drop 4).take (lenN R)).length = lenN R := by rw [List.length_take, List.length_drop]; omega
        rw [e1, e6] at HT
        have HN := Lib.hid hn
        have h2' : ¬ ((R.length : Int) < ((lenN R + 8 : Nat) : Int)) := by omega
        have e2 : 4 + ((lenN R : Nat) : Int) + 4 = ((lenN R + 8 : Nat) : Int) := by omega
        have e3 : IntKind.i64.wrap (4 + ((lenN R : Nat) : Int)) = 4 + ((lenN R : Nat) : Int) := by rw [IntKind.wrap_i64]; omega
        have e4 : IntKind.i64.wrap (4 + ((lenN R : Nat) : Int) + 4) = 4 + ((lenN R : Nat) : Int) + 4 := by rw [IntKind.wrap_i64]; omega
        have e5 : IntKind.i64.wrap (((lenN R + 8 : Nat) : Int)) = ((lenN R + 8 : Nat) : Int) := by rw [IntKind.wrap_i64]; omega
        obtain ⟨N, hN⟩ : ∃ N, lenN R = N := ⟨_, rfl⟩
        rw [hN] at HLn HT r2 h2' e2 e3 e4 e5 hm
        rw [hN] at HN e8
        obtain ⟨N8, hN8⟩ : ∃ N8, N + 8 = N8 := ⟨_, rfl⟩
        rw [hN8] at HT r2 h2' e2 e5
        generalize (R.drop 4).take N = r at *
        generalize R.take 4 = hd at *
        generalize R.take N8 = X at *
        generalize R.length = n at *
        have HE7 := Lib.hid e7
        have HE8 := Lib.hid e8
        clear hR hlR h1 hn hX hlX h3 e1 hlen h2 hN hN8 e6 e7 e8
        go_enter Tryz.func88, Tryz.ntmps88
        go_wp2_with fail
        refine (HLn.out _ (Below.refl _ _)).mono ?_; rintro e w1 ⟨rfl, b1⟩
        go_wp2_with fail
        refine (HT.out _ b1).mono ?_; rintro e w2 ⟨v2, rfl, ho2, b2⟩
        obtain ⟨g, cap, rfl, hg, hlt, -⟩ := ho2.row (by intro h; have := congrArg List.length h; rw [List.length_append, HE7.out, List.length_nil] at this; omega)
        have hlen2 : (hd ++ r).length = N + 4 := by rw [List.length_append, HE7.out, HE8.out]; omega
        have hcap : N + 4 ≤ cap := by
          rcases ho2.2 with ⟨h, _⟩ | ⟨g1, cap1, cur, h, _, _, h2, _⟩
          · cases h
          · simp only [Value.slice.injEq] at h
            rw [h.2.2, ← hlen2]; exact h2
        rw [hlen2] at ho2 ⊢
        have r3 := slice_suf_b g 0 (N + 4) cap 4 N (by omega) (by omega) hcap
        rw [Nat.zero_add] at r3
        have HO2 := Lib.hid (ho2.base b1.size)
        have HB2 := Lib.hid (then_ b1 b2)
        clear ho2 b2 b1 HT HLn hlen2
        go_wp2_with fail
        go_ret2
        exact ⟨HB2.out, .inr ⟨r, _, HN.out, rfl, g, cap, hd, by rw [HE8.out]; rfl, HE7.out, by rw [HE8.out]; exact HO2.out⟩⟩
    · have hn : oneR R = none := one_no (by rw [one_parts, decide_eq_false h2, Bool.and_false, Bool.false_and])
      have HN := Lib.hid hn
      have h2' : (R.length : Int) < ((lenN R + 8 : Nat) : Int) := by omega
      have e2 : 4 + ((lenN R : Nat) : Int) + 4 = ((lenN R + 8 : Nat) : Int) := by omega
      have e3 : IntKind.i64.wrap (4 + ((lenN R : Nat) : Int)) = 4 + ((lenN R : Nat) : Int) := by rw [IntKind.wrap_i64]; omega
      have e4 : IntKind.i64.wrap (4 + ((lenN R : Nat) : Int) + 4) = 4 + ((lenN R : Nat) : Int) + 4 := by rw [IntKind.wrap_i64]; omega
      have e5 : IntKind.i64.wrap (((lenN R + 8 : Nat) : Int)) = ((lenN R + 8 : Nat) : Int) := by rw [IntKind.wrap_i64]; omega
      obtain ⟨N, hN⟩ : ∃ N, lenN R = N := ⟨_, rfl⟩
      rw [hN] at HLn h2' e2 e3 e4 e5 hm
      obtain ⟨N8, hN8⟩ : ∃ N8, N + 8 = N8 := ⟨_, rfl⟩
      rw [hN8] at h2' e2 e5
      generalize R.length = n at *
      clear hR hlR h1 hn hlen h2 hN hN8
      go_enter Tryz.func88, Tryz.ntmps88
      go_wp2_with fail
      refine (HLn.out _ (Below.refl _ _)).mono ?_; rintro e w1 ⟨rfl, b1⟩
      go_wp2_with fail
      go_ret2
      exact ⟨b1, .inl ⟨HN.out, rfl⟩⟩
end Go.Proofs.YtmbfhmjcphoddaaGreatDoor.Crc
