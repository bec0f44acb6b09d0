/- Frames: package crc's Take; the document's. -/
import Derived.Test.YtelocbohiddpgaaGreatDoorYg
import Derived.Test.YtelocbohiddpgaaGreatDoorKL
import Derived.ChangeKeysEq
set_option linter.unusedSimpArgs false
set_option linter.unusedVariables false
namespace Go.Proofs.YtelocbohiddpgaaGreatDoor.Crc
open Go Go.RowKit Gm
attribute [local go_sem ↓] Go.wp_at_zero Go.wp_at_succ

def takeE (L : List UInt8) : Int := if L.length < 4 then 4 else if frameL L then 0 else 5
def takeB (L : List UInt8) : List UInt8 := if frameL L then L.take (L.length - 4) else []
/-- What a Take leaves. -/
def TakeR (L : List UInt8) (w : World) (e : Ending) (w' : World) : Prop := ∃ v, e = .returned (.tuple #[v, .int .i64 (takeE L)]) ∧ OwnB w' w.heap.size v (takeB L) ∧ Below w.heap.size w w'
theorem split4 (L : List UInt8) (h : 4 ≤ L.length) : ∃ H a b c d, L = H ++ [a, b, c, d] := by
  obtain ⟨a, b, c, d, h4⟩ := four_le (L.drop (L.length - 4)) (by rw [List.length_drop]; omega)
  exact ⟨L.take (L.length - 4), a, b, c, d, by rw [← h4, List.take_append_drop]⟩
theorem frame_split (H : List UInt8) (a b c d : UInt8) : frameL (H ++ [a, b, c, d]) = decide (le4 (sumL H) = [a, b, c, d]) := by
  have e : (H ++ [a, b, c, d]).take ((H ++ [a, b, c, d]).length - 4) = H := by
    rw [List.length_append]; exact List.take_left' (by simp)
  unfold frameL
  rw [e]
  unfold putL
  rw [Bool.eq_iff_iff]
  simp
theorem takeE_split (H : List UInt8) (a b c d : UInt8) : takeE (H ++ [a, b, c, d]) = if le4 (sumL H) = [a, b, c, d] then 0 else 5 := by
  unfold takeE
  rw [frame_split, if_neg (by simp)]
  by_cases h : le4 (sumL H) = [a, b, c, d] <;> simp [h]
theorem takeB_split (H : List UInt8) (a b c d : UInt8) : takeB (H ++ [a, b, c, d]) = if le4 (sumL H) = [a, b, c, d] then H else [] := by
  unfold takeB
  rw [frame_split]
  by_cases h : le4 (sumL H) = [a, b, c, d]
  · rw [if_pos (by simpa using h), if_pos h, List.length_append]; exact List.take_left' (by simp)
  · rw [if_neg (by simpa using h), if_neg h]
theorem take_short {L : List UInt8} (h : L.length < 4) : takeE L = 4 ∧ takeB L = [] := by
  constructor
  · unfold takeE; rw [if_pos h]
  · unfold takeB frameL; rw [if_neg (by simp; omega)]
/-- Whether two arrays of four bytes are one. -/
def eq4 (a b c d a' b' c' d' : UInt8) : Bool := decide ([a, b, c, d] = [a', b', c', d'])
theorem run_neq_arr4 (a b c d a' b' c' d' : UInt8) (w : World) : (binOp .neq 134 (arr4 a b c d) (arr4 a' b' c' d')).run Tryz.prog w = .ok (.bool (!eq4 a b c d a' b' c' d')) w := by
  obtain ⟨i0, ii, _, _, _⟩ := info_parts infoB
  have hp : Tryz.prog.cellsOf 5 = 1 := by kernel_rfl
  unfold arr4
  rw [run_neq_struct, run_equalIn_array w 9999 _ _ Tryz.underlying134 ii, hp]
  have hr : List.range 4 = [0, 1, 2, 3] := rfl
  rw [hr]
  simp [go_sem, Op.eqItems, Tryz.underlying5]
  have q : ∀ x y : UInt8, ((x.toNat : Int) = (y.toNat : Int)) ↔ x = y := fun x y => by rw [Int.natCast_inj, UInt8.toNat_inj]
  by_cases h0 : a = a' <;> by_cases h1 : b = b' <;> by_cases h2 : c = c' <;> by_cases h3 : d = d' <;> simp [q, h0, h1, h2, h3, eq4]
theorem run_guard_arr4 (a b c d a' b' c' d' : UInt8) (x y : Operand) (w : World) : (eqGuard .neq 134 x y (arr4 a b c d) (arr4 a' b' c' d')).run Tryz.prog w = .ok () w := run_eqGuard_agg _ _ _ _ _ _ _ (by kernel_rfl)
attribute [local go_sem ↓] run_neq_arr4 run_guard_arr4
theorem slice_pre_b (p : Option Addr) (m cap k : Nat) (hk : k ≤ m) (hc : m ≤ cap) (hp : p = none → cap = 0) (W : World) : (Instr.slice 23 (.slice p m cap) none (some (.int .i64 (k : Int))) none).run Tryz.prog W = .ok (.slice p k cap) W := by
  cases p with
  | none =>
    have := hp rfl
    subst this
    have : k = 0 := by omega
    subst this
    have : m = 0 := by omega
    subst this
    go_simp
  | some a =>
    have h1 : (k : Int) ≤ (cap : Int) := by omega
    have h2 : k ≤ cap := by omega
    go_simp
theorem slice_suf_b (b o m cap k r : Nat) (hk : k < m) (hr : k + r = m) (hc : m ≤ cap) (W : World) : (Instr.slice 23 (.slice (some ⟨b, o, none⟩) m cap) (some (.int .i64 (k : Int))) none none).run Tryz.prog W = .ok (.slice (some ⟨b, o + k, none⟩) r (cap - k)) W := by
  subst hr
  have h1 : (k : Int) ≤ (cap : Int) := by omega
  have h2 : k ≤ cap := by omega
  have h4 : ¬ ((cap : Int) = (k : Int)) := by omega
  have e : (some ((⟨b, o, none⟩ : Addr).add (k * 1))) = some (⟨b, o + k, none⟩ : Addr) := by
    unfold Addr.add
    by_cases h0 : k = 0
    · subst h0; simp
    · simp [h0]
  have e2 : k + r - k = r := by omega
  have h5 : ¬ (cap = k) := by omega
  have h6 : ¬ ((k : Int) + (r : Int) < (k : Int)) := by omega
  have h7 : ¬ (cap < k + r) := by omega
  rw [Nat.mul_one] at e
  go_simp
theorem arr_at (a : Addr) (c : Nat) (W : World) : (Instr.arrayAt 134 (.slice (some a) 4 c)).run Tryz.prog W = .ok (.pointer (some a)) W := by
  simp [Instr.arrayAt, run_underlying Tryz.underlying134]
def maxTk : Nat := 140737488355328
set_option maxHeartbeats 2000000 in
set_option maxRecDepth 100000 in
theorem take_any (v : Value) (L : List UInt8) (w : World) (hE : Env w) (hB : Bs w v L) (hl : L.length ≤ maxTk) : Calls Tryz.prog 143 #[v] w (TakeR L w) := by
  by_cases h4 : L.length < 4
  · obtain ⟨e1, e2⟩ := take_short h4
    obtain ⟨p, cap, rfl⟩ := hB.form
    unfold TakeR
    rw [e1, e2]
    obtain ⟨m, hm⟩ : ∃ m, L.length = m := ⟨_, rfl⟩
    rw [hm] at h4 ⊢
    clear hB hm hE hl e1 e2
    have hn : (m : Int) - 4 < 0 := by omega
    go_enter Tryz.func143, Tryz.ntmps143
    go_wp2_with fail
    go_ret2
    exact ⟨_, rfl, OwnB.nil _ _, Below.refl _ _⟩
  · obtain ⟨H, a, b, c, d, rfl⟩ := split4 L (by omega)
    obtain ⟨a', b', c', d', hs⟩ := four_le (le4 (sumL H)) rfl
    have hlen : (H ++ [a, b, c, d]).length = H.length + 4 := by rw [List.length_append]; rfl
    rw [hlen] at hl
    obtain ⟨p, cap, bb, o, rfl, hp, hbl, c0⟩ := bs_at hB (i := H.length) (by rw [hlen]; omega)
    have hcap : H.length + 4 ≤ cap := by
      rcases hB with ⟨h, _⟩ | ⟨a1, cap1, h1, h2, _⟩
      · simp only [Value.slice.injEq] at h; subst hp; cases h.1
      · simp only [Value.slice.injEq] at h1; rw [h1.2.2, ← hlen]; exact h2
    subst hp
    have hcs : ∀ i, i < 4 → w.cell? ⟨bb, o + H.length + i, none⟩ = some (byteV ([a, b, c, d].getD i 0)) := fun i hi => by
      obtain ⟨p1, cap1, b1, o1, e1, e2, _, e3⟩ := bs_at hB (i := H.length + i) (by rw [hlen]; omega)
      subst e2
      simp only [Value.slice.injEq, Option.some.injEq, Addr.mk.injEq, true_and] at e1
      obtain ⟨⟨rfl, rfl, -⟩, -⟩ := e1
      rw [Nat.add_assoc, e3]
      congr 2
      rw [List.getD_eq_getElem?_getD, List.getElem?_append_right (by omega), Nat.add_sub_cancel_left, List.getD_eq_getElem?_getD]
    have hH : Bs w (.slice (some ⟨bb, o, none⟩) H.length cap) H := by
      have := Bs.take hB (K := H.length) (by rw [hlen]; omega)
      rwa [List.take_left' rfl] at this
    have hlH : H.length ≤ maxTk := by omega
    have HS := Lib.hid (fun (W : World) (h : Below w.heap.size w W) => seal_at _ H a' b' c' d' hs W (hE.below h) (hH.below h) (Nat.le_trans hlH (by decide)))
    have HC := Lib.hid (fun (W : World) (h : Below w.heap.size w W) => cloneB_any _ H W (hH.below h) (Nat.le_trans hlH (by decide)))
    unfold TakeR
    rw [takeE_split, takeB_split, hs, hlen]
    have HQ : Hid (eq4 a' b' c' d' a b c d = decide ([a', b', c', d'] = [a, b, c, d])) := Lib.hid rfl
    have r1 := slice_pre_b (some ⟨bb, o, none⟩) (H.length + 4) cap H.length (by omega) hcap (by intro h; cases h)
    have r2 := slice_suf_b bb o (H.length + 4) cap H.length 4 (by omega) rfl hcap
    have r3 := arr_at ⟨bb, o + H.length, none⟩ (cap - H.length)
    have q0 := hcs 0 (by omega)
    have q1 := hcs 1 (by omega)
    have q2 := hcs 2 (by omega)
    have q3 := hcs 3 (by omega)
    obtain ⟨h, hh⟩ : ∃ h, H.length = h := ⟨_, rfl⟩
    obtain ⟨m, hm⟩ : ∃ m, h + 4 = m := ⟨_, rfl⟩
    rw [hh] at HS HC r1 r2 r3 q0 q1 q2 q3 ⊢
    rw [hm] at r1 r2 ⊢
    have hm4 : (m : Int) - 4 = (h : Int) := by omega
    have hm0 : ¬ ((h : Int) < 0) := by omega
    have hm63 : m ≤ 140737488355328 := by rw [← hm, ← hh]; exact hl
    have p0 := fun (z : Later w) => Later.cell q0 z
    have p1 := fun (z : Later w) => Later.cell q1 z
    have p2 := fun (z : Later w) => Later.cell q2 z
    have p3 := fun (z : Later w) => Later.cell q3 z
    simp only [List.getD_cons_zero, List.getD_cons_succ, Nat.add_zero] at p0 p1 p2 p3
    have HL := Lib.hid hl
    clear hE hB hl h4 hs hlen hbl c0 hcs hH hlH hh hm q0 q1 q2 q3
    by_cases hd : [a', b', c', d'] = [a, b, c, d]
    · have hq : eq4 a' b' c' d' a b c d = true := by rw [HQ.out]; simpa using hd
      rw [if_pos hd, if_pos hd]
      clear hd HQ
      go_enter Tryz.func143, Tryz.ntmps143
      go_wp2_with fail
      refine wp_region_later (by kernel_rfl) (by kernel_rfl) ?_
      repeat (quiet_step ((first | (go_at_call 78; exact later_call _ (HS.out _ (Later.bel _))))))
      refine wpQuiet_nil ?_
      intro wz hw'
      obtain ⟨⟨_, hbz⟩, rfl⟩ := hw'
      have HBz := Lib.hid hbz
      have HCz := Lib.hid (HC.out _ hbz)
      clear hbz p0 p1 p2 p3 HC HS
      go_wp2_with fail
      refine HCz.out.mono ?_; rintro e w4 ⟨vr, rfl, ho, b4⟩
      have HO4 := Lib.hid (ho.base (Below.size HBz.out))
      have HB4 := Lib.hid (then_ HBz.out b4)
      clear ho b4 HCz
      go_wp2_with fail
      go_ret2
      exact ⟨_, rfl, HO4.out, HB4.out⟩
    · have hq : eq4 a' b' c' d' a b c d = false := by rw [HQ.out]; simpa using hd
      rw [if_neg hd, if_neg hd]
      clear hd HQ
      go_enter Tryz.func143, Tryz.ntmps143
      go_wp2_with fail
      refine wp_region_later (by kernel_rfl) (by kernel_rfl) ?_
      repeat (quiet_step ((first | (go_at_call 78; exact later_call _ (HS.out _ (Later.bel _))))))
      refine wpQuiet_nil ?_
      intro wz hw'
      obtain ⟨⟨_, hbz⟩, rfl⟩ := hw'
      have HBz := Lib.hid hbz
      have HCz := Lib.hid (HC.out _ hbz)
      clear hbz p0 p1 p2 p3 HC HS
      go_wp2_with fail
      go_ret2
      exact ⟨_, rfl, OwnB.nil _ _, HBz.out⟩
end Go.Proofs.YtelocbohiddpgaaGreatDoor.Crc
