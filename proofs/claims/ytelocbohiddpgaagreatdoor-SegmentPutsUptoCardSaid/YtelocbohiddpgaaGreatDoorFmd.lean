/- Layer 11: what asks a place of bytes for a frame. -/
import Derived.Test.YtelocbohiddpgaaGreatDoorFmc
set_option linter.unusedSimpArgs false
set_option linter.unusedVariables false
namespace Go.Proofs.YtelocbohiddpgaaGreatDoor.Crc
open Go Go.RowKit Gm
attribute [local go_sem ↓] Go.wp_at_zero Go.wp_at_succ

/-- Bytes from a place on, as a slice. -/
theorem slice_from {w : World} {v : Value} {L : List UInt8} (hB : Bs w v L) {k : Nat} (hk : k ≤ L.length) (hl : L.length ≤ maxTk) : ∃ p c, (∀ W, (Instr.slice 23 v (some (.int .i64 (k : Int))) none none).run Tryz.prog W = .ok (.slice p (L.length - k) c) W) ∧ Bs w (.slice p (L.length - k) c) (L.drop k) := by
  rcases hB with ⟨rfl, rfl⟩ | ⟨a, cap, rfl, h2, h3⟩
  · obtain rfl : k = 0 := by simpa using hk
    exact ⟨none, 0, fun W => by go_simp, Bs.nil w⟩
  · refine ⟨if cap = k then some a else some (a.add k), cap - k, fun W => ?_, Bs.drop (.inr ⟨a, cap, rfl, h2, h3⟩) hk rfl⟩
    generalize L.length = m at *
    have h4 : (k : Int) ≤ (cap : Int) := by omega
    have h5 : k ≤ cap := by omega
    have h6 : ¬ ((m : Int) < (k : Int)) := by omega
    have h7 : ¬ (cap < m) := by omega
    have h8 : k * 1 = k := Nat.mul_one k
    by_cases hc : cap = k
    · have h9 : (cap : Int) = (k : Int) := by omega
      go_simp
    · have h9 : ¬ ((cap : Int) = (k : Int)) := by omega
      go_simp
/-- Bytes up to a place, as a slice. -/
theorem slice_upto {w : World} {v : Value} {L : List UInt8} (hB : Bs w v L) {k : Nat} (hk : k ≤ L.length) : ∃ p c, (∀ W, (Instr.slice 23 v none (some (.int .i64 (k : Int))) none).run Tryz.prog W = .ok (.slice p k c) W) ∧ Bs w (.slice p k c) (L.take k) := by
  rcases hB with ⟨rfl, rfl⟩ | ⟨a, cap, rfl, h2, h3⟩
  · obtain rfl : k = 0 := by simpa using hk
    exact ⟨none, 0, fun W => by go_simp, Bs.nil w⟩
  · exact ⟨some a, cap, slice_pre_b (some a) L.length cap k hk h2 (by intro h; cases h), Bs.take (.inr ⟨a, cap, rfl, h2, h3⟩) hk⟩
/-- A record in memory of its own: behind the four bytes of a frame's length. -/
def Rec (w : World) (base : Nat) (v : Value) (r : List UInt8) : Prop := ∃ (g cap : Nat) (h : List UInt8), v = .slice (some ⟨g, 4, none⟩) r.length (cap - 4) ∧ h.length = 4 ∧ OwnB w base (.slice (some ⟨g, 0, none⟩) (r.length + 4) cap) (h ++ r)
theorem Rec.form {w : World} {base : Nat} {v : Value} {r : List UInt8} (h : Rec w base v r) : ∃ g cap, v = .slice (some ⟨g, 4, none⟩) r.length (cap - 4) := by
  obtain ⟨g, cap, _, h1, _⟩ := h
  exact ⟨g, cap, h1⟩
theorem Rec.bs {w : World} {base : Nat} {v : Value} {r : List UInt8} (h : Rec w base v r) : Bs w v r := by
  obtain ⟨g, cap, hd, rfl, h4, ho⟩ := h
  have hb : Bs w (.slice (some ⟨g, 0, none⟩) (hd ++ r).length cap) (hd ++ r) := by
    have e : (hd ++ r).length = r.length + 4 := by rw [List.length_append, h4]; omega
    have ho2 := ho
    rw [← e] at ho2
    exact OwnB.bs ho2
  have hc : r.length + 4 ≤ cap := by
    rcases ho.2 with ⟨h, _⟩ | ⟨g1, cap1, cur, h, _, _, h2, _⟩
    · cases h
    · simp only [Value.slice.injEq] at h
      rw [h.2.2]
      have := h2
      rw [List.length_append, h4] at this
      omega
  have hd4 := Bs.drop hb (K := 4) (by rw [List.length_append]; omega) (A := some ⟨g, if cap = 4 then 0 else 4, none⟩) (by by_cases e : cap = 4 <;> simp [e, Addr.add])
  rw [← h4, List.drop_left' rfl, List.length_append, h4, Nat.add_sub_cancel_left] at hd4
  rcases hd4 with ⟨h, _⟩ | ⟨a1, cap1, h1, h2, h3⟩
  · cases h
  · simp only [Value.slice.injEq, Option.some.injEq, true_and] at h1
    obtain ⟨rfl, rfl⟩ := h1
    refine .inr ⟨⟨g, 4, none⟩, cap - 4, rfl, h2, fun hl => ?_⟩
    obtain ⟨b, o, e, r1⟩ := h3 hl
    have : 0 < r.length := by
      cases r with
      | nil => exact absurd rfl hl
      | cons c r => simp
    rw [if_neg (by omega)] at e
    exact ⟨b, o, e, r1⟩
theorem Rec.later {w w' : World} {base : Nat} {v : Value} {r : List UInt8} (h : Rec w base v r) (hb : Below w.heap.size w w') : Rec w' base v r := by
  obtain ⟨g, cap, hd, h1, h4, ho⟩ := h
  exact ⟨g, cap, hd, h1, h4, ho.below hb⟩
theorem Rec.base {w : World} {base base' : Nat} {v : Value} {r : List UInt8} (h : Rec w base v r) (hb : base' ≤ base) : Rec w base' v r := by
  obtain ⟨g, cap, hd, h1, h4, ho⟩ := h
  exact ⟨g, cap, hd, h1, h4, ho.base hb⟩
/-- What the asker answers. -/
def AskR (R : List UInt8) (w : World) (e : Ending) (w' : World) : Prop := Below w.heap.size w w' ∧ ((oneR R = none ∧ e = .returned (.tuple #[.slice none 0 0, .bool false])) ∨ ∃ r v, oneR R = some r ∧ e = .returned (.tuple #[v, .bool true]) ∧ Rec w' w.heap.size v r)
theorem one_parts (R : List UInt8) : oneB R = (lengthB R && decide (lenN R + 8 ≤ R.length) && frameL (R.take (lenN R + 8))) := by
  unfold oneB lengthB mayN
  cases decide (4 ≤ R.length) <;> cases decide (1 ≤ lenN R) <;> cases decide (lenN R ≤ 2048) <;> rfl
theorem one_no {R : List UInt8} (h : oneB R = false) : oneR R = none := by unfold oneR; rw [h]; rfl
set_option maxHeartbeats 4000000 in
set_option maxRecDepth 100000 in
theorem ask_any (b : Nat) (v : Value) (L : List UInt8) (k : Nat) (hk : k ≤ L.length) (hl : L.length ≤ maxTk) (w : World) (hb : Blk w b 23 #[v]) (hB : Bs w v L) (hE : Env w) : Calls Tryz.prog 141 #[.int .i64 (k : Int), .pointer (some ⟨b, 0, none⟩)] w (AskR (L.drop k) w) := by
  obtain ⟨p0, c0, rfl⟩ := hB.form
  obtain ⟨p, c, r1, hR⟩ := slice_from hB hk hl
  have kc := hb.cell 0 (u := .slice p0 L.length c0) rfl
  have hlR : (L.drop k).length ≤ maxTk := by rw [List.length_drop]; omega
  rw [show L.length - k = (L.drop k).length by rw [List.length_drop]] at r1 hR
  clear hb hB hl
  generalize hRR : L.drop k = R at *
  clear hRR
  generalize L.length = m at *
  have HLn := Lib.hid (fun W (h : Below w.heap.size w W) => length_any _ R hlR W (hR.below h))
  have hlR2 : R.length ≤ 140737488355328 := hlR
  unfold AskR
  cases h1 : lengthB R with
  | false =>
    have hn : oneR R = none := one_no (by rw [one_parts, h1]; rfl)
    rw [h1] at HLn
    have HN := Lib.hid hn
    generalize R.length = n at *
    clear hR hlR h1 hn
    go_enter Tryz.func141, Tryz.ntmps141
    go_wp2_with fail
    refine (HLn.out _ (Below.refl _ _)).mono ?_; rintro e w1 ⟨rfl, b1⟩
    go_wp2_with fail
    go_ret2
    exact ⟨b1, .inl ⟨HN.out, rfl⟩⟩
  | true =>
    have hm : 1 ≤ lenN R ∧ lenN R ≤ 2048 := by
      unfold lengthB mayN at h1
      simp only [Bool.and_eq_true, decide_eq_true_eq] at h1
      exact h1.2
    have hlen : lengthN R = lenN R := by
      unfold lengthN
      unfold lengthB at h1
      rw [h1]; rfl
    rw [h1, hlen] at HLn
    by_cases h2 : lenN R + 8 ≤ R.length
    · obtain ⟨p2, c2, r2, hX⟩ := slice_upto hR h2
      have hlX : (R.take (lenN R + 8)).length = lenN R + 8 := by rw [List.length_take]; omega
      have HT := Lib.hid (fun W (h : Below w.heap.size w W) => take_any _ _ W (hE.below h) (hX.below h) (by rw [hlX]; unfold maxTk; omega))
      unfold TakeR at HT
      cases h3 : frameL (R.take (lenN R + 8)) with
      | false =>
        have hn : oneR R = none := one_no (by rw [one_parts, h3, Bool.and_false])
        have e1 : takeE (R.take (lenN R + 8)) = 5 := by unfold takeE; rw [if_neg (by rw [hlX]; omega), h3]; rfl
        rw [e1] at HT
        have HN := Lib.hid hn
        have h2' : ¬ ((R.length : Int) < ((lenN R + 8 : Nat) : Int)) := by omega
        have e2 : 4 + ((lenN R : Nat) : Int) + 4 = ((lenN R + 8 : Nat) : Int) := by omega
        have e3 : IntKind.i64.wrap (4 + ((lenN R : Nat) : Int)) = 4 + ((lenN R : Nat) : Int) := by rw [IntKind.wrap_i64]; omega
        have e4 : IntKind.i64.wrap (4 + ((lenN R : Nat) : Int) + 4) = 4 + ((lenN R : Nat) : Int) + 4 := by rw [IntKind.wrap_i64]; omega
        have e5 : IntKind.i64.wrap (((lenN R + 8 : Nat) : Int)) = ((lenN R + 8 : Nat) : Int) := by rw [IntKind.wrap_i64]; omega
        obtain ⟨N, hN⟩ : ∃ N, lenN R = N := ⟨_, rfl⟩
        rw [hN] at HLn HT r2 h2' e2 e3 e4 e5 hm
        obtain ⟨N8, hN8⟩ : ∃ N8, N + 8 = N8 := ⟨_, rfl⟩
        rw [hN8] at HT r2 h2' e2 e5
        generalize R.take N8 = X at *
        generalize R.length = n at *
        clear hR hlR h1 hn hX hlX h3 e1 hlen h2 hN hN8
        go_enter Tryz.func141, Tryz.ntmps141
        go_wp2_with fail
        refine (HLn.out _ (Below.refl _ _)).mono ?_; rintro e w1 ⟨rfl, b1⟩
        go_wp2_with fail
        refine (HT.out _ b1).mono ?_; rintro e w2 ⟨v2, rfl, ho2, b2⟩
        obtain ⟨q2, d2, rfl⟩ := ho2.form
        generalize (takeB X).length = nX at *
        have HB2 := Lib.hid (then_ b1 b2)
        clear ho2 b2 b1 HT HLn
        go_wp2_with fail
        go_ret2
        exact ⟨HB2.out, .inl ⟨HN.out, rfl⟩⟩
      | true =>
        have hn : oneR R = some ((R.drop 4).take (lenN R)) := by
          unfold oneR
          rw [one_parts, h1, h3, decide_eq_true h2]; rfl
        have e1 : takeE (R.take (lenN R + 8)) = 0 := by unfold takeE; rw [if_neg (by rw [hlX]; omega), h3]; rfl
        have e6 : takeB (R.take (lenN R + 8)) = R.take 4 ++ (R.drop 4).take (lenN R) := by
          unfold takeB
          rw [h3, if_pos rfl, hlX, List.take_take, show min (lenN R + 8 - 4) (lenN R + 8) = 4 + lenN R by omega, List.take_add]
        have e7 : (R.take 4).length = 4 := by rw [List.length_take]; omega
        have e8 : ((R.drop 4).take (lenN R)).length = lenN R := by rw [List.length_take, List.length_drop]; omega
        rw [e1, e6] at HT
        have HN := Lib.hid hn
        have h2' : ¬ ((R.length : Int) < ((lenN R + 8 : Nat) : Int)) := by omega
        have e2 : 4 + ((lenN R : Nat) : Int) + 4 = ((lenN R + 8 : Nat) : Int) := by omega
        have e3 : IntKind.i64.wrap (4 + ((lenN R : Nat) : Int)) = 4 + ((lenN R : Nat) : Int) := by rw [IntKind.wrap_i64]; omega
        have e4 : IntKind.i64.wrap (4 + ((lenN R : Nat) : Int) + 4) = 4 + ((lenN R : Nat) : Int) + 4 := by rw [IntKind.wrap_i64]; omega
        have e5 : IntKind.i64.wrap (((lenN R + 8 : Nat) : Int)) = ((lenN R + 8 : Nat) : Int) := by rw [IntKind.wrap_i64]; omega
        obtain ⟨N, hN⟩ : ∃ N, lenN R = N := ⟨_, rfl⟩
        rw [hN] at HLn HT r2 h2' e2 e3 e4 e5 hm
        rw [hN] at HN e8
        obtain ⟨N8, hN8⟩ : ∃ N8, N + 8 = N8 := ⟨_, rfl⟩
        rw [hN8] at HT r2 h2' e2 e5
        generalize (R.drop 4).take N = r at *
        generalize R.take 4 = hd at *
        generalize R.take N8 = X at *
        generalize R.length = n at *
        have HE7 := Lib.hid e7
        have HE8 := Lib.hid e8
        clear hR hlR h1 hn hX hlX h3 e1 hlen h2 hN hN8 e6 e7 e8
        go_enter Tryz.func141, Tryz.ntmps141
        go_wp2_with fail
        refine (HLn.out _ (Below.refl _ _)).mono ?_; rintro e w1 ⟨rfl, b1⟩
        go_wp2_with fail
        refine (HT.out _ b1).mono ?_; rintro e w2 ⟨v2, rfl, ho2, b2⟩
        obtain ⟨g, cap, rfl, hg, hlt, -⟩ := ho2.row (by intro h; have := congrArg List.length h; rw [List.length_append, HE7.out, List.length_nil] at this; omega)
        have hlen2 : (hd ++ r).length = N + 4 := by rw [List.length_append, HE7.out, HE8.out]; omega
        have hcap : N + 4 ≤ cap := by
          rcases ho2.2 with ⟨h, _⟩ | ⟨g1, cap1, cur, h, _, _, h2, _⟩
          · cases h
          · simp only [Value.slice.injEq] at h
            rw [h.2.2, ← hlen2]; exact h2
        rw [hlen2] at ho2 ⊢
        have r3 := slice_suf_b g 0 (N + 4) cap 4 N (by omega) (by omega) hcap
        rw [Nat.zero_add] at r3
        have HO2 := Lib.hid (ho2.base b1.size)
        have HB2 := Lib.hid (then_ b1 b2)
        clear ho2 b2 b1 HT HLn hlen2
        go_wp2_with fail
        go_ret2
        exact ⟨HB2.out, .inr ⟨r, _, HN.out, rfl, g, cap, hd, by rw [HE8.out]; rfl, HE7.out, by rw [HE8.out]; exact HO2.out⟩⟩
    · have hn : oneR R = none := one_no (by rw [one_parts, decide_eq_false h2, Bool.and_false, Bool.false_and])
      have HN := Lib.hid hn
      have h2' : (R.length : Int) < ((lenN R + 8 : Nat) : Int) := by omega
      have e2 : 4 + ((lenN R : Nat) : Int) + 4 = ((lenN R + 8 : Nat) : Int) := by omega
      have e3 : IntKind.i64.wrap (4 + ((lenN R : Nat) : Int)) = 4 + ((lenN R : Nat) : Int) := by rw [IntKind.wrap_i64]; omega
      have e4 : IntKind.i64.wrap (4 + ((lenN R : Nat) : Int) + 4) = 4 + ((lenN R : Nat) : Int) + 4 := by rw [IntKind.wrap_i64]; omega
      have e5 : IntKind.i64.wrap (((lenN R + 8 : Nat) : Int)) = ((lenN R + 8 : Nat) : Int) := by rw [IntKind.wrap_i64]; omega
      obtain ⟨N, hN⟩ : ∃ N, lenN R = N := ⟨_, rfl⟩
      rw [hN] at HLn h2' e2 e3 e4 e5 hm
      obtain ⟨N8, hN8⟩ : ∃ N8, N + 8 = N8 := ⟨_, rfl⟩
      rw [hN8] at h2' e2 e5
      generalize R.length = n at *
      clear hR hlR h1 hn hlen h2 hN hN8
      go_enter Tryz.func141, Tryz.ntmps141
      go_wp2_with fail
      refine (HLn.out _ (Below.refl _ _)).mono ?_; rintro e w1 ⟨rfl, b1⟩
      go_wp2_with fail
      go_ret2
      exact ⟨b1, .inl ⟨HN.out, rfl⟩⟩
end Go.Proofs.YtelocbohiddpgaaGreatDoor.Crc
