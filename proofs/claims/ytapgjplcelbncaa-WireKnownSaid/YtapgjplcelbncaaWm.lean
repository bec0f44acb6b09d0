/- The contracts of the document's reader: Int, Bytes. -/
import Derived.Test.YtapgjplcelbncaaWn
set_option linter.unusedSimpArgs false
set_option linter.unusedVariables false
namespace Go.Proofs.Ytapgjplcelbncaa
open Go.RowKit Gm
attribute [local go_sem ↓] Go.wp_at_zero Go.wp_at_succ

theorem rrnum_any (R : Nat) (v : Value) (L : List UInt8) (most : Nat) (hm : most < 18446744073709551616) (w : World) (hR : Blk w R 37 #[v]) (hB : Bs w v L) (hl : L.length ≤ 140737488355328) : Calls Try.prog 19 #[.pointer (some ⟨R, 0, none⟩), .int .u64 most] w (RNumE R L most w) := by
  by_cases h : L = []
  · subst h; exact rrnum_nil R v most w hR hB
  · rcases hB with ⟨_, h2⟩ | ⟨a, cap, rfl, h2, h3⟩
    · exact absurd h2 h
    · obtain ⟨b, o, rfl, hb, hc⟩ := h3 h
      exact rrnum_cons R b o cap L most hm w hR h2 hb hc hl

/-- What the document's Int leaves. -/
def RIntE (R : Nat) (L : List UInt8) (w : World) (e : Ending) (w' : World) : Prop :=
  match readN L 18446744073709551615 with
  | .ok n k => ∃ v', e = .returned (.tuple #[.int .i64 (unfoldI n), .int .i64 0]) ∧ Blk w' R 37 #[v'] ∧ OwnB w' w.heap.size v' (L.drop k) ∧ w.grownBy w' (some R)
  | .err c => e = .returned (.tuple #[.int .i64 0, .int .i64 c]) ∧ w' = w
theorem err_pos {L : List UInt8} {most c : Nat} (h : readN L most = .err c) : c ≠ 0 := by
  unfold readN at h
  rintro rfl
  split at h
  · cases h
  split at h
  · cases h
  split at h
  · cases h
  split at h
  · cases h
  split at h <;> cases h
set_option maxHeartbeats 1000000 in
theorem rrint_any (R : Nat) (v : Value) (L : List UInt8) (w : World) (hR : Blk w R 37 #[v]) (hB : Bs w v L) (hl : L.length ≤ 140737488355328) : Calls Try.prog 21 #[.pointer (some ⟨R, 0, none⟩)] w (RIntE R L w) := by
  have hN := rrnum_any R v L 18446744073709551615 (by decide) w hR hB hl
  clear hR hB
  cases hr : readN L 18446744073709551615 with
  | err c =>
    have hc := err_pos hr
    have HE : Hid (RIntE R L w (.returned (.tuple #[.int .i64 0, .int .i64 c])) w) := Lib.hid (by unfold RIntE; rw [hr]; exact ⟨rfl, rfl⟩)
    have HN : Hid (Calls Try.prog 19 #[.pointer (some ⟨R, 0, none⟩), .int .u64 18446744073709551615] w (Quits (.tuple #[.int .u64 0, .int .i64 c]) w)) := Lib.hid (hN.mono fun e w' h => by unfold RNumE at h; rw [hr] at h; exact h)
    have e1 : ((c : Int) == 0) = false := by rw [beq_eq_false_iff_ne]; omega
    have e2 : ((c : Int) != 0) = true := by simp; omega
    have e3 : (c == 0) = false := by rw [beq_eq_false_iff_ne]; exact hc
    clear hN hr hc
    go_enter Try.func21, Try.ntmps21
    go_wp2_with fail
    refine HN.out.mono ?_; rintro e w1 ⟨rfl, rfl⟩
    go_wp2_with fail
    go_ret2
    exact HE.out
  | ok n k =>
    have hn := (read_ok hr).1
    have HN : Hid (Calls Try.prog 19 #[.pointer (some ⟨R, 0, none⟩), .int .u64 18446744073709551615] w (fun e w' => ∃ v', e = .returned (.tuple #[.int .u64 n, .int .i64 0]) ∧ Blk w' R 37 #[v'] ∧ OwnB w' w.heap.size v' (L.drop k) ∧ w.grownBy w' (some R))) := Lib.hid (hN.mono fun e w' h => by unfold RNumE at h; rw [hr] at h; exact h)
    have HU := Lib.hid (fun W => runfolded_any n hn W)
    have HE : Hid (∀ w' v', Blk w' R 37 #[v'] → OwnB w' w.heap.size v' (L.drop k) → w.grownBy w' (some R) → RIntE R L w (.returned (.tuple #[.int .i64 (unfoldI n), .int .i64 0])) w') := Lib.hid (fun w' v' a b c => by unfold RIntE; rw [hr]; exact ⟨v', rfl, a, b, c⟩)
    clear hN hr hn
    go_enter Try.func21, Try.ntmps21
    go_wp2_with fail
    refine HN.out.mono ?_; rintro e w1 ⟨v', rfl, hR1, hO1, hg1⟩
    have HF := Lib.hid (HE.out w1 v' hR1 hO1 hg1)
    clear hR1 hO1 hg1
    go_wp2_with fail
    refine (HU.out _).mono ?_; rintro e w2 ⟨rfl, rfl⟩
    go_wp2_with fail
    go_ret2
    exact HF.out

/-- What a reading of bytes answers. -/
inductive RB where
  | ok (s : List UInt8) (k : Nat)
  | err (e : Nat)
def readB (L : List UInt8) (most : Int) : RB :=
  if most < 0 then .err 1
  else match readN L most.toNat with
    | .err c => .err c
    | .ok n k => if (L.drop k).length < n then .err 4 else .ok ((L.drop k).take n) (k + n)
/-- What the document's Bytes leaves. -/
def RBytesE (R : Nat) (v : Value) (L : List UInt8) (most : Int) (w : World) (e : Ending) (w' : World) : Prop :=
  match readB L most with
  | .ok s k => ∃ u v', e = .returned (.tuple #[u, .int .i64 0]) ∧ OwnB w' w.heap.size u s ∧ Blk w' R 37 #[v'] ∧ OwnB w' w.heap.size v' (L.drop k) ∧ w.grownBy w' (some R)
  | .err c => e = .returned (.tuple #[.slice none 0 0, .int .i64 c]) ∧ Blk w' R 37 #[v] ∧ w.grownBy w' (some R)
theorem rbytesE_err {R c : Nat} {v : Value} {L : List UInt8} {most : Int} {w w' : World} (h : readB L most = .err c) (h1 : Blk w' R 37 #[v]) (h2 : w.grownBy w' (some R)) : RBytesE R v L most w (.returned (.tuple #[.slice none 0 0, .int .i64 c])) w' := by
  unfold RBytesE; rw [h]; exact ⟨rfl, h1, h2⟩

set_option maxHeartbeats 2000000 in
set_option maxRecDepth 20000 in
theorem rrbytes_any (R : Nat) (v : Value) (L : List UInt8) (most : Int) (hm1 : -9223372036854775808 ≤ most) (hm2 : most ≤ 9223372036854775807) (w : World) (hR : Blk w R 37 #[v]) (hB : Bs w v L) (hl : L.length ≤ 140737488355328) : Calls Try.prog 23 #[.pointer (some ⟨R, 0, none⟩), .int .i64 most] w (RBytesE R v L most w) := by
  by_cases h0 : most < 0
  · have e1 : decide (most < 0) = true := by simpa using h0
    have HE := Lib.hid (rbytesE_err (R := R) (v := v) (w := w) (w' := w) (by unfold readB; rw [if_pos h0] : readB L most = .err 1) hR (World.grownBy.refl _ _))
    clear h0 hR hB
    go_enter Try.func23, Try.ntmps23
    go_wp2_with fail
    go_ret2
    exact HE.out
  · obtain ⟨M, hM⟩ : ∃ M : Nat, most = (M : Int) := ⟨most.toNat, by omega⟩
    subst hM
    have e1 : decide ((M : Int) < 0) = false := by simp
    have hM64 : M < 18446744073709551616 := by omega
    have hN := rrnum_any R v L M hM64 w hR hB hl
    have c0 := hR.cell 0 (u := v) rfl
    obtain ⟨pv, capv, rfl⟩ := hB.form
    have HR := Lib.hid hR
    have HB := Lib.hid hB
    have hrb : readB L (M : Int) = match readN L M with
      | .err c => .err c
      | .ok n k => if (L.drop k).length < n then .err 4 else .ok ((L.drop k).take n) (k + n) := by
      unfold readB; rw [if_neg h0]; rfl
    clear h0 hR hB
    cases hr : readN L M with
    | err c =>
      have hc := err_pos hr
      rw [hr] at hrb
      have HE := Lib.hid (rbytesE_err (R := R) (v := .slice pv L.length capv) (w := w) (w' := w) hrb HR.out (World.grownBy.refl _ _))
      have HN : Hid (Calls Try.prog 19 #[.pointer (some ⟨R, 0, none⟩), .int .u64 M] w (Quits (.tuple #[.int .u64 0, .int .i64 c]) w)) := Lib.hid (hN.mono fun e w' h => by unfold RNumE at h; rw [hr] at h; exact h)
      have e2 : ((c : Int) == 0) = false := by rw [beq_eq_false_iff_ne]; omega
      have e3 : (c == 0) = false := by rw [beq_eq_false_iff_ne]; exact hc
      clear hN hr hc hrb
      go_enter Try.func23, Try.ntmps23
      go_wp2_with fail
      refine HN.out.mono ?_; rintro e w1 ⟨rfl, rfl⟩
      go_wp2_with fail
      go_ret2
      exact HE.out
    | ok n k =>
      have hok := read_ok hr
      rw [hr] at hrb
      dsimp only at hrb
      have HRb := Lib.hid hrb
      have HN : Hid (Calls Try.prog 19 #[.pointer (some ⟨R, 0, none⟩), .int .u64 M] w (fun e w' => ∃ v', e = .returned (.tuple #[.int .u64 n, .int .i64 0]) ∧ Blk w' R 37 #[v'] ∧ OwnB w' w.heap.size v' (L.drop k) ∧ w.grownBy w' (some R))) := Lib.hid (hN.mono fun e w' h => by unfold RNumE at h; rw [hr] at h; exact h)
      obtain ⟨D, hD⟩ : ∃ D, L.drop k = D := ⟨_, rfl⟩
      have hDl : D.length ≤ 140737488355328 := by rw [← hD, List.length_drop]; omega
      rw [hD] at HN HRb
      have HD := Lib.hid hD
      have hn64 := hok.1
      clear hN hr hrb hok hD
      go_enter Try.func23, Try.ntmps23
      go_wp2_with fail
      refine HN.out.mono ?_; rintro e w1 ⟨v', rfl, hR1, hO1, hg1⟩
      obtain ⟨p1, cap1, rfl⟩ := hO1.form
      have c1 := hR1.cell 0 (u := .slice p1 D.length cap1) rfl
      have f1 := hR1.free 0
      have HR1 := Lib.hid hR1
      have HO1 := Lib.hid hO1
      have HG1 := Lib.hid hg1
      clear hR1 hO1 hg1
      by_cases hlt : D.length < n
      · have e2 : decide ((D.length : Int) < (n : Int)) = true := by simp; omega
        have e2n : decide (D.length < n) = true := by simpa using hlt
        have HE := Lib.hid (HRb.out.trans (if_pos hlt))
        clear hlt
        go_wp2_with fail
        go_ret2
        exact rbytesE_err HE.out (HR1.out.set _) (grown_set HG1.out _)
      · have e2 : decide ((D.length : Int) < (n : Int)) = false := by simp; omega
        have e2n : decide (D.length < n) = false := by simpa using hlt
        have HE := Lib.hid (HRb.out.trans (if_neg hlt))
        have hnl : n ≤ D.length := by omega
        clear hlt
        have hEnd : ∀ u v' w', OwnB w' w1.heap.size u (D.take n) → Blk w' R 37 #[v'] → OwnB w' w1.heap.size v' (D.drop n) → w1.grownBy w' (some R) → RBytesE R (.slice pv L.length capv) L (M : Int) w (.returned (.tuple #[u, .int .i64 0])) w' := fun u v' w' h1 h2 h3 h4 => by
          unfold RBytesE
          rw [HE.out]
          refine ⟨u, v', rfl, h1.base HG1.out.size, h2, ?_, HG1.out.trans h4⟩
          have e : L.drop (k + n) = D.drop n := by rw [← HD.out, List.drop_drop]
          rw [e]; exact h3.base HG1.out.size
        have HEnd := Lib.hid hEnd
        clear hEnd c0
        rcases HO1.out.2 with ⟨hv, hz⟩ | ⟨g, cap, cur, hv, hg, hh, hcp, _⟩
        · have hD0 : D = [] := List.eq_nil_of_length_eq_zero hz
          subst hD0
          obtain rfl : n = 0 := by simpa using hnl
          simp only [Value.slice.injEq] at hv
          obtain ⟨rfl, _, rfl⟩ := hv
          go_wp2_with fail
          refine (rown_any _ [] _ (Bs.nil _) (by simp)).mono ?_; rintro e w2 ⟨u2, rfl, hO2, b2⟩
          obtain ⟨q2, capq2, rfl⟩ := hO2.form
          have HR2 := Lib.hid (HR1.out.later b2)
          have q0 := HR2.out.cell 0 (u := .slice none 0 0) rfl
          have HO2 := Lib.hid hO2
          have HB2 := Lib.hid b2
          clear hO2 b2 c1 f1
          go_wp2_with fail
          refine (rown_any _ [] _ (Bs.nil _) (by simp)).mono ?_; rintro e w3 ⟨u3, rfl, hO3, b3⟩
          obtain ⟨q3, capq3, rfl⟩ := hO3.form
          have HR3 := Lib.hid (HR2.out.later b3)
          have z0 := HR3.out.cell 0 (u := .slice none 0 0) rfl
          have z1 := HR3.out.free 0
          have HO23 := Lib.hid (HO2.out.below b3)
          have HO3 := Lib.hid (hO3.base HB2.out.size)
          have HB3 := Lib.hid (then_ HB2.out b3)
          clear hO3 b3 q0
          go_wp2_with fail
          go_ret2
          exact HEnd.out _ _ _ (HO23.out.setOther HR3.out (by decide) _) (HR3.out.set _) (HO3.out.setOther HR3.out (by decide) _) (grown_set (grown_below HB3.out _) _)
        · simp only [Value.slice.injEq] at hv
          obtain ⟨rfl, _, rfl⟩ := hv
          have hbD := HO1.out.bs
          have HbD := Lib.hid hbD
          have i1 : (n : Int) ≤ (D.length : Int) := by omega
          have i2 : (D.length : Int) ≤ (cap1 : Int) := by omega
          have i3 : (n : Int) ≤ (cap1 : Int) := by omega
          obtain ⟨T1, hT1⟩ : ∃ T1, D.take n = T1 := ⟨_, rfl⟩
          obtain ⟨T2, hT2⟩ : ∃ T2, D.drop n = T2 := ⟨_, rfl⟩
          have hbT1 := hbD.take hnl
          rw [hT1] at hbT1
          have HT1 := Lib.hid hbT1
          have hl1 : T1.length ≤ 140737488355328 := by rw [← hT1, List.length_take]; omega
          have hl2 : T2.length ≤ 140737488355328 := by rw [← hT2, List.length_drop]; omega
          have hdr1 : ∀ W, Bs W (.slice (some ⟨g, 0, none⟩) D.length cap1) D → cap1 ≠ n → Bs W (.slice (some ⟨g, n, none⟩) (D.length - n) (cap1 - n)) T2 := fun W hW h => by
            rw [← hT2]
            refine hW.drop hnl ?_
            rw [if_neg h]; unfold Addr.add
            by_cases h0 : n = 0
            · subst h0; simp
            · simp [h0]
          have hdr2 : ∀ W, Bs W (.slice (some ⟨g, 0, none⟩) D.length cap1) D → cap1 = n → Bs W (.slice (some ⟨g, 0, none⟩) (D.length - n) 0) T2 := fun W hW h => by
            have h2 := hW.drop hnl (A := some ⟨g, 0, none⟩) (by rw [if_pos h])
            rw [h, Nat.sub_self, hT2] at h2
            rw [h] at *
            exact h2
          have HDr1 := Lib.hid hdr1
          have HDr2 := Lib.hid hdr2
          rw [hT1, hT2] at HEnd
          clear hbD hbT1 hT1 hT2 hdr1 hdr2 hh hg
          go_wp2_with fail
          refine (rown_any _ T1 _ HT1.out hl1).mono ?_; rintro e w2 ⟨u2, rfl, hO2, b2⟩
          obtain ⟨q2, capq2, rfl⟩ := hO2.form
          have HR2 := Lib.hid (HR1.out.later b2)
          have q0 := HR2.out.cell 0 (u := .slice (some ⟨g, 0, none⟩) D.length cap1) rfl
          have HO2 := Lib.hid hO2
          have HB2 := Lib.hid b2
          have HbD2 := Lib.hid (HbD.out.below b2)
          clear hO2 b2 c1 f1
          go_wp2_with fail
          all_goals
            refine (rown_any _ T2 _ (by first | exact HDr1.out _ HbD2.out (by assumption) | exact HDr2.out _ HbD2.out (by assumption)) hl2).mono ?_
            rintro e w3 ⟨u3, rfl, hO3, b3⟩
            obtain ⟨q3, capq3, rfl⟩ := hO3.form
            have HR3 := Lib.hid (HR2.out.later b3)
            have z0 := HR3.out.cell 0 rfl
            have z1 := HR3.out.free 0
            have HO23 := Lib.hid (HO2.out.below b3)
            have HO3 := Lib.hid (hO3.base HB2.out.size)
            have HB3 := Lib.hid (then_ HB2.out b3)
            clear hO3 b3 q0
            go_wp2_with fail
            go_ret2
            exact HEnd.out _ _ _ (HO23.out.setOther HR3.out (by decide) _) (HR3.out.set _) (HO3.out.setOther HR3.out (by decide) _) (grown_set (grown_below HB3.out _) _)
end Go.Proofs.Ytapgjplcelbncaa
