/- The contracts of the document's reader: Int, Bytes. -/
import Derived.Test.YtelocbohiddpgaaGreatDoorWr
import Derived.Test.YtelocbohiddpgaaGreatDoorWv0
/- The contract of the document's reader: Num. -/
set_option linter.unusedSimpArgs false
set_option linter.unusedVariables false
namespace Go.Proofs.YtelocbohiddpgaaGreatDoor
open Go.RowKit Gm
attribute [local go_sem ↓] Go.wp_at_zero Go.wp_at_succ

/-- What the document's Num of a reader in block R leaves. -/
def RNumE (R : Nat) (L : List UInt8) (most : Nat) (w : World) (e : Ending) (w' : World) : Prop :=
  match readN L most with
  | .ok n k => ∃ v', e = .returned (.tuple #[.int .u64 n, .int .i64 0]) ∧ Blk w' R 79 #[v'] ∧ OwnB w' w.heap.size v' (L.drop k) ∧ w.grownBy w' (some R)
  | .err c => e = .returned (.tuple #[.int .u64 0, .int .i64 c]) ∧ w' = w
theorem rnumE_err {R : Nat} {L : List UInt8} {most c : Nat} {w : World} (h : readN L most = .err c) : RNumE R L most w (.returned (.tuple #[.int .u64 0, .int .i64 c])) w := by
  unfold RNumE; rw [h]; exact ⟨rfl, rfl⟩
theorem rnumE_ok {R : Nat} {L : List UInt8} {most n k : Nat} {w w' : World} {v' : Value} (h : readN L most = .ok n k) (h1 : Blk w' R 79 #[v']) (h2 : OwnB w' w.heap.size v' (L.drop k)) (h3 : w.grownBy w' (some R)) : RNumE R L most w (.returned (.tuple #[.int .u64 n, .int .i64 0])) w' := by
  unfold RNumE; rw [h]; exact ⟨v', rfl, h1, h2, h3⟩

set_option maxHeartbeats 1000000 in
theorem rrnum_nil (R : Nat) (v : Value) (most : Nat) (w : World) (hR : Blk w R 79 #[v]) (hB : Bs w v []) : Calls Tryz.prog 33 #[.pointer (some ⟨R, 0, none⟩), .int .u64 most] w (RNumE R [] most w) := by
  have c0 := hR.cell 0 (u := v) rfl
  obtain ⟨p, cap, rfl⟩ := hB.form
  have HE := Lib.hid (rnumE_err (R := R) (w := w) (read_short (L := []) (most := most) (by simp [leadN]) (by simp [leadN])))
  clear hB hR
  go_enter Tryz.func33, Tryz.ntmps33
  go_wp2_with fail
  go_loopw [6] (fun iv wr => iv = .int .i64 0 ∧ wr = w) (fun _ _ => 0)
  case atStart => exact ⟨rfl, rfl⟩
  case round =>
    obtain ⟨rfl, rfl⟩ := hrel
    go_wp2_with fail
    go_ret2
    exact HE.out

set_option maxHeartbeats 4000000 in
set_option maxRecDepth 20000 in
theorem rrnum_cons (R b o cap : Nat) (L : List UInt8) (most : Nat) (hm : most < 18446744073709551616) (w : World) (hR : Blk w R 79 #[.slice (some ⟨b, o, none⟩) L.length cap]) (hcap : L.length ≤ cap) (hb : b < w.heap.size)
    (hC : ∀ i, i < L.length → w.cell? ⟨b, o + i, none⟩ = some (byteV (L.getD i 0))) (hl : L.length ≤ 140737488355328) : Calls Tryz.prog 33 #[.pointer (some ⟨R, 0, none⟩), .int .u64 most] w (RNumE R L most w) := by
  have c0 := hR.cell 0 (u := .slice (some ⟨b, o, none⟩) L.length cap) rfl
  have HR := Lib.hid hR
  have HC := Lib.hid hC
  clear hR hC
  go_enter Tryz.func33, Tryz.ntmps33
  go_upto_block 0 with (fail)
  go_cut [6] from 10 (fun nv wq => nv = .int .i64 (leadN L : Nat) ∧ wq = w)
  case first =>
    go_wp2_with fail
    go_loopw [6] (fun iv wr => ∃ k : Nat, k ≤ L.length ∧ iv = .int .i64 k ∧ (∀ i, i < k → 128 ≤ (L.getD i 0).toNat) ∧ wr = w) (fun iv _ => L.length - (intOf iv).toNat)
    case atStart => exact ⟨0, Nat.zero_le _, rfl, fun i hi => by omega, rfl⟩
    case round =>
      obtain ⟨k, hk, rfl, hall, rfl⟩ := hrel
      have HA := Lib.hid hall
      clear hall
      by_cases hkl : k < L.length
      · have d0 := HC.out k hkl
        obtain ⟨c, hc⟩ : ∃ c, L.getD k 0 = c := ⟨_, rfl⟩
        rw [hc] at d0
        have HCc := Lib.hid hc
        clear hc
        by_cases h8 : 128 ≤ c.toNat
        · have e1 : decide ((128 : Int) ≤ (c.toNat : Int)) = true := by simp; omega
          have H8 := Lib.hid h8
          clear h8
          go_wp2_with fail
          go_roundw
          case rel =>
            refine ⟨k + 1, by omega, by simp, fun i hi => ?_, trivial⟩
            by_cases hik : i < k
            · exact HA.out i hik
            · have : i = k := by omega
              subst this; rw [HCc.out]; exact H8.out
          case measure => simp [intOf]; omega
        · have e1 : decide ((128 : Int) ≤ (c.toNat : Int)) = false := by simp; omega
          have H8 := Lib.hid h8
          clear h8
          go_wp2_with fail
          go_meet
          case rel => exact ⟨congrArg (fun n : Nat => Value.int .i64 (n : Int)) (lead_at hk HA.out (fun _ => by rw [HCc.out]; have := H8.out; omega)).symm, rfl⟩
      · go_wp2_with fail
        go_meet
        case rel => exact ⟨congrArg (fun n : Nat => Value.int .i64 (n : Int)) (lead_at hk HA.out (fun h => absurd h hkl)).symm, rfl⟩
  case rest =>
    obtain ⟨rfl, rfl⟩ := hcut
    have hle := leadN_le L
    obtain ⟨hs1, hs2⟩ := lead_split L
    have HS2 := Lib.hid hs2
    obtain ⟨K, hK⟩ : ∃ K, leadN L = K := ⟨_, rfl⟩
    have HK := Lib.hid hK
    rw [hK] at hle ⊢
    clear hs1 hs2 hK
    by_cases k10 : 10 ≤ K
    · have e1 : decide ((10 : Int) ≤ (K : Int)) = true := by simp; omega
      have HE := Lib.hid (rnumE_err (R := R) (w := wc) (read_10 (L := L) (most := most) (by rw [HK.out]; exact k10)))
      clear k10
      go_wp2_with fail
      go_ret2
      exact HE.out
    · have e1 : decide ((10 : Int) ≤ (K : Int)) = false := by simp; omega
      have H10 : Hid (¬ 10 ≤ leadN L) := Lib.hid (by rw [HK.out]; exact k10)
      have hK9 : K ≤ 9 := by omega
      clear k10
      by_cases kl : K = L.length
      · have e2 : ((K : Int) == (L.length : Int)) = true := by rw [beq_iff_eq]; omega
        have e3 : (K == L.length) = true := by rw [beq_iff_eq]; exact kl
        have HE := Lib.hid (rnumE_err (R := R) (w := wc) (read_short (L := L) (most := most) H10.out (by rw [HK.out]; exact kl)))
        clear kl
        go_wp2_with fail
        go_ret2
        exact HE.out
      · have e2 : ((K : Int) == (L.length : Int)) = false := by rw [beq_eq_false_iff_ne]; omega
        have e3 : (K == L.length) = false := by rw [beq_eq_false_iff_ne]; exact kl
        have HNl : Hid (¬ leadN L = L.length) := Lib.hid (by rw [HK.out]; exact kl)
        have hKl : K < L.length := by omega
        clear kl
        by_cases k9 : K = 9 ∧ 1 < (L.getD 9 0).toNat % 128
        · have HE := Lib.hid (rnumE_err (R := R) (w := wc) (read_big (L := L) (most := most) H10.out HNl.out (by rw [HK.out]; exact k9)))
          obtain ⟨rfl, k9⟩ := k9
          have d0 := HC.out 9 hKl
          obtain ⟨c, hc⟩ : ∃ c, L.getD 9 0 = c := ⟨_, rfl⟩
          rw [hc] at d0 k9
          have e4 : decide ((1 : Int) < (c.toNat : Int) % 128) = true := by simp; omega
          clear hc
          go_wp2_with fail
          go_loopw [7, 8] (fun sv iv wr => sv = .int .u64 0 ∧ iv = .int .i64 9 ∧ wr = wc) (fun _ _ _ => 0)
          case atStart => exact ⟨rfl, rfl, rfl⟩
          case round =>
            obtain ⟨rfl, rfl, rfl⟩ := hrel
            go_wp2_with fail
            go_ret2
            exact HE.out
        · have H9 : Hid (¬ (leadN L = 9 ∧ 1 < (L.getD 9 0).toNat % 128)) := Lib.hid (by rw [HK.out]; exact k9)
          have HV := Lib.hid (valG_64 H10.out HNl.out H9.out)
          have hL4 := read_last (L := L) (most := most) H10.out HNl.out H9.out
          rw [HK.out] at hL4 HV
          obtain ⟨M, hM⟩ : ∃ M, L.take (K + 1) = M := ⟨_, rfl⟩
          rw [hM] at hL4 HV
          have HM := Lib.hid hM
          have HL4 := Lib.hid hL4
          have H9K : Hid (K = 9 → (L.getD 9 0).toNat % 128 ≤ 1) := Lib.hid (fun h => by
            by_cases hh : 1 < (L.getD 9 0).toNat % 128
            · exact absurd ⟨h, hh⟩ k9
            · omega)
          have hMl : M.length = K + 1 := by rw [← hM, List.length_take]; omega
          have HMl := Lib.hid hMl
          have HAt : Hid (∀ j, j ≤ K → M.getD j 0 = L.getD j 0) := Lib.hid (fun j hj => by rw [← hM, List.getD_eq_getElem?_getD, List.getD_eq_getElem?_getD, List.getElem?_take, if_pos (by omega)])
          clear k9 hL4 hM hMl
          go_wp2_with fail
          go_loopw [7, 8] (fun sv iv wr => ∃ j : Nat, j ≤ K + 1 ∧ sv = .int .u64 (valG (M.drop j) : Nat) ∧ iv = .int .i64 ((j : Int) - 1) ∧ wr = wc) (fun _ iv _ => (intOf iv + 1).toNat)
          case atStart => exact ⟨K + 1, Nat.le_refl _, by rw [List.drop_eq_nil_of_le (by rw [HMl.out]; exact Nat.le_refl _)]; rfl, by simp, rfl⟩
          case round =>
            obtain ⟨j, hj, rfl, rfl, rfl⟩ := hrel
            cases j with
            | succ j =>
              have d0 := HC.out j (by omega)
              have hst := valG_drop_at (M := M) (j := j) (by rw [HMl.out]; omega)
              rw [HAt.out j (by omega)] at hst
              have hle2 := valG_drop_le M j
              have hv := HV.out
              obtain ⟨c, hc⟩ : ∃ c, L.getD j 0 = c := ⟨_, rfl⟩
              rw [hc] at d0 hst
              obtain ⟨Y, hY⟩ : ∃ Y, valG (M.drop (j + 1)) = Y := ⟨_, rfl⟩
              rw [hY] at hst ⊢
              have HSt := Lib.hid hst
              have hb1 : 128 * Y + c.toNat % 128 < 18446744073709551616 := by omega
              have hj1 : ((j + 1 : Nat) : Int) - 1 = (j : Int) := by omega
              rw [hj1]
              have hj0 : (0 : Int) ≤ (j : Int) := by omega
              by_cases j9 : j = 9
              · have hc9 : c.toNat % 128 ≤ 1 := by
                  have := H9K.out (by omega)
                  rw [← j9, hc] at this; exact this
                have e4 : ((j : Int) == 9) = true := by rw [beq_iff_eq]; omega
                have e5 : decide ((1 : Int) < (c.toNat : Int) % 128) = false := by simp; omega
                clear hY hc hst hle2 hv j9 hj1 hc9
                go_wp2_with fail
                go_roundw
                case rel => exact ⟨j, by omega, by rw [HSt.out]; congr 1; omega, rfl, trivial⟩
                case measure => simp [intOf]
              · have e4 : ((j : Int) == 9) = false := by rw [beq_eq_false_iff_ne]; omega
                clear hY hc hst hle2 hv j9 hj1
                go_wp2_with fail
                go_roundw
                case rel => exact ⟨j, by omega, by rw [HSt.out]; congr 1; omega, rfl, trivial⟩
                case measure => simp [intOf]
            | zero =>
              have hm1 : ((0 : Nat) : Int) - 1 = -1 := by omega
              rw [hm1, List.drop_zero]
              have hv := HV.out
              obtain ⟨V, hV⟩ : ∃ V, valG M = V := ⟨_, rfl⟩
              rw [hV] at hv ⊢
              have HVV := Lib.hid hV
              have d0 := HC.out K hKl
              obtain ⟨c, hc⟩ : ∃ c, L.getD K 0 = c := ⟨_, rfl⟩
              rw [hc] at d0
              have HCc := Lib.hid hc
              clear hV hc hm1
              by_cases k4 : 0 < K ∧ c.toNat = 0
              · have HE := Lib.hid (rnumE_err (R := R) (w := wr) (read_zero (L := L) (most := most) H10.out HNl.out H9.out (by rw [HK.out, HCc.out]; exact k4)))
                obtain ⟨k4, k5⟩ := k4
                have e6 : decide ((0 : Int) < (K : Int)) = true := by simp; omega
                have e6n : decide (0 < K) = true := by simpa using k4
                have e7 : ((c.toNat : Int) == 0) = true := by rw [beq_iff_eq]; omega
                clear k4 k5
                go_wp2_with fail
                go_ret2
                exact HE.out
              · have hL5 := HL4.out (by rw [HCc.out]; exact k4)
                rw [HVV.out] at hL5
                have HL5 := Lib.hid hL5
                clear hL5
                have hbs1 : cap ≠ K + 1 → Bs wr (.slice (some ⟨b, o + (K + 1), none⟩) (L.length - (K + 1)) (cap - (K + 1))) (L.drop (K + 1)) := fun h => by
                  refine Bs.drop (a := ⟨b, o, none⟩) (cap := cap) (.inr ⟨⟨b, o, none⟩, cap, rfl, hcap, fun _ => ⟨b, o, rfl, hb, HC.out⟩⟩) (by omega) ?_
                  rw [if_neg h]; unfold Addr.add; simp
                have hbs2 : cap = K + 1 → Bs wr (.slice (some ⟨b, o, none⟩) (L.length - (K + 1)) 0) (L.drop (K + 1)) := fun h => by
                  have h2 := Bs.drop (a := ⟨b, o, none⟩) (cap := cap) (K := K + 1) (.inr ⟨⟨b, o, none⟩, cap, rfl, hcap, fun _ => ⟨b, o, rfl, hb, HC.out⟩⟩) (by omega) rfl
                  rw [if_pos h, h, Nat.sub_self] at h2
                  exact h2
                have hDl : (L.drop (K + 1)).length ≤ 140737488355328 := by rw [List.length_drop]; omega
                obtain ⟨D, hD⟩ : ∃ D, L.drop (K + 1) = D := ⟨_, rfl⟩
                rw [hD] at hbs1 hbs2 hDl
                have HBs1 := Lib.hid hbs1
                have HBs2 := Lib.hid hbs2
                have HD := Lib.hid hD
                clear hbs1 hbs2 hD
                obtain ⟨bb, hbb⟩ : ∃ bb : Bool, decide (0 < K) = bb := ⟨_, rfl⟩
                have hkc : bb = true → ((c.toNat : Int) == 0) = false := by
                  intro h
                  rw [h] at hbb
                  rw [beq_eq_false_iff_ne]
                  intro h2
                  exact k4 ⟨of_decide_eq_true hbb, by omega⟩
                have HKc := Lib.hid hkc
                have HBb := Lib.hid hbb
                clear k4 hkc hbb
                cases bb with
                | true =>
                  have e6 : decide ((0 : Int) < (K : Int)) = true := by have := of_decide_eq_true HBb.out; simp; omega
                  have e6n : decide (0 < K) = true := HBb.out
                  have e7 := HKc.out rfl
                  by_cases hmo : most < V
                  · have e8 : decide ((most : Int) < (V : Int)) = true := by simp; omega
                    have e8n : decide (most < V) = true := by simpa using hmo
                    have HE := Lib.hid (rnumE_err (R := R) (w := wr) (HL5.out.trans (if_pos hmo)))
                    clear hmo
                    go_wp2_with fail
                    go_ret2
                    exact HE.out
                  · have e8 : decide ((most : Int) < (V : Int)) = false := by simp; omega
                    have e8n : decide (most < V) = false := by simpa using hmo
                    have HE := Lib.hid (HL5.out.trans (if_neg hmo))
                    have i1 : (K : Int) + 1 ≤ (L.length : Int) := by omega
                    have i2 : (L.length : Int) ≤ (cap : Int) := by omega
                    clear hmo
                    go_wp2_with fail
                    all_goals
                      refine (rown_any _ D _ (by first | exact HBs1.out (by assumption) | exact HBs2.out (by assumption)) hDl).mono ?_
                      rintro e w2 ⟨v2, rfl, hO2, b2⟩
                      obtain ⟨p2, cap2, rfl⟩ := hO2.form
                      have HR2 := Lib.hid (HR.out.later b2)
                      have HO2 := Lib.hid hO2
                      have HB2 := Lib.hid b2
                      have q1 := HR2.out.free 0
                      have q0 := HR2.out.cell 0 rfl
                      clear hO2 b2
                      go_wp2_with fail
                      go_ret2
                      exact rnumE_ok HE.out (HR2.out.set _) (by rw [HD.out]; exact HO2.out.setOther HR2.out (by decide) _) (grown_set (grown_below HB2.out _) _)
                | false =>
                  have e6 : decide ((0 : Int) < (K : Int)) = false := by have := of_decide_eq_false HBb.out; simp; omega
                  have e6n : decide (0 < K) = false := HBb.out
                  by_cases hmo : most < V
                  · have e8 : decide ((most : Int) < (V : Int)) = true := by simp; omega
                    have e8n : decide (most < V) = true := by simpa using hmo
                    have HE := Lib.hid (rnumE_err (R := R) (w := wr) (HL5.out.trans (if_pos hmo)))
                    clear hmo
                    go_wp2_with fail
                    go_ret2
                    exact HE.out
                  · have e8 : decide ((most : Int) < (V : Int)) = false := by simp; omega
                    have e8n : decide (most < V) = false := by simpa using hmo
                    have HE := Lib.hid (HL5.out.trans (if_neg hmo))
                    have i1 : (K : Int) + 1 ≤ (L.length : Int) := by omega
                    have i2 : (L.length : Int) ≤ (cap : Int) := by omega
                    clear hmo
                    go_wp2_with fail
                    all_goals
                      refine (rown_any _ D _ (by first | exact HBs1.out (by assumption) | exact HBs2.out (by assumption)) hDl).mono ?_
                      rintro e w2 ⟨v2, rfl, hO2, b2⟩
                      obtain ⟨p2, cap2, rfl⟩ := hO2.form
                      have HR2 := Lib.hid (HR.out.later b2)
                      have HO2 := Lib.hid hO2
                      have HB2 := Lib.hid b2
                      have q1 := HR2.out.free 0
                      have q0 := HR2.out.cell 0 rfl
                      clear hO2 b2
                      go_wp2_with fail
                      go_ret2
                      exact rnumE_ok HE.out (HR2.out.set _) (by rw [HD.out]; exact HO2.out.setOther HR2.out (by decide) _) (grown_set (grown_below HB2.out _) _)
end Go.Proofs.YtelocbohiddpgaaGreatDoor
set_option linter.unusedSimpArgs false
set_option linter.unusedVariables false
namespace Go.Proofs.YtelocbohiddpgaaGreatDoor
open Go.RowKit Gm
attribute [local go_sem ↓] Go.wp_at_zero Go.wp_at_succ

theorem rrnum_any (R : Nat) (v : Value) (L : List UInt8) (most : Nat) (hm : most < 18446744073709551616) (w : World) (hR : Blk w R 79 #[v]) (hB : Bs w v L) (hl : L.length ≤ 140737488355328) : Calls Tryz.prog 33 #[.pointer (some ⟨R, 0, none⟩), .int .u64 most] w (RNumE R L most w) := by
  by_cases h : L = []
  · subst h; exact rrnum_nil R v most w hR hB
  · rcases hB with ⟨_, h2⟩ | ⟨a, cap, rfl, h2, h3⟩
    · exact absurd h2 h
    · obtain ⟨b, o, rfl, hb, hc⟩ := h3 h
      exact rrnum_cons R b o cap L most hm w hR h2 hb hc hl

/-- What the document's Int leaves. -/
def RIntE (R : Nat) (L : List UInt8) (w : World) (e : Ending) (w' : World) : Prop :=
  match readN L 18446744073709551615 with
  | .ok n k => ∃ v', e = .returned (.tuple #[.int .i64 (unfoldI n), .int .i64 0]) ∧ Blk w' R 79 #[v'] ∧ OwnB w' w.heap.size v' (L.drop k) ∧ w.grownBy w' (some R)
  | .err c => e = .returned (.tuple #[.int .i64 0, .int .i64 c]) ∧ w' = w
/-- What the document's Bytes leaves. -/
def RBytesE (R : Nat) (v : Value) (L : List UInt8) (most : Int) (w : World) (e : Ending) (w' : World) : Prop :=
  match readB L most with
  | .ok s k => ∃ u v', e = .returned (.tuple #[u, .int .i64 0]) ∧ OwnB w' w.heap.size u s ∧ Blk w' R 79 #[v'] ∧ OwnB w' w.heap.size v' (L.drop k) ∧ w.grownBy w' (some R)
  | .err c => e = .returned (.tuple #[.slice none 0 0, .int .i64 c]) ∧ Blk w' R 79 #[v] ∧ w.grownBy w' (some R)
theorem rbytesE_err {R c : Nat} {v : Value} {L : List UInt8} {most : Int} {w w' : World} (h : readB L most = .err c) (h1 : Blk w' R 79 #[v]) (h2 : w.grownBy w' (some R)) : RBytesE R v L most w (.returned (.tuple #[.slice none 0 0, .int .i64 c])) w' := by
  unfold RBytesE; rw [h]; exact ⟨rfl, h1, h2⟩

end Go.Proofs.YtelocbohiddpgaaGreatDoor
