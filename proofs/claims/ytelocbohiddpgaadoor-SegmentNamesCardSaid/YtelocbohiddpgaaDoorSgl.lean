/- Layer 12: the document's Name and Parse. -/
import Derived.Test.YtelocbohiddpgaaDoorSgk
import Derived.Test.YtelocbohiddpgaaDoorGc
set_option linter.unusedSimpArgs false
set_option linter.unusedVariables false
namespace Go.Proofs.YtelocbohiddpgaaDoor.Crc
open Go Go.RowKit Gm
attribute [local go_sem ↓] Go.wp_at_zero Go.wp_at_succ

theorem name_no {place : Int} {n : Nat} (h : ¬ (0 ≤ place ∧ place ≤ 3 ∧ 1 ≤ n ∧ n ≤ 1099511627776)) : nameS place n = ⟨#[]⟩ ∧ nameE place n = 1 := by
  have e : nameOkN place n = false := by
    unfold nameOkN
    rw [Bool.eq_false_iff]
    intro h2
    simp only [Bool.and_eq_true, decide_eq_true_eq, okN_iff] at h2
    exact h ⟨h2.1.1, h2.1.2, h2.2.1, h2.2.2⟩
  unfold nameS nameE
  rw [e]
  exact ⟨rfl, rfl⟩
set_option maxHeartbeats 8000000 in
set_option maxRecDepth 100000 in
theorem rname_any (place : Int) (hp1 : -9223372036854775808 ≤ place) (hp2 : place ≤ 9223372036854775807) (n : Nat) (hn : n < 18446744073709551616) (w : World) : Calls Tryd.prog 9 #[.int .i64 place, .int .u64 (n : Int)] w (Gives (.tuple #[.string (nameS place n), .int .i64 (nameE place n)]) w) := by
  by_cases c1 : place < 0
  · obtain ⟨e1, e2⟩ := name_no (place := place) (n := n) (by omega)
    rw [e1, e2]
    clear e1 e2
    go_enter Tryd.func9, Tryd.ntmps9
    go_wp2_with fail
    go_ret2
    exact ⟨rfl, Below.refl _ _⟩
  by_cases c2 : 3 < place
  · obtain ⟨e1, e2⟩ := name_no (place := place) (n := n) (by omega)
    rw [e1, e2]
    clear e1 e2
    go_enter Tryd.func9, Tryd.ntmps9
    go_wp2_with fail
    go_ret2
    exact ⟨rfl, Below.refl _ _⟩
  by_cases c3 : n = 0
  · obtain ⟨e1, e2⟩ := name_no (place := place) (n := n) (by omega)
    rw [e1, e2]
    clear e1 e2
    subst c3
    go_enter Tryd.func9, Tryd.ntmps9
    go_wp2_with fail
    go_ret2
    exact ⟨rfl, Below.refl _ _⟩
  have c3' : ¬ ((n : Int) = 0) := by omega
  have c3'' : ((n : Int) == 0) = false := by rw [beq_eq_false_iff_ne]; omega
  by_cases c4 : 1099511627776 < n
  · obtain ⟨e1, e2⟩ := name_no (place := place) (n := n) (by omega)
    have c4' : (1099511627776 : Int) < n := by omega
    rw [e1, e2]
    clear e1 e2
    go_enter Tryd.func9, Tryd.ntmps9
    go_wp2_with fail
    go_ret2
    exact ⟨rfl, Below.refl _ _⟩
  have c4' : ¬ ((1099511627776 : Int) < n) := by omega
  obtain ⟨p, rfl⟩ : ∃ p : Nat, place = p := ⟨place.toNat, by omega⟩
  have hp3 : p ≤ 3 := by omega
  have hok : nameOkN (p : Int) n = true := by
    unfold nameOkN okN
    rw [decide_eq_true (show (0 : Int) ≤ p by omega), decide_eq_true (show (p : Int) ≤ 3 by omega), decide_eq_true (show 1 ≤ n by omega), decide_eq_true (show n ≤ 1099511627776 by omega)]
    rfl
  have hS : nameS (p : Int) n = ⟨(nameL p n).toArray⟩ := by unfold nameS; rw [hok, if_pos rfl, Int.toNat_natCast]
  have hE : nameE (p : Int) n = 0 := by unfold nameE; rw [hok, if_pos rfl]
  rw [hS, hE]
  have HNm := Lib.hid (pref_name p n hp3)
  clear hS hE hok
  have k2 : ¬ ((p : Int) < 0) := by omega
  have k3 : ¬ ((3 : Int) < p) := by omega
  have hn40 : n ≤ 1099511627776 := by omega
  clear c1 c2
  go_enter Tryd.func9, Tryd.ntmps9
  go_wp2_with fail
  go_loopw [1, 6, 7] (fun fv sv iv wr => ∃ (k q : Nat) (s : ByteArray), k ≤ 13 ∧ q ≤ n ∧ s.size ≤ 100 ∧ fv = .int .u64 (q : Nat) ∧ iv = .int .i64 (k : Nat) ∧ sv = .string s ∧ Hid (q = n / 10 ^ k ∧ s = ⟨(low10 k n).toArray⟩) ∧ Hid (Below w.heap.size w wr)) (fun _ _ iv _ => 13 - (intOf iv).toNat)
  case atStart => exact ⟨0, n, ⟨#[]⟩, by omega, Nat.le_refl _, by decide, rfl, rfl, rfl, Lib.hid ⟨by simp, rfl⟩, Lib.hid (Below.refl _ _)⟩
  case round =>
    obtain ⟨k, q, s, hk, hq, hs, rfl, rfl, rfl, HQ, HB⟩ := hrel
    by_cases hk13 : k < 13
    · obtain ⟨c, hc⟩ : ∃ c, UInt8.ofNat (48 + q % 10) = c := ⟨_, rfl⟩
      have e1 : 48 + (q : Int) % 10 = (c.toNat : Int) := by rw [← hc, UInt8.toNat_ofNat']; omega
      have hcv := conv_bs (bs_lit wr [c] #[byteV c] 1 rfl rfl (by simp)) 9 Tryd.underlying9
      have HBn := Lib.hid (then_ HB.out (below_one wr (.cells #[byteV c] 5)))
      have HQn : Hid (q / 10 = n / 10 ^ (k + 1) ∧ (⟨#[c]⟩ : ByteArray) ++ s = ⟨(low10 (k + 1) n).toArray⟩) := Lib.hid ⟨by rw [HQ.out.1, Nat.div_div_eq_div_mul, Nat.pow_succ], by rw [HQ.out.2, low10_front, ← HQ.out.1, hc]; exact str_app12 [c] _⟩
      have hsn : ((⟨#[c]⟩ : ByteArray) ++ s).size ≤ 100 := by rw [HQn.out.2, size_list, low10_length]; omega
      have y2 : (s.size : Int) ≤ 8388608 := by omega
      have a1 := fun X : World => run_string_add (P := Tryd.prog) X ⟨#[c]⟩ s (show ((⟨#[c]⟩ : ByteArray).size : Int) ≤ 8388608 by simp [ByteArray.size]) y2
      have hdiv : q / 10 ≤ n := by omega
      obtain ⟨s', hs'⟩ : ∃ s', (⟨#[c]⟩ : ByteArray) ++ s = s' := ⟨_, rfl⟩
      rw [hs'] at HQn hsn a1
      clear hc hs' y2
      go_wp2_with fail
      go_roundw
      case rel => exact ⟨k + 1, q / 10, s', by omega, hdiv, hsn, by go_num, by go_num, rfl, HQn, HBn⟩
      case measure => simp [intOf]; omega
    · obtain rfl : k = 13 := by omega
      obtain ⟨c, hc⟩ : ∃ c, UInt8.ofNat (48 + p) = c := ⟨_, rfl⟩
      have e1 : 48 + (p : Int) = (c.toNat : Int) := by rw [← hc, UInt8.toNat_ofNat']; omega
      have hcv := conv_bs (bs_lit wr [c] #[byteV c] 1 rfl rfl (by simp)) 9 Tryd.underlying9
      have HBn := Lib.hid (then_ HB.out (below_one wr (.cells #[byteV c] 5)))
      have hfin : (⟨#[115]⟩ : ByteArray) ++ ⟨#[c]⟩ ++ ⟨#[45]⟩ ++ s = ⟨(nameL p n).toArray⟩ := by
        rw [HQ.out.2]
        have := str_app12 ([115] ++ [c] ++ [45]) (low10 13 n)
        rw [← str_app12, ← str_app12] at this
        rw [this, ← hc]
        rfl
      have HFin := Lib.hid hfin
      have z1 : ((⟨#[115]⟩ : ByteArray) ++ ⟨#[c]⟩).size ≤ 10 := by rw [ByteArray.size_append]; simp [ByteArray.size]
      have z2 : ((⟨#[115]⟩ : ByteArray) ++ ⟨#[c]⟩ ++ ⟨#[45]⟩).size ≤ 20 := by rw [ByteArray.size_append]; simp [ByteArray.size] at z1 ⊢
      have a1 := fun X : World => run_string_add (P := Tryd.prog) X ⟨#[115]⟩ ⟨#[c]⟩ (by decide) (show ((⟨#[c]⟩ : ByteArray).size : Int) ≤ 8388608 by simp [ByteArray.size])
      have a2 := fun X : World => run_string_add (P := Tryd.prog) X ((⟨#[115]⟩ : ByteArray) ++ ⟨#[c]⟩) ⟨#[45]⟩ (by omega) (by decide)
      have a3 := fun X : World => run_string_add (P := Tryd.prog) X ((⟨#[115]⟩ : ByteArray) ++ ⟨#[c]⟩ ++ ⟨#[45]⟩) s (by omega) (by omega)
      obtain ⟨s1, hs1⟩ : ∃ s1, (⟨#[115]⟩ : ByteArray) ++ ⟨#[c]⟩ = s1 := ⟨_, rfl⟩
      rw [hs1] at HFin a1 a2 a3
      obtain ⟨s2, hs2⟩ : ∃ s2, s1 ++ ⟨#[45]⟩ = s2 := ⟨_, rfl⟩
      rw [hs2] at HFin a2 a3
      obtain ⟨s3, hs3⟩ : ∃ s3, s2 ++ s = s3 := ⟨_, rfl⟩
      rw [hs3] at HFin a3
      clear hfin hs1 hs2 hs3 hc z1 z2
      go_wp2_with fail
      go_ret2
      exact ⟨by rw [← HFin.out]; rfl, HBn.out⟩
theorem idx_str (L : List UInt8) (k : Nat) (h : k < L.length) (z : Int) (hz : z = (k : Int)) (W : World) : (Instr.index 9 (.string ⟨L.toArray⟩) (.int .i64 z)).run Tryd.prog W = .ok (.int .u8 ((L.getD k 0).toNat : Int)) W := by
  subst hz
  have e : (⟨L.toArray⟩ : ByteArray)[k]'(by rw [size_list]; exact h) = L.getD k 0 := by
    rw [List.getD_eq_getElem?_getD, List.getElem?_eq_getElem h]
    rfl
  rw [run_index_string W 9 ⟨L.toArray⟩ .i64 (k : Int) Tryd.underlying9]
  have h2 : (k : Int) < ((⟨L.toArray⟩ : ByteArray).size : Int) := by rw [size_list]; omega
  simp [h2, h, List.getElem?_eq_getElem h]
  rfl
theorem par_no {L : List UInt8} (h : nameOk L = false) : parseL L = none := by rw [parseL_is, h]; rfl
set_option maxHeartbeats 8000000 in
set_option maxRecDepth 100000 in
theorem rparse_any (L : List UInt8) (hL : L.length ≤ 281474976710656) (w : World) : Calls Tryd.prog 11 #[.string ⟨L.toArray⟩] w (Gives (.tuple #[.int .i64 (parP (parseL L) : Nat), .int .u64 (parN (parseL L) : Nat), .int .i64 (parE (parseL L))]) w) := by
  have hz := size_list L
  by_cases h16 : L.length = 16
  · have j0 := idx_str L 0 (by omega) 0 rfl
    have j1 := idx_str L 1 (by omega) 1 rfl
    have j2 := idx_str L 2 (by omega) 2 rfl
    have hi := fun (k : Nat) (hk : k < 16) => idx_str L k (by omega) (k : Int) rfl
    have hok : nameOk L = (decide ((L.getD 0 0).toNat = 115) && decide (48 ≤ (L.getD 1 0).toNat) && decide ((L.getD 1 0).toNat ≤ 51) && decide ((L.getD 2 0).toNat = 45)) := by unfold nameOk; rw [decide_eq_true h16, Bool.true_and]
    obtain ⟨a, ha⟩ : ∃ a, (L.getD 0 0).toNat = a := ⟨_, rfl⟩
    obtain ⟨b, hb⟩ : ∃ a, (L.getD 1 0).toNat = a := ⟨_, rfl⟩
    obtain ⟨c, hc⟩ : ∃ a, (L.getD 2 0).toNat = a := ⟨_, rfl⟩
    rw [ha, hb, hc] at hok
    rw [ha] at j0
    rw [hb] at j1
    rw [hc] at j2
    rw [h16] at hz
    have hb256 : b < 256 := by rw [← hb]; exact (L.getD 1 0).toNat_lt
    have HBb := Lib.hid hb
    clear ha hb hc
    by_cases ca : ¬ a = 115
    · have q1 : ¬ ((a : Int) = 115) := by omega
      have q2 : ((a : Int) == 115) = false := by rw [beq_eq_false_iff_ne]; omega
      have hno : parseL L = none := par_no (by rw [hok]; simp [ca])
      rw [hno]
      clear hno hok hi
      generalize (⟨L.toArray⟩ : ByteArray) = s at *
      generalize L.length = n at *
      go_enter Tryd.func11, Tryd.ntmps11
      go_wp2_with fail
      go_ret3
      exact ⟨rfl, Below.refl _ _⟩
    have ca : a = 115 := by omega
    by_cases cb : b < 48
    · have q1 : (b : Int) < 48 := by omega
      subst ca
      have hno : parseL L = none := par_no (by rw [hok]; simp; omega)
      rw [hno]
      clear hno hok hi
      generalize (⟨L.toArray⟩ : ByteArray) = s at *
      generalize L.length = n at *
      go_enter Tryd.func11, Tryd.ntmps11
      go_wp2_with fail
      go_ret3
      exact ⟨rfl, Below.refl _ _⟩
    by_cases cb2 : 51 < b
    · have q1 : ¬ (b : Int) < 48 := by omega
      have q2 : (51 : Int) < b := by omega
      subst ca
      have hno : parseL L = none := par_no (by rw [hok]; simp; omega)
      rw [hno]
      clear hno hok hi
      generalize (⟨L.toArray⟩ : ByteArray) = s at *
      generalize L.length = n at *
      go_enter Tryd.func11, Tryd.ntmps11
      go_wp2_with fail
      go_ret3
      exact ⟨rfl, Below.refl _ _⟩
    by_cases cc : ¬ c = 45
    · have q1 : ¬ (b : Int) < 48 := by omega
      have q2 : ¬ (51 : Int) < b := by omega
      have q3 : ¬ ((c : Int) = 45) := by omega
      have q4 : ((c : Int) == 45) = false := by rw [beq_eq_false_iff_ne]; omega
      subst ca
      have hno : parseL L = none := par_no (by rw [hok]; simp [cc])
      rw [hno]
      clear hno hok hi
      generalize (⟨L.toArray⟩ : ByteArray) = s at *
      generalize L.length = n at *
      go_enter Tryd.func11, Tryd.ntmps11
      go_wp2_with fail
      go_ret3
      exact ⟨rfl, Below.refl _ _⟩
    have cc : c = 45 := by omega
    have hpar : parseL L = match numD 0 (L.drop 3) with
        | some n => if okN n then some (b - 48, n) else none
        | none => none := by
      rw [parseL_is, hok, HBb.out, decide_eq_true ca, decide_eq_true (show 48 ≤ b by omega), decide_eq_true (show b ≤ 51 by omega), decide_eq_true cc]
      rfl
    have q1 : ¬ (b : Int) < 48 := by omega
    have q2 : ¬ (51 : Int) < b := by omega
    have HPar := Lib.hid hpar
    have HI := Lib.hid hi
    have HL16 := Lib.hid h16
    have qb : IntKind.u8.wrap ((b : Int) - 48) = ((b - 48 : Nat) : Int) := by rw [IntKind.wrap_u8']; omega
    have qb2 : (b : Int) - 48 = ((b - 48 : Nat) : Int) := by omega
    subst ca cc
    clear hpar hi h16 hok
    go_enter Tryd.func11, Tryd.ntmps11
    go_wp2_with fail
    go_loopw [5, 6] (fun nv iv wr => ∃ (k acc : Nat) (A : Int), k ≤ 16 ∧ 3 ≤ k ∧ nv = .int .u64 A ∧ iv = .int .i64 (k : Nat) ∧ wr = w ∧ Hid (acc < 10 ^ (k - 3) ∧ numD 0 (L.drop 3) = numD acc (L.drop k) ∧ A = (acc : Int))) (fun _ iv _ => 16 - (intOf iv).toNat)
    case atStart => exact ⟨3, 0, 0, by omega, by omega, rfl, rfl, rfl, Lib.hid ⟨by decide, rfl, rfl⟩⟩
    case round =>
      obtain ⟨k, acc, A, hk, hk3, rfl, rfl, rfl, HA⟩ := hrel
      by_cases hk16 : k < 16
      · have jk := HI.out k hk16
        have hdrop : L.drop k = L.getD k 0 :: L.drop (k + 1) := by
          have h := HL16.out
          rw [List.drop_eq_getElem_cons (by omega), List.getD_eq_getElem?_getD, List.getElem?_eq_getElem (by omega)]
          rfl
        obtain ⟨x, hx⟩ : ∃ x, L.getD k 0 = x := ⟨_, rfl⟩
        rw [hx] at hdrop jk
        obtain ⟨m, hm⟩ : ∃ m, x.toNat = m := ⟨_, rfl⟩
        rw [hm] at jk
        have HDr := Lib.hid hdrop
        have HM := Lib.hid hm
        clear hdrop hx hm
        by_cases hd : 48 ≤ m ∧ m ≤ 57
        · obtain ⟨hd1, hd2⟩ := hd
          have d1 : ¬ (m : Int) < 48 := by omega
          have d2 : ¬ (57 : Int) < m := by omega
          have hlt : A < 1000000000000 := by
            have h := HA.out.1
            have h2 := Nat.pow_le_pow_right (n := 10) (by decide) (show k - 3 ≤ 12 by omega)
            have h3 := HA.out.2.2
            omega
          have hA0 : 0 ≤ A := by have h3 := HA.out.2.2; omega
          obtain ⟨m2, hm2⟩ : ∃ m2 : Nat, m - 48 = m2 := ⟨_, rfl⟩
          have hm9 : (m2 : Int) ≤ 9 := by omega
          have s1 : IntKind.u8.wrap ((m : Int) - 48) = (m2 : Int) := by rw [IntKind.wrap_u8']; omega
          have s2 : (m : Int) - 48 = (m2 : Int) := by omega
          have HAn : Hid (10 * acc + m2 < 10 ^ (k + 1 - 3) ∧ numD 0 (L.drop 3) = numD (10 * acc + m2) (L.drop (k + 1)) ∧ 10 * A + (m2 : Int) = ((10 * acc + m2 : Nat) : Int)) := Lib.hid ⟨by
            have h := HA.out.1
            rw [show k + 1 - 3 = (k - 3) + 1 by omega, Nat.pow_succ]
            omega, by rw [HA.out.2.1, HDr.out, numD, HM.out, if_pos ⟨hd1, hd2⟩, hm2], by rw [HA.out.2.2]; omega⟩
          obtain ⟨M, hM⟩ : ∃ M : Int, (m2 : Int) = M := ⟨_, rfl⟩
          rw [hM] at s1 s2 hm9 HAn
          have hM0 : 0 ≤ M := by omega
          have s4 : IntKind.u64.wrap (10 * A) = 10 * A := by rw [IntKind.wrap_u64]; omega
          have s6 : IntKind.u64.wrap (10 * A + M) = 10 * A + M := by rw [IntKind.wrap_u64]; omega
          have s7 : 0 ≤ 10 * A + M := by omega
          have s8 : 10 * A + M < 18446744073709551616 := by omega
          have s9 : 10 * A < 18446744073709551616 := by omega
          have s5 : M < 18446744073709551616 := by omega
          clear hm2 hM
          go_wp2_with fail
          go_roundw
          case rel => exact ⟨k + 1, 10 * acc + m2, 10 * A + M, by omega, by omega, rfl, by go_num, (by first | trivial | rfl), HAn⟩
          case measure => simp [intOf]; omega
        · have HNo : Hid (parseL L = none) := Lib.hid (by
            rw [HPar.out, HA.out.2.1, HDr.out, numD, HM.out, if_neg hd])
          by_cases hd1 : m < 48
          · have d1 : (m : Int) < 48 := by omega
            clear hd
            go_wp2_with fail
            go_ret3
            exact ⟨by rw [HNo.out]; rfl, Below.refl _ _⟩
          · have d1 : ¬ (m : Int) < 48 := by omega
            have d2 : (57 : Int) < m := by omega
            clear hd
            go_wp2_with fail
            go_ret3
            exact ⟨by rw [HNo.out]; rfl, Below.refl _ _⟩
      · obtain rfl : k = 16 := by omega
        have hnum : numD 0 (L.drop 3) = some acc := by
          have h := HL16.out
          rw [HA.out.2.1, List.drop_of_length_le (by omega)]
          rfl
        have hA := HA.out.2.2
        have haccl : acc < 10000000000000 := HA.out.1
        subst hA
        have hp2 := HPar.out
        rw [hnum] at hp2
        simp only at hp2
        by_cases c0 : acc = 0
        · have HNo : Hid (parseL L = none) := Lib.hid (by rw [hp2, c0]; rfl)
          subst c0
          clear hp2 hnum
          go_wp2_with fail
          go_ret3
          exact ⟨by rw [HNo.out]; rfl, Below.refl _ _⟩
        · have z1 : ((acc : Int) == 0) = false := by rw [beq_eq_false_iff_ne]; omega
          have z2 : ¬ ((acc : Int) = 0) := by omega
          by_cases c1 : 1099511627776 < acc
          · have z3 : (1099511627776 : Int) < acc := by omega
            have HNo : Hid (parseL L = none) := Lib.hid (by
              rw [hp2, if_neg]
              rw [okN_iff]; omega)
            clear hp2 hnum
            go_wp2_with fail
            go_ret3
            exact ⟨by rw [HNo.out]; rfl, Below.refl _ _⟩
          · have z3 : ¬ ((1099511627776 : Int) < acc) := by omega
            have HYes : Hid (parseL L = some (b - 48, acc)) := Lib.hid (by
              rw [hp2, if_pos]
              rw [okN_iff]; omega)
            have hb3 : b - 48 ≤ 3 := by omega
            obtain ⟨b2, hb2⟩ : ∃ b2, b - 48 = b2 := ⟨_, rfl⟩
            rw [hb2] at HYes hb3 qb qb2
            clear hp2 hnum hb2
            go_wp2_with fail
            go_ret3
            exact ⟨by rw [HYes.out]; rfl, Below.refl _ _⟩
  · have hno : parseL L = none := par_no (by unfold nameOk; rw [decide_eq_false h16]; rfl)
    rw [hno]
    have h1 : ((L.length : Int) == 16) = false := by rw [beq_eq_false_iff_ne]; omega
    have h2 : ¬ ((L.length : Int) = 16) := by omega
    generalize (⟨L.toArray⟩ : ByteArray) = s at *
    generalize L.length = n at *
    clear hno
    go_enter Tryd.func11, Tryd.ntmps11
    go_wp2_with fail
    go_ret3
    exact ⟨rfl, Below.refl _ _⟩
end Go.Proofs.YtelocbohiddpgaaDoor.Crc
