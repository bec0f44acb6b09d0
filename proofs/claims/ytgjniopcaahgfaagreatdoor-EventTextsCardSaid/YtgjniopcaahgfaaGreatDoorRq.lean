/- The contracts of the document's quoted and word: where the value's text that begins a text ends. -/
import Derived.Test.YtgjniopcaahgfaaGreatDoorMt
import Derived.Test.YtgjniopcaahgfaaGreatDoorMb
set_option linter.unusedSimpArgs false
set_option linter.unusedVariables false
namespace Go.Proofs.YtgjniopcaahgfaaGreatDoor
open Go.RowKit
attribute [local go_sem ↓] Go.wp_at_zero Go.wp_at_succ

theorem ret_i64 {a b : Int} (h : a = b) : Ending.returned (.int .i64 a) = Ending.returned (.int .i64 b) := by rw [h]
theorem byte_getD (s : ByteArray) (k : Nat) (h : k < s.size) : s.data.toList.getD k 0 = s[k] := by
  have hk : k < s.data.toList.length := by simpa using h
  rw [List.getD_eq_getElem?_getD, List.getElem?_eq_getElem hk]
  rfl
theorem byte_eq {c d : UInt8} : c.toNat = d.toNat ↔ c = d := ⟨fun h => UInt8.toNat_inj.1 h, fun h => by rw [h]⟩
theorem scan_34 {L r : List UInt8} {j : Nat} {o : Option Nat} (h : o = (scanQ (L.drop j)).map (· + (j - 1))) (hd : L.drop j = 34 :: r) : o = some (j - 1) := by
  rw [h, hd, scanQ_mark]; simp
theorem scan_92 {L r : List UInt8} {j : Nat} {o : Option Nat} (h1 : 1 ≤ j) (h : o = (scanQ (L.drop j)).map (· + (j - 1))) (hd : L.drop j = 92 :: r) (hr : r = L.drop (j + 1)) : o = (scanQ (L.drop (j + 2))).map (· + (j + 2 - 1)) := by
  have e2 : L.drop (j + 2) = r.drop 1 := by rw [hr, List.drop_drop]
  rw [h, hd, e2]
  cases r with
  | nil => rw [scanQ_esc0]; simp [scanQ_nil]
  | cons d r' =>
    rw [scanQ_esc, Option.map_map]
    simp only [List.drop_succ_cons, List.drop_zero]
    congr 1
    funext k
    simp only [Function.comp]
    omega
theorem scan_go {L r : List UInt8} {c : UInt8} {j : Nat} {o : Option Nat} (h1 : 1 ≤ j) (h : o = (scanQ (L.drop j)).map (· + (j - 1))) (hd : L.drop j = c :: r) (hr : r = L.drop (j + 1)) (n1 : c ≠ 34) (n2 : c ≠ 92) : o = (scanQ (L.drop (j + 1))).map (· + (j + 1 - 1)) := by
  rw [h, hd, scanQ_go c r n1 n2, Option.map_map, hr]
  congr 1
  funext k
  simp only [Function.comp]
  omega
theorem quoted_some {L : List UInt8} {k : Nat} (h : scanQ (L.drop 1) = some k) : quotedN L = k + 2 := by unfold quotedN; rw [h]
theorem quoted_none {L : List UInt8} (h : scanQ (L.drop 1) = none) : quotedN L = 0 := by unfold quotedN; rw [h]

set_option maxHeartbeats 2000000 in
set_option maxRecDepth 20000 in
theorem quoted_any (s : ByteArray) (hs : s.size ≤ 140737488351232) (w : World) : Calls Tryz.prog 34 #[.string s] w fun e w' => e = .returned (.int .i64 (quotedN s.data.toList : Nat)) ∧ w' = w := by
  go_enter Tryz.func34, Tryz.ntmps34
  go_wp2_with fail
  go_loopw [3] (fun i wr => ∃ j : Nat, 1 ≤ j ∧ j ≤ s.size + 1 ∧ i = .int .i64 j ∧ scanQ (s.data.toList.drop 1) = (scanQ (s.data.toList.drop j)).map (· + (j - 1)) ∧ wr = w) (fun i _ => s.size + 1 - (intOf i).toNat)
  case atStart => exact ⟨1, Nat.le_refl _, by omega, rfl, by simp, rfl⟩
  case round =>
    obtain ⟨j, h1, hj, rfl, hsc, rfl⟩ := hrel
    have HSc := Lib.hid hsc
    clear hsc
    by_cases hjl : j < s.size
    · have HAt := Lib.hid (list_at s j hjl)
      by_cases c34 : s[j].toNat = 34
      · have e1 : ((s[j].toNat : Int) == 34) = true := by rw [beq_iff_eq]; omega
        have e2 : ((s[j].toNat : Int) != 34) = false := by simp; omega
        have HB : Hid (s[j] = 34) := Lib.hid (byte_eq.1 c34)
        clear c34
        go_wp2_with fail
        go_ret
        refine ⟨ret_i64 ?_, rfl⟩
        have h := HAt.out
        rw [HB.out] at h
        rw [quoted_some (scan_34 HSc.out h)]
        omega
      · have e1 : ((s[j].toNat : Int) == 34) = false := by rw [beq_eq_false_iff_ne]; omega
        have e2 : ((s[j].toNat : Int) != 34) = true := by simp; omega
        have HB : Hid (s[j] ≠ 34) := Lib.hid (fun h => c34 (by rw [h]; rfl))
        clear c34
        by_cases c92 : s[j].toNat = 92
        · have e3 : ((s[j].toNat : Int) == 92) = true := by rw [beq_iff_eq]; omega
          have HC : Hid (s[j] = 92) := Lib.hid (byte_eq.1 c92)
          clear c92
          go_wp2_with fail
          go_roundw
          case rel =>
            have h := HAt.out
            rw [HC.out] at h
            exact ⟨j + 2, by omega, by omega, by simp; omega, scan_92 h1 HSc.out h rfl, trivial⟩
          case measure => simp [intOf]; omega
        · have e3 : ((s[j].toNat : Int) == 92) = false := by rw [beq_eq_false_iff_ne]; omega
          have HC : Hid (s[j] ≠ 92) := Lib.hid (fun h => c92 (by rw [h]; rfl))
          clear c92
          go_wp2_with fail
          go_roundw
          case rel => exact ⟨j + 1, by omega, by omega, by simp, scan_go h1 HSc.out HAt.out rfl HB.out HC.out, trivial⟩
          case measure => simp [intOf]; omega
    · have HN : Hid (quotedN s.data.toList = 0) := Lib.hid (quoted_none (by
        rw [HSc.out, List.drop_eq_nil_of_le (by simp; omega), scanQ_nil]; rfl))
      go_wp2_with fail
      go_ret
      exact ⟨ret_i64 (by rw [HN.out]; rfl), rfl⟩

set_option maxHeartbeats 2000000 in
set_option maxRecDepth 20000 in
theorem word_end (s : ByteArray) (hs : s.size ≤ 140737488351232) (w : World) : Calls Tryz.prog 16 #[.string s] w fun e w' => e = .returned (.int .i64 (wordN s.data.toList : Nat)) ∧ w' = w := by
  by_cases hq : ∃ h0 : 0 < s.size, s[0].toNat = 34
  · obtain ⟨h0, hq⟩ := hq
    have e1 : ((s[0].toNat : Int) == 34) = true := by rw [beq_iff_eq]; omega
    have hI : (0 : Int) < (s.size : Int) := by omega
    have HW : Hid (wordN s.data.toList = quotedN s.data.toList) := Lib.hid (by
      unfold wordN
      have h := list_at s 0 h0
      rw [List.drop_zero] at h
      rw [if_pos (by rw [h]; simp; exact byte_eq.1 hq)])
    have HQ := Lib.hid (quoted_any s hs w)
    clear hq
    go_enter Tryz.func16, Tryz.ntmps16
    go_wp2_with fail
    refine HQ.out.mono ?_; rintro e w1 ⟨rfl, rfl⟩
    go_wp2_with fail
    go_ret
    exact ⟨ret_i64 (by rw [HW.out]), rfl⟩
  · have HW : Hid (wordN s.data.toList = upTo 32 s.data.toList) := Lib.hid (by
      unfold wordN
      rw [if_neg]
      intro h
      by_cases h0 : 0 < s.size
      · have h2 := list_at s 0 h0
        rw [List.drop_zero] at h2
        rw [h2] at h
        simp only [List.head?_cons, Option.some.injEq] at h
        exact hq ⟨h0, by rw [h]; rfl⟩
      · have : s.data.toList = [] := List.eq_nil_of_length_eq_zero (by have := Lib.size_eq s; omega)
        rw [this] at h; simp at h)
    have key : ∀ (b : Bool), Hid (decide (0 < s.size) = b) → Hid (∀ h0 : 0 < s.size, ((s[0].toNat : Int) == 34) = false) → Calls Tryz.prog 16 #[.string s] w fun e w' => e = .returned (.int .i64 (wordN s.data.toList : Nat)) ∧ w' = w := by
      intro b HB HF
      cases b with
      | true =>
        have h0 : 0 < s.size := of_decide_eq_true HB.out
        have hI : (0 : Int) < (s.size : Int) := by omega
        have e1 := HF.out h0
        go_enter Tryz.func16, Tryz.ntmps16
        go_wp2_with fail
        go_loopw [3] (fun i wr => ∃ j : Nat, j ≤ s.size ∧ i = .int .i64 j ∧ (∀ i, i < j → s.data.toList.getD i 0 ≠ 32) ∧ wr = w) (fun i _ => s.size - (intOf i).toNat)
        case atStart => exact ⟨0, Nat.zero_le _, rfl, fun i hi => by omega, rfl⟩
        case round =>
          obtain ⟨j, hj, rfl, hall, rfl⟩ := hrel
          have HA := Lib.hid hall
          clear hall
          by_cases hjl : j < s.size
          · have HG := Lib.hid (byte_getD s j hjl)
            by_cases c32 : s[j].toNat = 32
            · have e2 : ((s[j].toNat : Int) == 32) = true := by rw [beq_iff_eq]; omega
              have e3 : ((s[j].toNat : Int) != 32) = false := by simp; omega
              have HB2 : Hid (s[j] = 32) := Lib.hid (byte_eq.1 c32)
              clear c32
              go_wp2_with fail
              go_ret
              exact ⟨ret_i64 (by rw [HW.out, upTo_at (j := j) (by simp; omega) HA.out (fun _ => HG.out.trans HB2.out)]), rfl⟩
            · have e2 : ((s[j].toNat : Int) == 32) = false := by rw [beq_eq_false_iff_ne]; omega
              have e3 : ((s[j].toNat : Int) != 32) = true := by simp; omega
              have HB2 : Hid (s[j] ≠ 32) := Lib.hid (fun h => c32 (by rw [h]; rfl))
              clear c32
              go_wp2_with fail
              go_roundw
              case rel =>
                refine ⟨j + 1, by omega, by simp, fun i hi => ?_, trivial⟩
                by_cases hij : i < j
                · exact HA.out i hij
                · have : i = j := by omega
                  subst this; rw [HG.out]; exact HB2.out
              case measure => simp [intOf]; omega
          · go_wp2_with fail
            go_ret
            exact ⟨ret_i64 (by rw [HW.out, upTo_at (j := j) (by simp; omega) HA.out (fun h => by simp at h; omega)]), rfl⟩
      | false =>
        have h0 : s.size = 0 := by have := of_decide_eq_false HB.out; omega
        have hI : ¬ (0 : Int) < (s.size : Int) := by omega
        have HZ : Hid (wordN s.data.toList = 0) := Lib.hid (by
          rw [HW.out]
          have := upTo_le 32 s.data.toList
          simp at this; omega)
        have hz : (s.size : Int) = 0 := by omega
        go_enter Tryz.func16, Tryz.ntmps16
        go_wp2_with fail
        go_loopw [3] (fun i wr => i = .int .i64 0 ∧ wr = w) (fun i _ => 0)
        case atStart => exact ⟨rfl, rfl⟩
        case round =>
          obtain ⟨rfl, rfl⟩ := hrel
          go_wp2_with fail
          go_ret
          exact ⟨ret_i64 (by rw [HZ.out]; rfl), rfl⟩
    refine key _ (Lib.hid rfl) (Lib.hid fun h0 => ?_)
    rw [beq_eq_false_iff_ne]
    intro h
    exact hq ⟨h0, by omega⟩
end Go.Proofs.YtgjniopcaahgfaaGreatDoor
