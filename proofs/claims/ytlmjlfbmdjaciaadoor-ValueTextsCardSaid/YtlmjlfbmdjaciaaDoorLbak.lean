/- The walk of ValueBack: for any value and any text the statement's function returns true, and writes nothing that was there. -/
import Derived.Test.YtlmjlfbmdjaciaaDoorO
set_option linter.unusedSimpArgs false
set_option linter.unusedVariables false
namespace Go.Proofs.YtlmjlfbmdjaciaaDoor
open Go.RowKit
attribute [local go_sem ↓] Go.wp_at_zero Go.wp_at_succ

theorem run_neq_val (k n : Int) (s : ByteArray) (b : Bool) (k' n' : Int) (s' : ByteArray) (b' : Bool) (w : World) :
    (binOp .neq 23 (val k n s b) (val k' n' s' b')).run Tryd.prog w = .ok (.bool (!eqlVal k n s b k' n' s' b')) w := by
  rw [run_neq_struct, run_equalIn_agg _ _ _ _ _ (by kernel_rfl) (by kernel_rfl), fields23]
  simp [go_sem, Op.eqFields, Tryd.underlying3, Tryd.underlying2, Tryd.underlying9, Tryd.underlying4, eqlVal]
  by_cases h1 : k = k' <;> by_cases h2 : n = n' <;> by_cases h3 : s.toList = s'.toList <;> by_cases h4 : b = b' <;> simp [h1, h2, h3, h4]
theorem run_guard_neq (k n : Int) (s : ByteArray) (b : Bool) (k' n' : Int) (s' : ByteArray) (b' : Bool) (x y : Operand) (w : World) :
    (eqGuard .neq 23 x y (val k n s b) (val k' n' s' b')).run Tryd.prog w = .ok () w := run_eqGuard_agg _ _ _ _ _ _ _ (by kernel_rfl)
attribute [local go_sem ↓] run_eql_val run_guard_val run_neq_val run_guard_neq

theorem nDigits_le : ∀ (k u : Nat), u < 10 ^ (k + 1) → Lib.nDigits u ≤ k + 1
  | 0, u, h => by rw [Lib.nDigits_small (by simpa using h)]; omega
  | k + 1, u, h => by
    by_cases h10 : u < 10
    · rw [Lib.nDigits_small h10]; omega
    · rw [Lib.nDigits_big h10]
      have := nDigits_le k (u / 10) (by rw [Nat.pow_succ] at h; omega)
      omega
theorem txt_length {k n : Int} {s : ByteArray} {b : Bool} (h : mayB k n s b = true) (hf : Fits n) : (txt k n s b).length ≤ 200 := by
  rcases txt_kind h with ⟨_, _, _, h4⟩ | ⟨_, _, _, h4, h5⟩ | ⟨_, _, _, h4⟩
  · rw [h4]
    have p20 : (10 : Nat) ^ (19 + 1) = 100000000000000000000 := by decide
    obtain ⟨f1, f2⟩ := hf
    unfold Lib.itoa
    split
    · rw [List.length_cons, Lib.decDigits_length]
      have := nDigits_le 19 n.natAbs (by rw [p20]; omega)
      omega
    · rw [Lib.decDigits_length]
      have := nDigits_le 19 n.toNat (by rw [p20]; omega)
      omega
  · rw [h4]
    have := escAll_length s.data.toList
    have h6 := Lib.size_eq s
    simp only [List.length_cons, List.length_append, List.length_nil]
    omega
  · rw [h4]; cases b
    · rw [formatBool_false]; decide
    · rw [formatBool_true]; decide
theorem eqlVal_self (k n : Int) (s : ByteArray) (b : Bool) : eqlVal k n s b k n s b = true := by simp [eqlVal]
theorem txtSize {k n : Int} {s : ByteArray} {b : Bool} (h : mayB k n s b = true) (hf : Fits n) : (⟨(txt k n s b).toArray⟩ : ByteArray).size ≤ 140737488351232 := by
  have h1 := Lib.size_eq (⟨(txt k n s b).toArray⟩ : ByteArray)
  have h2 := txt_length h hf
  rw [h1]
  show (txt k n s b).length ≤ _
  omega

set_option maxHeartbeats 4000000 in
set_option maxRecDepth 100000 in
theorem law_back (k n : Int) (s : ByteArray) (b : Bool) (t : ByteArray) (w : World) (hE : Env w) (hf : Fits n) (hts : t.size ≤ 140737488351232) :
    Calls Tryd.prog 5 #[val k n s b, .string t] w (Gives (.bool true) w) := by
  have HS := Lib.hid hts
  have HF := Lib.hid hf
  clear hts hf
  have E0 := hE.alloc (.cells #[.int .i64 k, .int .i64 n, .string s, .bool b] 23)
  have T0 := At4.new w k n s b
  by_cases hm : mayB k n s b = true
  · have HM := Lib.hid hm
    have M := may_any k n s b
    rw [hm] at M
    have HMay := Lib.hid M
    clear M hm
    go_enter Tryd.func5, Tryd.ntmps5
    go_wp2_with fail
    refine (text_yes k n s b _ HF.out.1 HF.out.2 E0 HM.out).mono ?_; rintro e w1 ⟨rfl, B1⟩
    have E1 := E0.below B1
    have T1 := T0.below B1
    obtain ⟨x0, x1, x2, x3⟩ := T0.below B1
    have B01 : Below w.heap.size w w1 := below_new B1
    clear T0 E0 B1 hE
    go_wp2_with fail
    refine (HMay.out _).mono ?_; rintro e w2 ⟨rfl, B2⟩
    have E2 := E1.below B2
    have T2 := T1.below B2
    obtain ⟨z0, z1, z2, z3⟩ := T1.below B2
    have B02 : Below w.heap.size w w2 := then_ B01 B2
    clear T1 E1 B2 B01 x0 x1 x2 x3
    go_wp2_with fail
    refine (parse_any _ (txtSize HM.out HF.out) _ E2).mono ?_; rintro e w3 ⟨v3, rfl, hr, B3⟩
    obtain rfl := parseRes_unique hr (.inl ⟨k, n, s, b, ⟨HM.out, HF.out, rfl⟩, rfl⟩)
    have E3 := (E2.below B3).alloc (.cells #[.int .i64 k, .int .i64 n, .string s, .bool b] 23)
    have T3 := (T2.below B3).alloc (.cells #[.int .i64 k, .int .i64 n, .string s, .bool b] 23)
    have B03 : Below w.heap.size w (w3.alloc (.cells #[.int .i64 k, .int .i64 n, .string s, .bool b] 23)) := then_ (then_ B02 B3) ((Below.refl _ _).alloc (Nat.le_refl _) _)
    obtain ⟨u0, u1, u2, u3⟩ := T3
    have heq := eqlVal_self k n s b
    clear T2 E2 B3 B02 z0 z1 z2 z3 hr
    go_wp2_with fail
    refine (parse_any t HS.out _ E3).mono ?_; rintro e w9 ⟨v9, rfl, hr, B9⟩
    have E9 := (E3.below B9)
    have B09 : Below w.heap.size w w9 := then_ B03 B9
    clear E3 B03 B9
    rcases hr with ⟨k', n', t', b', ht, rfl⟩ | ⟨hno, rfl⟩
    · have HT := Lib.hid ht
      have hm' : mayB k' n' t' b' = true := ht.1
      have hy : (txt k' n' t' b' == t.toList) = true := by rw [toList_data, beq_iff_eq]; exact ht.2.2
      clear ht
      have E10 := E9.alloc (.cells #[.int .i64 k', .int .i64 n', .string t', .bool b'] 23)
      have T10 := At4.new w9 k' n' t' b'
      go_wp2_with fail
      refine (text_yes k' n' t' b' _ HT.out.2.1.1 HT.out.2.1.2 E10 hm').mono ?_; rintro e w11 ⟨rfl, B11⟩
      have E11 := E10.below B11
      have T11 := T10.below B11
      obtain ⟨x0, x1, x2, x3⟩ := T11
      have B011 : Below w.heap.size w w11 := then_ B09 (below_new B11)
      have T11 := T10.below B11
      clear B09 B11 T10 E10 hm'
      go_wp2_with fail
      refine (awake_any _ E11).mono ?_; rintro e w12 ⟨rfl, B12⟩
      obtain ⟨y0, y1, y2, y3⟩ := T11.below B12
      clear x0 x1 x2 x3 T11 E11
      have M := may_any k' n' t' b'
      rw [HT.out.1] at M
      have HM := Lib.hid M
      clear M
      go_wp2_with fail
      refine (HM.out _).mono ?_; rintro e w13 ⟨rfl, B13⟩
      go_wp2_with fail
      go_ret
      exact ⟨rfl, then_ B011 (then_ B12 B13)⟩
    · have hz : eqlVal 0 0 ⟨#[]⟩ false 0 0 ⟨#[]⟩ false = true := eqlVal_self _ _ _ _
      have E10 := E9.alloc (.cells #[.int .i64 0, .int .i64 0, .string ⟨#[]⟩, .bool false] 23)
      have T10 := At4.new w9 0 0 ⟨#[]⟩ false
      clear hno
      go_wp2_with fail
      refine (awake_any _ E10).mono ?_; rintro e w12 ⟨rfl, B12⟩
      obtain ⟨y0, y1, y2, y3⟩ := T10.below B12
      go_wp2_with fail
      go_ret
      exact ⟨rfl, then_ B09 (below_new B12)⟩
  · have hm' : mayB k n s b = false := by simpa using hm
    have HM := Lib.hid hm'
    have M := may_any k n s b
    rw [hm'] at M
    have HMay := Lib.hid M
    clear M hm hm'
    go_enter Tryd.func5, Tryd.ntmps5
    go_wp2_with fail
    refine (text_no k n s b _ HM.out).mono ?_; rintro e w1 ⟨rfl, B1⟩
    have E1 := E0.below B1
    have T1 := T0.below B1
    obtain ⟨x0, x1, x2, x3⟩ := T0.below B1
    have B01 : Below w.heap.size w w1 := below_new B1
    clear T0 E0 B1 hE
    go_wp2_with fail
    refine (HMay.out _).mono ?_; rintro e w2 ⟨rfl, B2⟩
    have E2 := E1.below B2
    have B02 : Below w.heap.size w w2 := then_ B01 B2
    clear T1 E1 B2 B01 x0 x1 x2 x3
    go_wp2_with fail
    refine (parse_any t HS.out _ E2).mono ?_; rintro e w9 ⟨v9, rfl, hr, B9⟩
    have E9 := (E2.below B9)
    have B09 : Below w.heap.size w w9 := then_ B02 B9
    clear E2 B02 B9
    rcases hr with ⟨k', n', t', b', ht, rfl⟩ | ⟨hno, rfl⟩
    · have HT := Lib.hid ht
      have hm' : mayB k' n' t' b' = true := ht.1
      have hy : (txt k' n' t' b' == t.toList) = true := by rw [toList_data, beq_iff_eq]; exact ht.2.2
      clear ht
      have E10 := E9.alloc (.cells #[.int .i64 k', .int .i64 n', .string t', .bool b'] 23)
      have T10 := At4.new w9 k' n' t' b'
      go_wp2_with fail
      refine (text_yes k' n' t' b' _ HT.out.2.1.1 HT.out.2.1.2 E10 hm').mono ?_; rintro e w11 ⟨rfl, B11⟩
      have E11 := E10.below B11
      have T11 := T10.below B11
      obtain ⟨x0, x1, x2, x3⟩ := T11
      have B011 : Below w.heap.size w w11 := then_ B09 (below_new B11)
      have T11 := T10.below B11
      clear B09 B11 T10 E10 hm'
      go_wp2_with fail
      refine (awake_any _ E11).mono ?_; rintro e w12 ⟨rfl, B12⟩
      obtain ⟨y0, y1, y2, y3⟩ := T11.below B12
      clear x0 x1 x2 x3 T11 E11
      have M := may_any k' n' t' b'
      rw [HT.out.1] at M
      have HM := Lib.hid M
      clear M
      go_wp2_with fail
      refine (HM.out _).mono ?_; rintro e w13 ⟨rfl, B13⟩
      go_wp2_with fail
      go_ret
      exact ⟨rfl, then_ B011 (then_ B12 B13)⟩
    · have hz : eqlVal 0 0 ⟨#[]⟩ false 0 0 ⟨#[]⟩ false = true := eqlVal_self _ _ _ _
      have E10 := E9.alloc (.cells #[.int .i64 0, .int .i64 0, .string ⟨#[]⟩, .bool false] 23)
      have T10 := At4.new w9 0 0 ⟨#[]⟩ false
      clear hno
      go_wp2_with fail
      refine (awake_any _ E10).mono ?_; rintro e w12 ⟨rfl, B12⟩
      obtain ⟨y0, y1, y2, y3⟩ := T10.below B12
      go_wp2_with fail
      go_ret
      exact ⟨rfl, then_ B09 (below_new B12)⟩
end Go.Proofs.YtlmjlfbmdjaciaaDoor
