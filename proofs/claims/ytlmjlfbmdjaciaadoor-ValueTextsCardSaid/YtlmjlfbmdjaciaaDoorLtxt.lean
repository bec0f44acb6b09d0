/- The walk of ValueTexts: for any value and any text the statement's function returns true, and writes nothing that was there. -/
import Derived.Test.YtlmjlfbmdjaciaaDoorLbak
import Derived.Test.YtlmjlfbmdjaciaaDoorB
set_option linter.unusedSimpArgs false
set_option linter.unusedVariables false
namespace Go.Proofs.YtlmjlfbmdjaciaaDoor
open Go.RowKit
attribute [local go_sem ↓] Go.wp_at_zero Go.wp_at_succ
attribute [local go_sem ↓] run_eql_val run_guard_val

/-- Both Texts answer the same. -/
theorem texts_same (k n : Int) (s : ByteArray) (b : Bool) (hf : Fits n) : ∃ (t : ByteArray) (c : Int), (∀ W, Env W → Calls Tryd.prog 14 #[val k n s b] W (Gives (.tuple #[.string t, .int .i64 c]) W)) ∧ (∀ W, Calls Tryd.prog 15 #[val k n s b] W (Gives (.tuple #[.string t, .int .i64 c]) W)) := by
  by_cases hm : mayB k n s b = true
  · exact ⟨_, _, fun W hE => text_yes k n s b W hf.1 hf.2 hE hm, fun W => reftext_yes k n s b W hf hm⟩
  · have hm' : mayB k n s b = false := by simpa using hm
    exact ⟨_, _, fun W hE => text_no k n s b W hm', fun W => reftext_no k n s b W hm'⟩

set_option maxHeartbeats 4000000 in
set_option maxRecDepth 100000 in
theorem law_texts (k n : Int) (s : ByteArray) (b : Bool) (t : ByteArray) (w : World) (hE : Env w) (hf : Fits n) (hts : t.size ≤ 140737488351232) :
    Calls Tryd.prog 4 #[val k n s b, .string t] w (Gives (.bool true) w) := by
  have HS := Lib.hid hts
  obtain ⟨x, c, H1, H2⟩ := texts_same k n s b hf
  have HA := Lib.hid H1
  have HB := Lib.hid H2
  clear hts hf H1 H2
  have E0 := hE.alloc (.cells #[.int .i64 k, .int .i64 n, .string s, .bool b] 23)
  have T0 := At4.new w k n s b
  go_enter Tryd.func4, Tryd.ntmps4
  go_wp2_with fail
  refine (HA.out _ E0).mono ?_; rintro e w1 ⟨rfl, B1⟩
  have E1 := E0.below B1
  obtain ⟨x0, x1, x2, x3⟩ := T0.below B1
  have B01 : Below w.heap.size w w1 := below_new B1
  clear T0 E0 B1 hE
  go_wp2_with fail
  refine (HB.out _).mono ?_; rintro e w2 ⟨rfl, B2⟩
  have E2 := E1.below B2
  have B02 : Below w.heap.size w w2 := then_ B01 B2
  clear E1 B2 B01 x0 x1 x2 x3
  go_wp2_with fail
  refine (parse_any t HS.out _ E2).mono ?_; rintro e w3 ⟨v3, rfl, hr3, B3⟩
  have HR := Lib.hid hr3
  have E3 := E2.below B3
  have B03 : Below w.heap.size w w3 := then_ B02 B3
  clear E2 B3 B02
  rcases hr3 with ⟨k', n', t', b', ht, rfl⟩ | ⟨hno, rfl⟩
  · clear ht
    have E4 := E3.alloc (.cells #[.int .i64 k', .int .i64 n', .string t', .bool b'] 23)
    have T4 := At4.new w3 k' n' t' b'
    have heq := eqlVal_self k' n' t' b'
    go_wp2_with fail
    refine (refparse_any t HS.out _).mono ?_; rintro e w5 ⟨v5, rfl, hr5, B5⟩
    obtain rfl := parseRes_unique hr5 HR.out
    have E5 := (E4.below B5).alloc (.cells #[.int .i64 k', .int .i64 n', .string t', .bool b'] 23)
    have T5 := (T4.below B5).alloc (.cells #[.int .i64 k', .int .i64 n', .string t', .bool b'] 23)
    have U5 := At4.new w5 k' n' t' b'
    have B05 : Below w.heap.size w (w5.alloc (.cells #[.int .i64 k', .int .i64 n', .string t', .bool b'] 23)) := then_ B03 (below_new (then_ B5 ((Below.refl _ _).alloc (Nat.le_refl _) _)))
    clear hr5 E4 T4 B5 B03 E3
    go_wp2_with fail
    refine (awake_any _ E5).mono ?_; rintro e w6 ⟨rfl, B6⟩
    obtain ⟨y0, y1, y2, y3⟩ := T5.below B6
    obtain ⟨z0, z1, z2, z3⟩ := U5.below B6
    go_wp2_with fail
    go_ret
    exact ⟨rfl, then_ B05 B6⟩
  · clear hno
    have E4 := E3.alloc (.cells #[.int .i64 0, .int .i64 0, .string ⟨#[]⟩, .bool false] 23)
    have T4 := At4.new w3 0 0 ⟨#[]⟩ false
    have heq := eqlVal_self 0 0 ⟨#[]⟩ false
    go_wp2_with fail
    refine (refparse_any t HS.out _).mono ?_; rintro e w5 ⟨v5, rfl, hr5, B5⟩
    obtain rfl := parseRes_unique hr5 HR.out
    have E5 := (E4.below B5).alloc (.cells #[.int .i64 0, .int .i64 0, .string ⟨#[]⟩, .bool false] 23)
    have T5 := (T4.below B5).alloc (.cells #[.int .i64 0, .int .i64 0, .string ⟨#[]⟩, .bool false] 23)
    have U5 := At4.new w5 0 0 ⟨#[]⟩ false
    have B05 : Below w.heap.size w (w5.alloc (.cells #[.int .i64 0, .int .i64 0, .string ⟨#[]⟩, .bool false] 23)) := then_ B03 (below_new (then_ B5 ((Below.refl _ _).alloc (Nat.le_refl _) _)))
    clear hr5 E4 T4 B5 B03 E3
    go_wp2_with fail
    refine (awake_any _ E5).mono ?_; rintro e w6 ⟨rfl, B6⟩
    obtain ⟨y0, y1, y2, y3⟩ := T5.below B6
    obtain ⟨z0, z1, z2, z3⟩ := U5.below B6
    go_wp2_with fail
    go_ret
    exact ⟨rfl, then_ B05 B6⟩
end Go.Proofs.YtlmjlfbmdjaciaaDoor
