/- The contract of the statements' first question: what the document's examples say. -/
import Derived.Test.YtlmjlfbmdjaciaaDoorP
set_option linter.unusedSimpArgs false
set_option linter.unusedVariables false
namespace Go.Proofs.YtlmjlfbmdjaciaaDoor
open Go.RowKit
attribute [local go_sem ↓] Go.wp_at_zero Go.wp_at_succ
attribute [local go_sem ↓] run_eql_val run_guard_val

theorem then_ {a b c : World} (h : Below a.heap.size a b) (k : Below b.heap.size b c) : Below a.heap.size a c := h.trans (k.mono h.size)

theorem itoa_m5 : Lib.itoa (-5) = [45, 53] := by
  unfold Lib.itoa
  rw [if_pos (by decide), show (-5 : Int).natAbs = 5 from rfl, Lib.decDigits_one (by decide)]
  rfl
theorem may_t3 : mayB 3 0 ⟨#[]⟩ true = true := by simp [mayB, empty_toList]
theorem text_m5 (w : World) (hE : Env w) : Calls Tryd.prog 14 #[val 1 (-5) ⟨#[]⟩ false] w (Gives (.tuple #[.string ⟨#[45, 53]⟩, .int .i64 0]) w) := by
  have := text_int (-5) ⟨#[]⟩ false w (by decide) (by decide) hE (by simp [mayB, empty_toList])
  rwa [itoa_m5] at this
theorem text_aq (w : World) : Calls Tryd.prog 14 #[val 2 0 ⟨#[97, 34, 10]⟩ false] w (Gives (.tuple #[.string ⟨#[34, 97, 92, 34, 92, 120, 48, 97, 34]⟩, .int .i64 0]) w) := by
  have := text_str 0 ⟨#[97, 34, 10]⟩ false w (by decide)
  exact this
theorem parse_true (w : World) (hE : Env w) : Calls Tryd.prog 16 #[.string ⟨#[116, 114, 117, 101]⟩] w (Gives (.tuple #[val 3 0 ⟨#[]⟩ true, .int .i64 0]) w) := by
  refine (parse_any ⟨#[116, 114, 117, 101]⟩ (by decide) w hE).mono fun e w' ⟨v, he, hr, hb⟩ => ⟨?_, hb⟩
  have h2 : ParseRes ⟨#[116, 114, 117, 101]⟩ (.tuple #[val 3 0 ⟨#[]⟩ true, .int .i64 0]) := .inl ⟨3, 0, ⟨#[]⟩, true, ⟨may_t3, ⟨by decide, by decide⟩, formatBool_true⟩, rfl⟩
  rw [he, parseRes_unique hr h2]
theorem may_t (w : World) : Calls Tryd.prog 10 #[val 3 0 ⟨#[]⟩ true] w (Gives (.bool true) w) := by
  have := may_any 3 0 ⟨#[]⟩ true w
  rwa [may_t3] at this
theorem compare_5a (w : World) : Calls Tryd.prog 12 #[val 1 5 ⟨#[]⟩ false, val 2 0 ⟨#[97]⟩ false] w (Gives (.int .i64 (-1)) w) := by
  have := compare_any 1 5 ⟨#[]⟩ false 2 0 ⟨#[97]⟩ false w
  rwa [show cmpV 1 5 ⟨#[]⟩ false 2 0 ⟨#[97]⟩ false = -1 by decide] at this

set_option maxHeartbeats 4000000 in
set_option maxRecDepth 100000 in
theorem awake_any (w : World) (hE : Env w) : Calls Tryd.prog 9 #[] w (Gives (.bool true) w) := by
  have heq : eqlVal 3 0 ⟨#[]⟩ true 3 0 ⟨#[]⟩ true = true := by simp [eqlVal]
  go_enter Tryd.func9, Tryd.ntmps9
  go_wp2_with fail
  refine (number_any (-5) _).mono ?_; rintro e w1 ⟨rfl, b1⟩
  have E1 := hE.below b1
  go_wp2_with fail
  refine (text_m5 _ E1).mono ?_; rintro e w2 ⟨rfl, b2⟩
  have E2 := E1.below b2
  go_wp2_with fail
  refine (word_any ⟨#[97, 34, 10]⟩ _).mono ?_; rintro e w3 ⟨rfl, b3⟩
  have E3 := E2.below b3
  go_wp2_with fail
  refine (text_aq _).mono ?_; rintro e w4 ⟨rfl, b4⟩
  have E4 := E3.below b4
  go_wp2_with fail
  refine (parse_true _ E4).mono ?_; rintro e w5 ⟨rfl, b5⟩
  go_wp2_with fail
  have B5 : Below w.heap.size w w5 := b1.trans ((b2.trans ((b3.trans ((b4.trans (b5.mono b4.size)).mono b3.size)).mono b2.size)).mono b1.size)
  clear b1 b2 b3 b4 b5 E1 E2 E3 E4 hE
  go_region_held3 (fun w' => w'.cell? ⟨w5.heap.size, 0, none⟩ = some (.int .i64 3) ∧ w'.cell? ⟨w5.heap.size, 1, none⟩ = some (.int .i64 0) ∧ w'.cell? ⟨w5.heap.size, 2, none⟩ = some (.string ⟨#[]⟩) ∧ w'.cell? ⟨w5.heap.size, 3, none⟩ = some (.bool true))
    (first | go_keep | (repeat' apply And.intro) <;> (refine cell_later (by assumption) ?_; first | assumption | go_keep))
    (first | (go_at_call 20; refine (truth_any true _).mono ?_; rintro e w6 ⟨rfl, b6⟩) | (go_at_call 18; refine (number_any 5 _).mono ?_; rintro e w7 ⟨rfl, b7⟩) | (go_at_call 19; refine (word_any ⟨#[97]⟩ _).mono ?_; rintro e w8 ⟨rfl, b8⟩) | (go_at_call 12; refine (compare_5a _).mono ?_; rintro e w9 ⟨rfl, b9⟩) | (go_at_call 10; refine (may_t _).mono ?_; rintro e w10 ⟨rfl, b10⟩))
  go_wp2
  go_ret
  exact ⟨rfl, then_ B5 (then_ (below_new (w := w5) (then_ ((Below.refl _ _).drew) b6)) (then_ b7 (then_ b8 (then_ b9 b10))))⟩
end Go.Proofs.YtlmjlfbmdjaciaaDoor
