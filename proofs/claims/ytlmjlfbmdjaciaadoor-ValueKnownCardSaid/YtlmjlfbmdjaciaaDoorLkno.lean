/- Texts that are no value's, and the walk of ValueKnown. -/
import Derived.Test.YtlmjlfbmdjaciaaDoorO
set_option linter.unusedSimpArgs false
set_option linter.unusedVariables false
namespace Go.Proofs.YtlmjlfbmdjaciaaDoor
open Go.RowKit

/-- The first byte that a text without its marks was laid of, and what is left. -/
def un1 : List UInt8 → UInt8 × List UInt8
  | a :: b :: c :: d :: r => if a = 92 then (if b = 120 then (UInt8.ofNat ((fold16 0 [c, d]).getD 0), r) else (b, c :: d :: r)) else (a, b :: c :: d :: r)
  | [a, b, c] => if a = 92 then (b, [c]) else (a, [b, c])
  | [a, b] => if a = 92 then (b, []) else (a, [b])
  | [a] => (a, [])
  | [] => (0, [])
theorem un1_esc (x : UInt8) (xs : List UInt8) : un1 (escB x ++ xs) = (x, xs) := by
  have key : ∀ l, l = escB x ++ xs → un1 l = (x, xs) := by
    intro l hl
    match l, hl with
    | [], hl => exact absurd hl.symm (by have := escB_ne x; intro h; exact this (List.append_eq_nil_iff.1 h).1)
    | [a], hl => obtain ⟨rfl, h⟩ := step_plain (l := [a]) rfl (.inl (by simp)) x xs hl; rw [← h]; rfl
    | [a, b], hl =>
      by_cases ha : a = 92
      · subst ha; obtain ⟨rfl, h⟩ := step_marked (l := [92, b]) rfl rfl (.inl (by simp)) x xs hl; rw [← h]; rfl
      · obtain ⟨rfl, h⟩ := step_plain (l := [a, b]) rfl (.inr (fun e => ha (UInt8.toNat_inj.1 e))) x xs hl
        rw [← h]; simp [un1, ha]
    | [a, b, c], hl =>
      by_cases ha : a = 92
      · subst ha; obtain ⟨rfl, h⟩ := step_marked (l := [92, b, c]) rfl rfl (.inl (by simp)) x xs hl; rw [← h]; rfl
      · obtain ⟨rfl, h⟩ := step_plain (l := [a, b, c]) rfl (.inr (fun e => ha (UInt8.toNat_inj.1 e))) x xs hl
        rw [← h]; simp [un1, ha]
    | a :: b :: c :: d :: r, hl =>
      by_cases ha : a = 92
      · by_cases hb : b = 120
        · subst ha hb
          obtain ⟨e1, e2⟩ := step_hex (l := 92 :: 120 :: c :: d :: r) rfl rfl rfl (v := (fold16 0 [c, d]).getD 0) (fun y hy => by rw [hy]; rfl) x xs hl
          show (UInt8.ofNat ((fold16 0 [c, d]).getD 0), r) = (x, xs)
          rw [e1, ← e2]; rfl
        · subst ha
          obtain ⟨rfl, h⟩ := step_marked (l := 92 :: b :: c :: d :: r) rfl rfl (.inr (fun e => hb (UInt8.toNat_inj.1 e))) x xs hl
          rw [← h]; simp [un1, hb]
      · obtain ⟨rfl, h⟩ := step_plain (l := a :: b :: c :: d :: r) rfl (.inr (fun e => ha (UInt8.toNat_inj.1 e))) x xs hl
        rw [← h]; simp [un1, ha]
  exact key _ rfl
def unesc : Nat → List UInt8 → List UInt8
  | 0, _ => []
  | _ + 1, [] => []
  | f + 1, a :: l => (un1 (a :: l)).1 :: unesc f (un1 (a :: l)).2
theorem unesc_esc : ∀ (xs : List UInt8) (f : Nat), xs.length ≤ f → unesc f (escAll xs) = xs
  | [], 0, _ => rfl
  | [], f + 1, _ => rfl
  | x :: xs, 0, h => by simp at h
  | x :: xs, f + 1, h => by
    rw [escAll_cons]
    cases he : escB x ++ escAll xs with
    | nil => exact absurd (List.append_eq_nil_iff.1 he).1 (escB_ne x)
    | cons a l =>
      have h1 := un1_esc x (escAll xs)
      rw [he] at h1
      show (un1 (a :: l)).1 :: unesc f (un1 (a :: l)).2 = x :: xs
      rw [h1, unesc_esc xs f (by simp at h; omega)]
theorem esc_len : ∀ (xs : List UInt8), xs.length ≤ (escAll xs).length
  | [] => Nat.le_refl _
  | x :: xs => by
    rw [escAll_cons, List.length_append, List.length_cons]
    have := esc_len xs
    have h : 0 < (escB x).length := List.length_pos_iff.2 (escB_ne x)
    omega
/-- Is a text a quoted one? Asked by undoing it and doing it again. -/
def quotedB (l : List UInt8) : Bool := (34 :: (escAll (unesc 64 (l.drop 1).dropLast) ++ [34])) == l
theorem not_quoted {l : List UInt8} (hl : l.length ≤ 60) (h : quotedB l = false) (xs : List UInt8) : l ≠ 34 :: (escAll xs ++ [34]) := by
  intro e
  subst e
  have h1 : (List.drop 1 (34 :: (escAll xs ++ [34]))).dropLast = escAll xs := by simp
  have h2 := esc_len xs
  unfold quotedB at h
  rw [h1, unesc_esc xs 64 (by simp only [List.length_cons, List.length_append] at hl; omega)] at h
  simp at h
/-- A text that is no value's. -/
theorem no_txt {s : ByteArray} (hi : ∀ n, Lib.parseIntB 64 s.data.toList = .ok n → Lib.itoa n ≠ s.data.toList) (hl : s.data.toList.length ≤ 60) (hq : quotedB s.data.toList = false) (ht : s.data.toList ≠ [116, 114, 117, 101]) (hf : s.data.toList ≠ [102, 97, 108, 115, 101]) :
    ∀ k n t b, ¬ IsTxt s k n t b := by
  intro k n t b ⟨hm, hfit, h⟩
  rcases txt_kind hm with ⟨_, _, _, h4⟩ | ⟨_, _, _, h4, _⟩ | ⟨_, _, _, h4⟩
  · rw [h4] at h
    exact hi n (by rw [← h]; exact parse_itoa n hfit.1 hfit.2) h
  · exact not_quoted hl hq _ (h.symm.trans h4)
  · rw [h4] at h
    cases b
    · rw [formatBool_false] at h; exact hf h.symm
    · rw [formatBool_true] at h; exact ht h.symm
/-- The texts that the statement's loop asks. -/
def bad (k : Nat) : ByteArray := match k with
  | 0 => ⟨#[48, 53]⟩ | 1 => ⟨#[45, 48]⟩ | 2 => ⟨#[34, 97]⟩ | 3 => ⟨#[34, 92, 120, 54, 49, 34]⟩ | 4 => ⟨#[84, 114, 117, 101]⟩
  | 5 => ⟨#[57, 50, 50, 51, 51, 55, 50, 48, 51, 54, 56, 53, 52, 55, 55, 53, 56, 48, 56]⟩ | 6 => ⟨#[]⟩ | 7 => ⟨#[43, 49]⟩ | 8 => ⟨#[34]⟩ | 9 => ⟨#[34, 92, 34]⟩
  | 10 => ⟨#[34, 97, 34, 98]⟩ | 11 => ⟨#[32, 49]⟩ | 12 => ⟨#[34, 92, 120, 48, 71, 34]⟩ | 13 => ⟨#[34, 92, 120, 48, 65, 34]⟩ | _ => ⟨#[45]⟩
theorem itoa_5 : Lib.itoa 5 = [53] := by unfold Lib.itoa; rw [if_neg (by decide), show (5 : Int).toNat = 5 from rfl, Lib.decDigits_one (by decide)]; rfl
theorem itoa_0 : Lib.itoa 0 = [48] := by unfold Lib.itoa; rw [if_neg (by decide), show (0 : Int).toNat = 0 from rfl, Lib.decDigits_one (by decide)]; rfl
theorem itoa_1 : Lib.itoa 1 = [49] := by unfold Lib.itoa; rw [if_neg (by decide), show (1 : Int).toNat = 1 from rfl, Lib.decDigits_one (by decide)]; rfl
/-- Does strconv refuse a text? -/
def refused (l : List UInt8) : Bool := match Lib.parseIntB 64 l with | .ok _ => false | _ => true
theorem of_refused {l : List UInt8} (h : refused l = true) : ∀ n, Lib.parseIntB 64 l = .ok n → Lib.itoa n ≠ l := fun n hn => by
  unfold refused at h; rw [hn] at h; cases h
theorem of_ok {l : List UInt8} {m : Int} (h : Lib.parseIntB 64 l = .ok m) (h2 : Lib.itoa m ≠ l) : ∀ n, Lib.parseIntB 64 l = .ok n → Lib.itoa n ≠ l := fun n hn => by
  rw [h] at hn; cases hn; exact h2
theorem bad_0 : ∀ k n t b, ¬ IsTxt (bad 0) k n t b := no_txt (of_ok (m := 5) (by decide +kernel) (by rw [itoa_5]; decide +kernel)) (by decide +kernel) (by decide +kernel) (by decide +kernel) (by decide +kernel)
theorem bad_1 : ∀ k n t b, ¬ IsTxt (bad 1) k n t b := no_txt (of_ok (m := 0) (by decide +kernel) (by rw [itoa_0]; decide +kernel)) (by decide +kernel) (by decide +kernel) (by decide +kernel) (by decide +kernel)
theorem bad_2 : ∀ k n t b, ¬ IsTxt (bad 2) k n t b := no_txt (of_refused (by decide +kernel)) (by decide +kernel) (by decide +kernel) (by decide +kernel) (by decide +kernel)
theorem bad_3 : ∀ k n t b, ¬ IsTxt (bad 3) k n t b := no_txt (of_refused (by decide +kernel)) (by decide +kernel) (by decide +kernel) (by decide +kernel) (by decide +kernel)
theorem bad_4 : ∀ k n t b, ¬ IsTxt (bad 4) k n t b := no_txt (of_refused (by decide +kernel)) (by decide +kernel) (by decide +kernel) (by decide +kernel) (by decide +kernel)
theorem bad_5 : ∀ k n t b, ¬ IsTxt (bad 5) k n t b := no_txt (of_refused (by decide +kernel)) (by decide +kernel) (by decide +kernel) (by decide +kernel) (by decide +kernel)
theorem bad_6 : ∀ k n t b, ¬ IsTxt (bad 6) k n t b := no_txt (of_refused (by decide +kernel)) (by decide +kernel) (by decide +kernel) (by decide +kernel) (by decide +kernel)
theorem bad_7 : ∀ k n t b, ¬ IsTxt (bad 7) k n t b := no_txt (of_ok (m := 1) (by decide +kernel) (by rw [itoa_1]; decide +kernel)) (by decide +kernel) (by decide +kernel) (by decide +kernel) (by decide +kernel)
theorem bad_8 : ∀ k n t b, ¬ IsTxt (bad 8) k n t b := no_txt (of_refused (by decide +kernel)) (by decide +kernel) (by decide +kernel) (by decide +kernel) (by decide +kernel)
theorem bad_9 : ∀ k n t b, ¬ IsTxt (bad 9) k n t b := no_txt (of_refused (by decide +kernel)) (by decide +kernel) (by decide +kernel) (by decide +kernel) (by decide +kernel)
theorem bad_10 : ∀ k n t b, ¬ IsTxt (bad 10) k n t b := no_txt (of_refused (by decide +kernel)) (by decide +kernel) (by decide +kernel) (by decide +kernel) (by decide +kernel)
theorem bad_11 : ∀ k n t b, ¬ IsTxt (bad 11) k n t b := no_txt (of_refused (by decide +kernel)) (by decide +kernel) (by decide +kernel) (by decide +kernel) (by decide +kernel)
theorem bad_12 : ∀ k n t b, ¬ IsTxt (bad 12) k n t b := no_txt (of_refused (by decide +kernel)) (by decide +kernel) (by decide +kernel) (by decide +kernel) (by decide +kernel)
theorem bad_13 : ∀ k n t b, ¬ IsTxt (bad 13) k n t b := no_txt (of_refused (by decide +kernel)) (by decide +kernel) (by decide +kernel) (by decide +kernel) (by decide +kernel)
theorem bad_14 : ∀ k n t b, ¬ IsTxt (bad 14) k n t b := no_txt (of_refused (by decide +kernel)) (by decide +kernel) (by decide +kernel) (by decide +kernel) (by decide +kernel)
theorem bad_no (i : Nat) (hi : i < 15) : ∀ k n t b, ¬ IsTxt (bad i) k n t b := by
  rcases (show i = 0 ∨ i = 1 ∨ i = 2 ∨ i = 3 ∨ i = 4 ∨ i = 5 ∨ i = 6 ∨ i = 7 ∨ i = 8 ∨ i = 9 ∨ i = 10 ∨ i = 11 ∨ i = 12 ∨ i = 13 ∨ i = 14 by omega) with rfl | rfl | rfl | rfl | rfl | rfl | rfl | rfl | rfl | rfl | rfl | rfl | rfl | rfl | rfl
  · exact bad_0
  · exact bad_1
  · exact bad_2
  · exact bad_3
  · exact bad_4
  · exact bad_5
  · exact bad_6
  · exact bad_7
  · exact bad_8
  · exact bad_9
  · exact bad_10
  · exact bad_11
  · exact bad_12
  · exact bad_13
  · exact bad_14

theorem parse_bad (i : Nat) (hi : i < 15) (w : World) (hE : Env w) : Calls Tryd.prog 16 #[.string (bad i)] w (Gives (.tuple #[val 0 0 ⟨#[]⟩ false, .int .i64 5]) w) := by
  have hs : (bad i).size ≤ 140737488351232 := by
    rcases (show i = 0 ∨ i = 1 ∨ i = 2 ∨ i = 3 ∨ i = 4 ∨ i = 5 ∨ i = 6 ∨ i = 7 ∨ i = 8 ∨ i = 9 ∨ i = 10 ∨ i = 11 ∨ i = 12 ∨ i = 13 ∨ i = 14 by omega) with rfl | rfl | rfl | rfl | rfl | rfl | rfl | rfl | rfl | rfl | rfl | rfl | rfl | rfl | rfl <;> decide
  refine (parse_any (bad i) hs w hE).mono fun e w' ⟨v, he, hr, hb⟩ => ⟨?_, hb⟩
  rw [he, parseRes_unique hr (.inr ⟨bad_no i hi, rfl⟩)]

theorem itoa_min : Lib.itoa (-9223372036854775808) = [45, 57, 50, 50, 51, 51, 55, 50, 48, 51, 54, 56, 53, 52, 55, 55, 53, 56, 48, 56] := by
  unfold Lib.itoa
  rw [if_pos (by decide), show (-9223372036854775808 : Int).natAbs = 9223372036854775808 from rfl]
  simp [Lib.decDigits]
theorem parse_min (w : World) (hE : Env w) : Calls Tryd.prog 16 #[.string ⟨#[45, 57, 50, 50, 51, 51, 55, 50, 48, 51, 54, 56, 53, 52, 55, 55, 53, 56, 48, 56]⟩] w (Gives (.tuple #[val 1 (-9223372036854775808) ⟨#[]⟩ false, .int .i64 0]) w) := by
  refine (parse_any _ (by decide) w hE).mono fun e w' ⟨v, he, hr, hb⟩ => ⟨?_, hb⟩
  have h2 : ParseRes ⟨#[45, 57, 50, 50, 51, 51, 55, 50, 48, 51, 54, 56, 53, 52, 55, 55, 53, 56, 48, 56]⟩ (.tuple #[val 1 (-9223372036854775808) ⟨#[]⟩ false, .int .i64 0]) :=
    .inl ⟨1, -9223372036854775808, ⟨#[]⟩, false, ⟨by simp [mayB, empty_toList], ⟨by decide, by decide⟩, by unfold txt; rw [if_pos rfl]; exact itoa_min⟩, rfl⟩
  rw [he, parseRes_unique hr h2]
theorem text_ff (w : World) : Calls Tryd.prog 14 #[val 2 0 ⟨#[255]⟩ false] w (Gives (.tuple #[.string ⟨#[34, 92, 120, 102, 102, 34]⟩, .int .i64 0]) w) := by
  have := text_str 0 ⟨#[255]⟩ false w (by decide)
  exact this
abbrev long33 : ByteArray := ⟨#[49, 50, 51, 52, 53, 54, 55, 56, 57, 48, 49, 50, 51, 52, 53, 54, 55, 56, 57, 48, 49, 50, 51, 52, 53, 54, 55, 56, 57, 48, 49, 50, 51]⟩
theorem text_33 (w : World) : Calls Tryd.prog 14 #[val 2 0 long33 false] w (Gives (.tuple #[.string ⟨#[]⟩, .int .i64 1]) w) := text_no 2 0 long33 false w (by rw [mayB_2]; decide)
theorem text_1x (w : World) : Calls Tryd.prog 14 #[val 1 0 ⟨#[120]⟩ false] w (Gives (.tuple #[.string ⟨#[]⟩, .int .i64 1]) w) := text_no 1 0 ⟨#[120]⟩ false w (by rw [mayB_1, toList_data]; decide)
theorem compare_tf (w : World) : Calls Tryd.prog 12 #[val 3 0 ⟨#[]⟩ true, val 3 0 ⟨#[]⟩ false] w (Gives (.int .i64 1) w) := by
  have := compare_any 3 0 ⟨#[]⟩ true 3 0 ⟨#[]⟩ false w
  rwa [show cmpV 3 0 ⟨#[]⟩ true 3 0 ⟨#[]⟩ false = 1 by decide] at this
theorem compare_99 (w : World) : Calls Tryd.prog 12 #[val 9 1 ⟨#[]⟩ false, val 9 0 ⟨#[]⟩ false] w (Gives (.int .i64 0) w) := by
  have := compare_any 9 1 ⟨#[]⟩ false 9 0 ⟨#[]⟩ false w
  rwa [show cmpV 9 1 ⟨#[]⟩ false 9 0 ⟨#[]⟩ false = 0 by decide] at this
theorem may_00 (w : World) : Calls Tryd.prog 10 #[val 0 0 ⟨#[]⟩ false] w (Gives (.bool false) w) := by
  have := may_any 0 0 ⟨#[]⟩ false w
  rwa [show mayB 0 0 ⟨#[]⟩ false = false by simp [mayB]] at this
/-- The world behind the loop's list. -/
def listed (w : World) : World := w.alloc (.cells #[.string ⟨#[48, 53]⟩, .string ⟨#[45, 48]⟩, .string ⟨#[34, 97]⟩, .string ⟨#[34, 92, 120, 54, 49, 34]⟩, .string ⟨#[84, 114, 117, 101]⟩, .string ⟨#[57, 50, 50, 51, 51, 55, 50, 48, 51, 54, 56, 53, 52, 55, 55, 53, 56, 48, 56]⟩, .string ⟨#[]⟩, .string ⟨#[43, 49]⟩, .string ⟨#[34]⟩, .string ⟨#[34, 92, 34]⟩, .string ⟨#[34, 97, 34, 98]⟩, .string ⟨#[32, 49]⟩, .string ⟨#[34, 92, 120, 48, 71, 34]⟩, .string ⟨#[34, 92, 120, 48, 65, 34]⟩, .string ⟨#[45]⟩] 9)
theorem listed_at (w : World) (i : Nat) (hi : i < 15) : (listed w).cell? ⟨w.heap.size, i, none⟩ = some (.string (bad i)) := by
  have h : (listed w).heap[w.heap.size]? = some (.cells #[.string ⟨#[48, 53]⟩, .string ⟨#[45, 48]⟩, .string ⟨#[34, 97]⟩, .string ⟨#[34, 92, 120, 54, 49, 34]⟩, .string ⟨#[84, 114, 117, 101]⟩, .string ⟨#[57, 50, 50, 51, 51, 55, 50, 48, 51, 54, 56, 53, 52, 55, 55, 53, 56, 48, 56]⟩, .string ⟨#[]⟩, .string ⟨#[43, 49]⟩, .string ⟨#[34]⟩, .string ⟨#[34, 92, 34]⟩, .string ⟨#[34, 97, 34, 98]⟩, .string ⟨#[32, 49]⟩, .string ⟨#[34, 92, 120, 48, 71, 34]⟩, .string ⟨#[34, 92, 120, 48, 65, 34]⟩, .string ⟨#[45]⟩] 9 (0, 0)) := heap_alloc_new w _
  rw [cell_of_row _ _ i _ 9 (0, 0) h]
  rcases (show i = 0 ∨ i = 1 ∨ i = 2 ∨ i = 3 ∨ i = 4 ∨ i = 5 ∨ i = 6 ∨ i = 7 ∨ i = 8 ∨ i = 9 ∨ i = 10 ∨ i = 11 ∨ i = 12 ∨ i = 13 ∨ i = 14 by omega) with rfl | rfl | rfl | rfl | rfl | rfl | rfl | rfl | rfl | rfl | rfl | rfl | rfl | rfl | rfl <;> rfl
theorem below_listed (w : World) : Below w.heap.size w (listed w) := (Below.refl _ _).alloc (Nat.le_refl _) _

set_option maxHeartbeats 4000000 in
set_option maxRecDepth 100000 in
theorem law_known (w : World) (hE : Env w) : Calls Tryd.prog 8 #[] w (Gives (.bool true) w) := by
  have hB0 := below_listed w
  have hE0 := hE.below hB0
  have hat := Lib.hid (listed_at w)
  go_enter Tryd.func8, Tryd.ntmps8
  go_wp2_with fail
  show Code.wp _ _ _ _ (listed w)
  generalize hW : listed w = W at hB0 hE0 hat
  clear hW hE
  go_loopw [15] (fun i wr => ∃ k : Nat, k ≤ 15 ∧ i = .int .i64 k ∧ Below W.heap.size W wr) (fun i _ => 15 - (intOf i).toNat)
  case atStart => exact ⟨0, by omega, rfl, Below.refl _ _⟩
  case round =>
    obtain ⟨k, hk, rfl, hbel⟩ := hrel
    have E1 := hE0.below hbel
    by_cases hkl : k < 15
    · have hc : wr.cell? ⟨w.heap.size, k, none⟩ = some (.string (bad k)) := cell_later hbel (hat.out k hkl)
      have hk0 : (k : Int) < 15 := by omega
      have HP := Lib.hid (parse_bad k hkl wr E1)
      go_wp2_with fail
      refine HP.out.mono ?_; rintro e w2 ⟨rfl, B2⟩
      go_wp2_with fail
      go_roundw
      case rel => exact ⟨k + 1, by omega, by simp, (hbel.trans (B2.mono hbel.size)).alloc (by have := hbel.size; have := B2.size; omega) _⟩
      case measure => simp [intOf]; omega
    · have hk0 : ¬ (k : Int) < 15 := by omega
      have B01 : Below w.heap.size w wr := then_ hB0 hbel
      clear hat hB0 hE0 hbel hk hkl
      go_wp2_with fail
      refine (parse_min _ E1).mono ?_; rintro e w2 ⟨rfl, B2⟩
      have E2 := (E1.below B2).alloc (.cells #[.int .i64 1, .int .i64 (-9223372036854775808), .string ⟨#[]⟩, .bool false] 23)
      have T2 := At4.new w2 1 (-9223372036854775808) ⟨#[]⟩ false
      have B02 : Below w.heap.size w (w2.alloc (.cells #[.int .i64 1, .int .i64 (-9223372036854775808), .string ⟨#[]⟩, .bool false] 23)) := then_ (then_ B01 B2) ((Below.refl _ _).alloc (Nat.le_refl _) _)
      clear B01 B2 E1
      go_wp2_with fail
      refine (word_any ⟨#[255]⟩ _).mono ?_; rintro e w3 ⟨rfl, B3⟩
      have E3 := E2.below B3; have T3 := T2.below B3
      go_wp2_with fail
      refine (text_ff _).mono ?_; rintro e w4 ⟨rfl, B4⟩
      have E4 := E3.below B4; have T4 := T3.below B4
      go_wp2_with fail
      refine (word_any long33 _).mono ?_; rintro e w5 ⟨rfl, B5⟩
      have E5 := E4.below B5; have T5 := T4.below B5
      go_wp2_with fail
      refine (text_33 _).mono ?_; rintro e w6 ⟨rfl, B6⟩
      have E6 := E5.below B6; have T6 := T5.below B6
      go_wp2_with fail
      refine (text_1x _).mono ?_; rintro e w7 ⟨rfl, B7⟩
      have E7 := E6.below B7; have T7 := T6.below B7
      have B07 : Below w.heap.size w w7 := then_ B02 (then_ B3 (then_ B4 (then_ B5 (then_ B6 B7))))
      clear E2 E3 E4 E5 E6 T2 T3 T4 T5 T6 B3 B4 B5 B6 B7 B02
      go_wp2_with fail
      refine (awake_any _ E7).mono ?_; rintro e w8 ⟨rfl, B8⟩
      obtain ⟨y0, y1, y2, y3⟩ := T7.below B8
      clear T7 E7
      go_wp2_with fail
      refine (truth_any true _).mono ?_; rintro e w9 ⟨rfl, B9⟩
      clear y0 y1 y2 y3
      go_wp2_with fail
      refine (truth_any false _).mono ?_; rintro e w10 ⟨rfl, B10⟩
      go_wp2_with fail
      refine (compare_tf _).mono ?_; rintro e w11 ⟨rfl, B11⟩
      go_wp2_with fail
      refine (compare_99 _).mono ?_; rintro e w12 ⟨rfl, B12⟩
      go_wp2_with fail
      refine (may_00 _).mono ?_; rintro e w13 ⟨rfl, B13⟩
      go_wp2_with fail
      go_ret
      exact ⟨rfl, then_ B07 (then_ B8 (then_ B9 (then_ B10 (then_ B11 (then_ B12 B13)))))⟩
end Go.Proofs.YtlmjlfbmdjaciaaDoor
