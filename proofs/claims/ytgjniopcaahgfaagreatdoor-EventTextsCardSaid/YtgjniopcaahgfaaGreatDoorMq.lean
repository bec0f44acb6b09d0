/- The contract of the statements' first question: the chapter's rows. -/
import Derived.Test.YtgjniopcaahgfaaGreatDoorMp
set_option linter.unusedSimpArgs false
set_option linter.unusedVariables false
namespace Go.Proofs.YtgjniopcaahgfaaGreatDoor
open Go.RowKit
attribute [local go_sem ↓] Go.wp_at_zero Go.wp_at_succ

theorem own_lit (w : World) (l : List Attr) (cs : Array Value) (n : Nat) (hc : cs = (cellsA l).toArray) (hn : l.length = n) (hl : l.length ≤ 1000) : Own (w.alloc (.cells cs 43)) w.heap.size (.slice (some ⟨w.heap.size, 0, none⟩) n n) l := by
  subst hc hn
  have := World.ownsRow_lit (base := w.heap.size) (e := 43) (size := 5) w (cellsA l).toArray l.length (Nat.le_refl _) (by unfold maxLen; omega) (by simp [cellsA_length])
  simpa [Own] using this
theorem strs_lit (w : World) (ss : List ByteArray) (cs : Array Value) (t : TypeId) (hc : cs = (ss.map Value.string).toArray) : Strs (w.alloc (.cells cs t)) w.heap.size 0 ss := by
  subst hc
  intro i hi
  have := (Blk.new w t (ss.map Value.string).toArray).cell i (u := .string (ss.getD i default)) (by simp [hi])
  simpa using this

def wkIn : List Attr := [⟨⟨#[98]⟩, 1, 2, ⟨#[]⟩, false⟩, ⟨⟨#[97]⟩, 2, 0, ⟨#[120]⟩, false⟩]
def wkEv : List Attr := [⟨⟨#[97]⟩, 2, 0, ⟨#[120]⟩, false⟩, ⟨⟨#[98]⟩, 1, 2, ⟨#[]⟩, false⟩]
def wkTx : ByteArray := ⟨#[34, 107, 34, 32, 97, 61, 34, 120, 34, 32, 98, 61, 50]⟩
def wkNo : ByteArray := ⟨#[34, 107, 34, 32, 98, 61, 50, 32, 97, 61, 49]⟩
theorem itoa_2 : Lib.itoa 2 = [50] := by
  unfold Lib.itoa
  rw [if_neg (by decide), show (2 : Int).toNat = 2 from rfl, Lib.decDigits_one (by decide)]
  rfl
theorem room_wk {l : List Attr} (h : l.all (fun a => decide (-9223372036854775808 ≤ a.n) && decide (a.n ≤ 9223372036854775807) && decide (a.nm.size ≤ 140737488351232)) = true) : Room l := by
  intro a ha
  have := List.all_eq_true.1 h a ha
  simp only [Bool.and_eq_true, decide_eq_true_eq] at this
  exact ⟨this.1, this.2⟩
theorem may_wk : mayE ⟨#[107]⟩ wkEv = true := may_of_rise (by decide) (by decide) (by decide)
theorem perm_wk : wkEv.Perm wkIn := .swap _ _ _
theorem txt_wk : txtE ⟨#[107]⟩ wkEv = wkTx.data.toList := by
  simp [txtE, wkEv, flat, attT, txt, itoa_2]
  decide
theorem ev_wk : IsEv wkTx ⟨#[107]⟩ wkEv := ⟨may_wk, (room_wk (by decide)).fits, txt_wk⟩
theorem no_wk : ∀ key l, ¬ IsEv wkNo key l := no_ev (by decide)
theorem get_b : getE wkEv ⟨#[98]⟩ = some ⟨⟨#[98]⟩, 1, 2, ⟨#[]⟩, false⟩ := by
  simp [getE, wkEv, toList_data]
theorem get_c : getE wkEv ⟨#[99]⟩ = none := by
  simp [getE, wkEv, toList_data]
theorem getV_b : getV (some ⟨⟨#[98]⟩, 1, 2, ⟨#[]⟩, false⟩) = .tuple #[val 1 2 ⟨#[]⟩ false, .bool true] := rfl
theorem getV_c : getV none = .tuple #[val 0 0 ⟨#[]⟩ false, .bool false] := rfl
theorem dup_wk : ∀ l', l'.Perm (ofK [⟨#[97]⟩, ⟨#[97]⟩] 2) → mayE ⟨#[107]⟩ l' = false := dup_no (by decide)
theorem name_wk : nameB ⟨#[97, 46, 98, 45, 99, 95, 48]⟩ = true := by decide
theorem name_A : nameB ⟨#[65]⟩ = false := by decide

set_option maxHeartbeats 8000000 in
set_option maxRecDepth 100000 in
theorem wakes_any (w : World) (hE : Env w) : Calls Tryz.prog 9 #[] w (Gives (.bool true) w) := by
  go_enter Tryz.func9, Tryz.ntmps9
  go_wp2_with fail
  refine (number_any 2 _).mono ?_; rintro e w1 ⟨rfl, b1⟩
  have E1 := hE.below b1
  go_wp2_with fail
  refine (word_any ⟨#[120]⟩ _).mono ?_; rintro e w2 ⟨rfl, b2⟩
  have E2 := E1.below b2
  have B2 := then_ b1 b2
  clear hE E1 b1 b2
  have O2 := own_lit w2 wkIn #[.string ⟨#[98]⟩, .int .i64 1, .int .i64 2, .string ⟨#[]⟩, .bool false, .string ⟨#[97]⟩, .int .i64 2, .int .i64 0, .string ⟨#[120]⟩, .bool false] 2 rfl rfl (by decide)
  have S2 := Lib.hid (O2.sl (by decide))
  have E3 := E2.alloc (.cells #[.string ⟨#[98]⟩, .int .i64 1, .int .i64 2, .string ⟨#[]⟩, .bool false, .string ⟨#[97]⟩, .int .i64 2, .int .i64 0, .string ⟨#[120]⟩, .bool false] 43)
  have B3 := B2.alloc B2.size (.cells #[.string ⟨#[98]⟩, .int .i64 1, .int .i64 2, .string ⟨#[]⟩, .bool false, .string ⟨#[97]⟩, .int .i64 2, .int .i64 0, .string ⟨#[120]⟩, .bool false] 43)
  clear O2 E2 B2
  go_wp2_with fail
  refine (make_is S2.out (room_wk (by decide)) perm_wk may_wk).mono ?_; rintro e w4 ⟨sl, rfl, hfr, b4⟩
  have E4 := E3.below b4
  have B4 := then_ B3 b4
  obtain ⟨p1, cap1, bk1, o1, rfl, hp1, hc1, hf1, _⟩ := hfr
  obtain ⟨rfl, hk1, hk2⟩ := hp1 (by decide)
  have F4 : Sl w4 (.slice (some ⟨bk1, o1, none⟩) 2 cap1) wkEv := ⟨_, cap1, bk1, o1, rfl, fun _ => ⟨rfl, hk2⟩, hc1, by decide⟩
  clear E3 B3 b4 S2 hp1 hc1 hf1
  rw [show wkEv.length = 2 from rfl]
  have K4 := Blk.new w4 24 #[.string ⟨#[107]⟩, .slice (some ⟨bk1, o1, none⟩) 2 cap1]
  have A4 : Below w4.heap.size w4 (w4.alloc (.cells #[.string ⟨#[107]⟩, .slice (some ⟨bk1, o1, none⟩) 2 cap1] 24)) := (Below.refl _ _).alloc (Nat.le_refl _) _
  have T5 : Strs ((w4.alloc (.cells #[.string ⟨#[107]⟩, .slice (some ⟨bk1, o1, none⟩) 2 cap1] 24)).alloc (.cells #[.string ⟨#[97]⟩, .string ⟨#[97]⟩] 9)) (w4.heap.size + 1) 0 [⟨#[97]⟩, ⟨#[97]⟩] := by
    have := strs_lit (w4.alloc (.cells #[.string ⟨#[107]⟩, .slice (some ⟨bk1, o1, none⟩) 2 cap1] 24)) [⟨#[97]⟩, ⟨#[97]⟩] #[.string ⟨#[97]⟩, .string ⟨#[97]⟩] 9 rfl
    simpa using this
  have A5 := A4.alloc (by simp) (.cells #[.string ⟨#[97]⟩, .string ⟨#[97]⟩] 9)
  have K5 := K4.alloc (.cells #[.string ⟨#[97]⟩, .string ⟨#[97]⟩] 9)
  have HT5 := Lib.hid T5
  have HA5 := Lib.hid A5
  have HK5 := Lib.hid K5
  have HF4 := Lib.hid F4
  have HB4 := Lib.hid B4
  clear K4 A4 T5 A5 K5 F4 B4
  go_wp2_with fail
  refine (of_any (w4.heap.size + 1) 0 2 [⟨#[97]⟩, ⟨#[97]⟩] _ (by simp) HT5.out (by decide)).mono ?_; rintro e w6 ⟨v6, rfl, hO6, b6⟩
  have HA6 := Lib.hid (HA5.out.trans (b6.mono (by simp; omega)))
  have HK6 := Lib.hid (HK5.out.below b6 HK5.out.lt)
  have hS6 := Lib.hid (hO6.sl (by decide))
  have hE6 := E4.below HA6.out
  obtain ⟨p6, cap6, rfl⟩ := own_form hO6
  clear hO6 b6 HT5 HA5 HK5 E4
  go_wp2_with fail
  refine (make_no hS6.out (room_wk (by decide)) dup_wk).mono ?_; rintro e w7 ⟨rfl, b7⟩
  have HA7 := Lib.hid ((then_ HA6.out b7).alloc (then_ HA6.out b7).size (.cells #[.string ⟨#[]⟩, .slice none 0 0] 24))
  have HK7 := Lib.hid ((HK6.out.below b7 HK6.out.lt).alloc (.cells #[.string ⟨#[]⟩, .slice none 0 0] 24))
  have hE7 := (hE6.below b7).alloc (.cells #[.string ⟨#[]⟩, .slice none 0 0] 24)
  have k0 := (HK6.out.below b7 HK6.out.lt).cell 0 (u := .string ⟨#[107]⟩) rfl
  have k1 := (HK6.out.below b7 HK6.out.lt).cell 1 (u := .slice (some ⟨bk1, o1, none⟩) 2 cap1) rfl
  have z7 := (HK6.out.below b7 HK6.out.lt).lt
  have HF7 := Lib.hid (HF4.out.below HA7.out)
  clear b7 HA6 HK6 hE6 hS6
  go_wp2_with fail
  have hT := etext_yes ⟨#[107]⟩ (.slice (some ⟨bk1, o1, none⟩) 2 cap1) wkEv _ hE7 HF7.out (room_wk (by decide)) may_wk
  rw [txt_wk, show (⟨wkTx.data.toList.toArray⟩ : ByteArray) = ⟨#[34, 107, 34, 32, 97, 61, 34, 120, 34, 32, 98, 61, 50]⟩ from rfl] at hT
  refine hT.mono ?_; rintro e w8 ⟨rfl, b8⟩
  have HA8 := Lib.hid (HA7.out.trans (b8.mono (by have := HA7.out.size; omega)))
  have HK8 := Lib.hid (HK7.out.below b8 HK7.out.lt)
  have hE8 := hE7.below b8
  have HF8 := Lib.hid (HF7.out.below b8)
  clear hT b8 HA7 HK7 hE7 HF7 k0 k1 z7
  go_wp2_with fail
  refine (parse_is hE8 (by decide) ev_wk).mono ?_; rintro e w9 ⟨sl9, rfl, hO9, b9⟩
  obtain ⟨p9, cap9, rfl⟩ := own_form hO9
  rw [show wkEv.length = 2 from rfl] at hO9 ⊢
  have HA9 := Lib.hid ((HA8.out.trans (b9.mono HA8.out.size)).alloc (HA8.out.trans (b9.mono HA8.out.size)).size (.cells #[.string ⟨#[107]⟩, .slice p9 2 cap9] 24))
  have HK9 := Lib.hid ((HK8.out.below b9 HK8.out.lt).alloc (.cells #[.string ⟨#[107]⟩, .slice p9 2 cap9] 24))
  have HM9 := Lib.hid (Blk.new w9 24 #[.string ⟨#[107]⟩, .slice p9 2 cap9])
  have hE9 := (hE8.below b9).alloc (.cells #[.string ⟨#[107]⟩, .slice p9 2 cap9] 24)
  have HF9 := Lib.hid ((HF8.out.below b9).below ((Below.refl _ w9).alloc (Nat.le_refl _) (.cells #[.string ⟨#[107]⟩, .slice p9 2 cap9] 24)))
  have HG9 := Lib.hid ((hO9.sl (by decide)).below ((Below.refl _ w9).alloc (Nat.le_refl _) (.cells #[.string ⟨#[107]⟩, .slice p9 2 cap9] 24)))
  clear hO9 b9 HA8 HK8 hE8 HF8
  go_wp2_with fail
  refine (parse_no hE9 (by decide) no_wk).mono ?_; rintro e w10 ⟨rfl, b10⟩
  have HA10 := Lib.hid ((HA9.out.trans (b10.mono HA9.out.size)).alloc (HA9.out.trans (b10.mono HA9.out.size)).size (.cells #[.string ⟨#[]⟩, .slice none 0 0] 24))
  have HK10 := Lib.hid ((HK9.out.below b10 HK9.out.lt).alloc (.cells #[.string ⟨#[]⟩, .slice none 0 0] 24))
  have HM10 := Lib.hid ((HM9.out.below b10 HM9.out.lt).alloc (.cells #[.string ⟨#[]⟩, .slice none 0 0] 24))
  have HF10 := Lib.hid ((HF9.out.below b10).below ((Below.refl _ w10).alloc (Nat.le_refl _) (.cells #[.string ⟨#[]⟩, .slice none 0 0] 24)))
  have HG10 := Lib.hid ((HG9.out.below b10).below ((Below.refl _ w10).alloc (Nat.le_refl _) (.cells #[.string ⟨#[]⟩, .slice none 0 0] 24)))
  have k0 := (HK9.out.below b10 HK9.out.lt).cell 0 (u := .string ⟨#[107]⟩) rfl
  have k1 := (HK9.out.below b10 HK9.out.lt).cell 1 (u := .slice (some ⟨bk1, o1, none⟩) 2 cap1) rfl
  have z10 := (HK9.out.below b10 HK9.out.lt).lt
  clear b10 HA9 HK9 HM9 hE9 HF9 HG9
  go_wp2_with fail
  have hg1 := eget_any ⟨#[107]⟩ (.slice (some ⟨bk1, o1, none⟩) 2 cap1) wkEv ⟨#[98]⟩ _ HF10.out
  rw [get_b, getV_b] at hg1
  refine hg1.mono ?_; rintro e w11 ⟨rfl, b11⟩
  have HA11 := Lib.hid ((HA10.out.trans (b11.mono HA10.out.size)).alloc (HA10.out.trans (b11.mono HA10.out.size)).size (.cells #[.int .i64 1, .int .i64 2, .string ⟨#[]⟩, .bool false] 40))
  have HK11 := Lib.hid ((HK10.out.below b11 HK10.out.lt).alloc (.cells #[.int .i64 1, .int .i64 2, .string ⟨#[]⟩, .bool false] 40))
  have HM11 := Lib.hid ((HM10.out.below b11 HM10.out.lt).alloc (.cells #[.int .i64 1, .int .i64 2, .string ⟨#[]⟩, .bool false] 40))
  have HV11 := Lib.hid (Blk.new w11 40 #[.int .i64 1, .int .i64 2, .string ⟨#[]⟩, .bool false])
  have HF11 := Lib.hid ((HF10.out.below b11).below ((Below.refl _ w11).alloc (Nat.le_refl _) (.cells #[.int .i64 1, .int .i64 2, .string ⟨#[]⟩, .bool false] 40)))
  have HG11 := Lib.hid ((HG10.out.below b11).below ((Below.refl _ w11).alloc (Nat.le_refl _) (.cells #[.int .i64 1, .int .i64 2, .string ⟨#[]⟩, .bool false] 40)))
  have k0' := (HK10.out.below b11 HK10.out.lt).cell 0 (u := .string ⟨#[107]⟩) rfl
  have k1' := (HK10.out.below b11 HK10.out.lt).cell 1 (u := .slice (some ⟨bk1, o1, none⟩) 2 cap1) rfl
  have z11 := (HK10.out.below b11 HK10.out.lt).lt
  clear b11 HA10 HK10 HM10 HF10 HG10 hg1 k0 k1 z10
  go_wp2_with fail
  have hg2 := eget_any ⟨#[107]⟩ (.slice (some ⟨bk1, o1, none⟩) 2 cap1) wkEv ⟨#[99]⟩ _ HF11.out
  rw [get_c, getV_c] at hg2
  refine hg2.mono ?_; rintro e w12 ⟨rfl, b12⟩
  have HA12 := Lib.hid ((HA11.out.trans (b12.mono HA11.out.size)).alloc (HA11.out.trans (b12.mono HA11.out.size)).size (.cells #[.int .i64 0, .int .i64 0, .string ⟨#[]⟩, .bool false] 40))
  have HF12 := Lib.hid ((HF11.out.below b12).below ((Below.refl _ w12).alloc (Nat.le_refl _) (.cells #[.int .i64 0, .int .i64 0, .string ⟨#[]⟩, .bool false] 40)))
  have HG12 := Lib.hid ((HG11.out.below b12).below ((Below.refl _ w12).alloc (Nat.le_refl _) (.cells #[.int .i64 0, .int .i64 0, .string ⟨#[]⟩, .bool false] 40)))
  have HK12 := HK11.out.below b12 HK11.out.lt
  have HM12 := HM11.out.below b12 HM11.out.lt
  have HV12 := HV11.out.below b12 HV11.out.lt
  have j0 := HK12.cell 0 (u := .string ⟨#[107]⟩) rfl
  have j1 := HK12.cell 1 (u := .slice (some ⟨bk1, o1, none⟩) 2 cap1) rfl
  have j2 := HM12.cell 0 (u := .string ⟨#[107]⟩) rfl
  have j3 := HM12.cell 1 (u := .slice p9 2 cap9) rfl
  have j4 := HV12.cell 1 (u := .int .i64 2) rfl
  have y1 := HK12.lt
  have y2 := HM12.lt
  have y3 := HV12.lt
  have x0 : w12.cell? ⟨bk1, o1, none⟩ = some (.string ⟨#[97]⟩) := by
    obtain ⟨p', cap', b', o', hh, hp', hc', _⟩ := HF11.out.below b12
    obtain ⟨rfl, _⟩ := hp' (by decide)
    simp only [Value.slice.injEq, Option.some.injEq, Addr.mk.injEq, and_true] at hh
    obtain ⟨⟨rfl, rfl⟩, _⟩ := hh
    exact hc' 0 (by decide) 0 (.string ⟨#[97]⟩) rfl
  have hbk : bk1 < w12.heap.size := World.block_lt_of_cell? w12 ⟨bk1, o1, none⟩ x0
  have hidx := index_attr (some ⟨bk1, o1, none⟩) bk1 o1 2 cap1 0 rfl (by decide)
  clear b12 HA11 HK11 HM11 HV11 HF11 HG11 hg2 k0' k1' z11 HK12 HM12 HV12
  have hsm := esame_any ⟨#[107]⟩ ⟨#[107]⟩ _ _ wkEv wkEv _ HF12.out HG12.out
  rw [(sameB_iff ⟨#[107]⟩ wkEv ⟨#[107]⟩ wkEv).2 ⟨rfl, rfl⟩] at hsm
  have HSm := Lib.hid hsm
  clear hsm
  go_wp2_with fail
  refine HSm.out.mono ?_; rintro e w13 ⟨rfl, b13⟩
  have j4' : w13.cell? ⟨w11.heap.size, 1, none⟩ = some (.int .i64 2) := by rw [b13.cell (p := ⟨w11.heap.size, 1, none⟩) (by show w11.heap.size < _; simp; omega), World.cell?_alloc_lt _ _ _ y3]; exact j4
  have HB13 := Lib.hid (then_ HB4.out (HA12.out.trans (b13.mono HA12.out.size)))
  clear b13 HA12 HF12 HG12 HSm j0 j1 j2 j3 j4 y1 y2 y3 x0 hbk
  have hn1 := name_any ⟨#[97, 46, 98, 45, 99, 95, 48]⟩ (by decide) w13
  rw [name_wk] at hn1
  have hn2 := name_any ⟨#[65]⟩ (by decide) w13
  rw [name_A] at hn2
  go_wp2_with fail
  refine hn1.mono ?_; rintro e w14 ⟨rfl, rfl⟩
  go_wp2_with fail
  refine hn2.mono ?_; rintro e w15 ⟨rfl, rfl⟩
  go_wp2_with fail
  go_ret
  exact ⟨rfl, HB13.out⟩
end Go.Proofs.YtgjniopcaahgfaaGreatDoor
