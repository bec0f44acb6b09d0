/- The walk of EventKnown: the statement's function returns true, and writes nothing that was there. -/
import Derived.Test.YtgjniopcaahgfaaDoorLeb
set_option linter.unusedSimpArgs false
set_option linter.unusedVariables false
namespace Go.Proofs.YtgjniopcaahgfaaDoor
open Go.RowKit
attribute [local go_sem ↓] Go.wp_at_zero Go.wp_at_succ

def bads : List ByteArray := [⟨#[]⟩, ⟨#[107]⟩, ⟨#[34, 107]⟩, ⟨#[34, 107, 34, 32]⟩, ⟨#[34, 107, 34, 32, 32, 97, 61, 49]⟩, ⟨#[34, 107, 34, 32, 97, 61, 49, 32]⟩, ⟨#[34, 107, 34, 32, 97]⟩, ⟨#[34, 107, 34, 32, 61, 49]⟩, ⟨#[34, 107, 34, 32, 65, 61, 49]⟩, ⟨#[34, 107, 34, 32, 97, 61, 48, 49]⟩,
  ⟨#[34, 107, 34, 32, 97, 61, 49, 32, 97, 61, 50]⟩, ⟨#[34, 107, 34, 32, 98, 61, 49, 32, 97, 61, 50]⟩, ⟨#[53, 32, 97, 61, 49]⟩, ⟨#[34, 107, 34, 97, 61, 49]⟩]
theorem bads_no : ∀ k, k < 14 → chk (bads.getD k default).data.toList = false := by decide
theorem bads_size : ∀ k, k < 14 → (bads.getD k default).size ≤ 140737488351232 := by decide
theorem bads_at (k : Nat) (h : k < 14) : (bads.map Value.string).toArray[k]? = some (.string (bads.getD k default)) := by
  have hl : k < bads.length := h
  simp [List.getD_eq_getElem?_getD, List.getElem?_eq_getElem hl]
def n8 : List ByteArray := [⟨#[97]⟩, ⟨#[98]⟩, ⟨#[99]⟩, ⟨#[100]⟩, ⟨#[101]⟩, ⟨#[102]⟩, ⟨#[103]⟩, ⟨#[104]⟩]
def n9 : List ByteArray := [⟨#[97]⟩, ⟨#[98]⟩, ⟨#[99]⟩, ⟨#[100]⟩, ⟨#[101]⟩, ⟨#[102]⟩, ⟨#[103]⟩, ⟨#[104]⟩, ⟨#[105]⟩]
def n17 : List ByteArray := [⟨#[97, 98, 99, 100, 101, 102, 103, 104, 105, 106, 107, 108, 109, 110, 111, 112, 113]⟩]
theorem may_n8 : mayE ⟨#[48, 49, 50, 51, 52, 53, 54, 55, 56, 57, 97, 98, 99, 100, 101, 102]⟩ (ofK n8 8) = true := may_of_rise (by decide) (by decide) (by decide)
theorem no_n9 : ∀ l', l'.Perm (ofK n9 9) → mayE ⟨#[]⟩ l' = false := long_no (by decide)
theorem no_n17 : ∀ l', l'.Perm (ofK n17 1) → mayE ⟨#[]⟩ l' = false := bad_no (a := ⟨⟨#[97, 98, 99, 100, 101, 102, 103, 104, 105, 106, 107, 108, 109, 110, 111, 112, 113]⟩, 1, 0, ⟨#[]⟩, false⟩) (by simp [ofK, n17]) (by decide)
theorem no_n0 : ∀ l', l'.Perm (ofK [⟨#[]⟩] 1) → mayE ⟨#[]⟩ l' = false := bad_no (a := ⟨⟨#[]⟩, 1, 0, ⟨#[]⟩, false⟩) (by simp [ofK]) (by decide)
theorem no_a : ∀ l', l'.Perm [⟨⟨#[97]⟩, 0, 0, ⟨#[]⟩, false⟩] → mayE ⟨#[]⟩ l' = false := bad_no (a := ⟨⟨#[97]⟩, 0, 0, ⟨#[]⟩, false⟩) (by simp) (by decide)
theorem no_k17 : ∀ l', l'.Perm ([] : List Attr) → mayE ⟨#[48, 49, 50, 51, 52, 53, 54, 55, 56, 57, 97, 98, 99, 100, 101, 102, 103]⟩ l' = false := key_no (by decide)
def evT : List Attr := [⟨⟨#[97]⟩, 2, 0, ⟨#[32, 61, 34]⟩, false⟩, ⟨⟨#[98]⟩, 3, 0, ⟨#[]⟩, true⟩]
theorem ev_T : IsEv ⟨#[34, 34, 32, 97, 61, 34, 32, 61, 92, 34, 34, 32, 98, 61, 116, 114, 117, 101]⟩ ⟨#[]⟩ evT := by
  refine ⟨may_of_rise (by decide) (by decide) (by decide), (room_wk (by decide)).fits, ?_⟩
  simp [txtE, evT, flat, attT, txt, formatBool_true]
  decide
theorem ev_K : IsEv ⟨#[34, 97, 32, 98, 34]⟩ ⟨#[97, 32, 98]⟩ [] := by
  refine ⟨may_of_rise (by decide) (by decide) (by decide), fun a ha => by simp at ha, ?_⟩
  simp [txtE, flat, txt]
  decide
theorem may_nil : mayE ⟨#[]⟩ [] = true := may_of_rise (by decide) (by decide) (by decide)
theorem emay_nil (w : World) : Calls Tryd.prog 12 #[.agg #[.string ⟨#[]⟩, .slice none 0 0]] w (Gives (.bool true) w) := by
  have h := emay_any ⟨#[]⟩ (.slice none 0 0) [] w (sl_nil w) (fun a ha => by simp at ha)
  rwa [may_nil] at h
/-- A helper's call on a list of texts laid just now, and the making of what it gives. -/
theorem of_lit (ss : List ByteArray) (n : Nat) (hn : ss.length = n) (hs : n ≤ 1000) (cs : Array Value) (t : TypeId) (hc : cs = (ss.map Value.string).toArray) (w : World) (H : Nat) (hH : w.heap.size = H) :
    Calls Tryd.prog 20 #[.slice (some ⟨H, 0, none⟩) n n] (w.alloc (.cells cs t)) fun e w' => ∃ p cap, e = .returned (.slice p n cap) ∧ Sl w' (.slice p n cap) (ofK ss n) ∧ Below w.heap.size w w' := by
  subst hH hn
  refine (of_any w.heap.size 0 ss.length ss _ (by simp) (strs_lit w ss cs t hc) hs).mono fun e w' ⟨v, he, hO, hb⟩ => ?_
  obtain ⟨p, cap, rfl⟩ := own_form hO
  rw [ofK_length] at he hO
  exact ⟨p, cap, he, hO.sl (by rw [ofK_length]; omega), below_new hb⟩

set_option maxHeartbeats 8000000 in
set_option maxRecDepth 100000 in
theorem law_eknown (w : World) (hE : Env w) : Calls Tryd.prog 6 #[] w (Gives (.bool true) w) := by
  go_enter Tryd.func6, Tryd.ntmps6
  go_wp2_with fail
  go_loopw [2] (fun i wr => ∃ k : Nat, k ≤ 14 ∧ i = .int .i64 k ∧ Below w.heap.size w wr ∧ Env wr ∧ Blk wr w.heap.size 46 (bads.map Value.string).toArray) (fun i _ => 14 - (intOf i).toNat)
  case atStart => exact ⟨0, by decide, rfl, (Below.refl _ _).alloc (Nat.le_refl _) _, hE.alloc _, Blk.new _ _ _⟩
  case round =>
    obtain ⟨k, hk, rfl, hbel, hEr, hblk⟩ := hrel
    by_cases hkl : k < 14
    · have hc : wr.cell? ⟨w.heap.size, k, none⟩ = some (.string (bads.getD k default)) := hblk.cell k (bads_at k hkl)
      have hz := bads_size k hkl
      have hno := no_ev (bads_no k hkl)
      obtain ⟨x, hx⟩ : ∃ x, bads.getD k default = x := ⟨_, rfl⟩
      rw [hx] at hc hz hno
      have HZ := Lib.hid hz
      have HNo := Lib.hid hno
      clear hx hz hno
      go_wp2_with fail
      refine (parse_no hEr HZ.out HNo.out).mono ?_; rintro e w1 ⟨rfl, b1⟩
      have B1 := then_ hbel b1
      have E1 := hEr.below b1
      have K1 := hblk.below b1 hblk.lt
      clear hbel b1 hEr hblk hc
      go_wp2_with fail
      go_roundw
      case rel => exact ⟨k + 1, by omega, by simp, B1.alloc B1.size _, E1.alloc _, K1.alloc _⟩
      case measure => simp [intOf]; omega
    · have hke : k = 14 := by omega
      subst hke
      clear hblk
      go_wp2_with fail
      refine (of_lit n8 8 rfl (by decide) _ _ rfl wr wr.heap.size rfl).mono ?_; rintro e w1 ⟨p1, cap1, rfl, S1, b1⟩
      have HS1 := Lib.hid S1
      have B1 := then_ hbel b1
      have E1 := hEr.below b1
      clear hbel hEr b1 S1
      go_wp2_with fail
      refine (make_is HS1.out (room_wk (by decide)) (.refl _) may_n8).mono ?_; rintro e w2 ⟨sl2, rfl, hfr2, b2⟩
      obtain ⟨p2, cap2, rfl⟩ := sl_form hfr2.sl
      have B2 := then_ B1 b2
      have E2 := E1.below b2
      clear b2 B1 E1 HS1 hfr2
      go_wp2_with fail
      have B2' := B2.alloc B2.size (.cells #[.string ⟨#[48, 49, 50, 51, 52, 53, 54, 55, 56, 57, 97, 98, 99, 100, 101, 102]⟩, .slice p2 (ofK n8 8).length cap2] 24)
      have E2' := E2.alloc (.cells #[.string ⟨#[48, 49, 50, 51, 52, 53, 54, 55, 56, 57, 97, 98, 99, 100, 101, 102]⟩, .slice p2 (ofK n8 8).length cap2] 24)
      clear B2 E2
      refine (make_no (sl_nil _) (room_wk (by decide)) no_k17).mono ?_; rintro e w3 ⟨rfl, b3⟩
      have B3 := (then_ B2' b3).alloc (then_ B2' b3).size (.cells #[.string ⟨#[]⟩, .slice none 0 0] 24)
      have E3 := (E2'.below b3).alloc (.cells #[.string ⟨#[]⟩, .slice none 0 0] 24)
      clear b3 B2' E2'
      go_wp2_with fail
      refine (of_lit n9 9 rfl (by decide) _ _ rfl (w3.alloc (.cells #[.string ⟨#[]⟩, .slice none 0 0] 24)) (w3.heap.size + 1) (by simp)).mono ?_; rintro e w4 ⟨p4, cap4, rfl, S4, b4⟩
      have HS4 := Lib.hid S4
      have B4 := B3.trans (b4.mono B3.size)
      have E4 := E3.below b4
      clear b4 B3 E3 S4
      go_wp2_with fail
      refine (make_no HS4.out (room_wk (by decide)) no_n9).mono ?_; rintro e w5 ⟨rfl, b5⟩
      have B5 := (then_ B4 b5).alloc (then_ B4 b5).size (.cells #[.string ⟨#[]⟩, .slice none 0 0] 24)
      have E5 := (E4.below b5).alloc (.cells #[.string ⟨#[]⟩, .slice none 0 0] 24)
      clear b5 B4 E4
      go_wp2_with fail
      refine (of_lit n17 1 rfl (by decide) _ _ rfl (w5.alloc (.cells #[.string ⟨#[]⟩, .slice none 0 0] 24)) (w5.heap.size + 1) (by simp)).mono ?_; rintro e w6 ⟨p6, cap6, rfl, S6, b6⟩
      have HS6 := Lib.hid S6
      have B6 := B5.trans (b6.mono B5.size)
      have E6 := E5.below b6
      clear b6 B5 E5 S6
      go_wp2_with fail
      refine (make_no HS6.out (room_wk (by decide)) no_n17).mono ?_; rintro e w7 ⟨rfl, b7⟩
      have B7 := (then_ B6 b7).alloc (then_ B6 b7).size (.cells #[.string ⟨#[]⟩, .slice none 0 0] 24)
      have E7 := (E6.below b7).alloc (.cells #[.string ⟨#[]⟩, .slice none 0 0] 24)
      clear b7 B6 E6
      go_wp2_with fail
      refine (of_lit [⟨#[]⟩] 1 rfl (by decide) _ _ rfl (w7.alloc (.cells #[.string ⟨#[]⟩, .slice none 0 0] 24)) (w7.heap.size + 1) (by simp)).mono ?_; rintro e w8 ⟨p8, cap8, rfl, S8, b8⟩
      have HS8 := Lib.hid S8
      have B8 := B7.trans (b8.mono B7.size)
      have E8 := E7.below b8
      clear b8 B7 E7 S8
      go_wp2_with fail
      refine (make_no HS8.out (room_wk (by decide)) no_n0).mono ?_; rintro e w9 ⟨rfl, b9⟩
      have B9 := (then_ B8 b9).alloc (then_ B8 b9).size (.cells #[.string ⟨#[]⟩, .slice none 0 0] 24)
      have E9 := (E8.below b9).alloc (.cells #[.string ⟨#[]⟩, .slice none 0 0] 24)
      clear b9 B8 E8
      go_wp2_with fail
      have O9 := own_lit (w9.alloc (.cells #[.string ⟨#[]⟩, .slice none 0 0] 24)) [⟨⟨#[97]⟩, 0, 0, ⟨#[]⟩, false⟩] #[.string ⟨#[97]⟩, .int .i64 0, .int .i64 0, .string ⟨#[]⟩, .bool false] 1 rfl rfl (by decide)
      have S9 : Sl ((w9.alloc (.cells #[.string ⟨#[]⟩, .slice none 0 0] 24)).alloc (.cells #[.string ⟨#[97]⟩, .int .i64 0, .int .i64 0, .string ⟨#[]⟩, .bool false] 34)) (.slice (some ⟨w9.heap.size + 1, 0, none⟩) 1 1) [⟨⟨#[97]⟩, 0, 0, ⟨#[]⟩, false⟩] := by simpa using O9.sl (by decide)
      have B9' := B9.alloc B9.size (.cells #[.string ⟨#[97]⟩, .int .i64 0, .int .i64 0, .string ⟨#[]⟩, .bool false] 34)
      have E9' := E9.alloc (.cells #[.string ⟨#[97]⟩, .int .i64 0, .int .i64 0, .string ⟨#[]⟩, .bool false] 34)
      clear O9 B9 E9
      refine (make_no S9 (room_wk (by decide)) no_a).mono ?_; rintro e w10 ⟨rfl, b10⟩
      have B10 := (then_ B9' b10).alloc (then_ B9' b10).size (.cells #[.string ⟨#[]⟩, .slice none 0 0] 24)
      have E10 := (E9'.below b10).alloc (.cells #[.string ⟨#[]⟩, .slice none 0 0] 24)
      clear b10 B9' E9' S9
      go_wp2_with fail
      refine (parse_is E10 (by decide) ev_T).mono ?_; rintro e w11 ⟨sl11, rfl, hO11, b11⟩
      obtain ⟨p11, cap11, rfl⟩ := own_form hO11
      rw [show evT.length = 2 from rfl] at hO11 ⊢
      have B11 := (B10.trans (b11.mono B10.size)).alloc (B10.trans (b11.mono B10.size)).size (.cells #[.string ⟨#[]⟩, .slice p11 2 cap11] 24)
      have E11 := (E10.below b11).alloc (.cells #[.string ⟨#[]⟩, .slice p11 2 cap11] 24)
      have T11 := Blk.new w11 24 #[.string ⟨#[]⟩, .slice p11 2 cap11]
      have S11 := (hO11.sl (by decide)).below ((Below.refl _ w11).alloc (Nat.le_refl _) (.cells #[.string ⟨#[]⟩, .slice p11 2 cap11] 24))
      have HT11 := Lib.hid T11
      have HS11 := Lib.hid S11
      clear b11 B10 E10 hO11 T11 S11
      go_wp2_with fail
      refine (parse_is E11 (by decide) ev_K).mono ?_; rintro e w12 ⟨sl12, rfl, hO12, b12⟩
      obtain ⟨p12, cap12, rfl⟩ := own_form hO12
      have B12 := Lib.hid ((B11.trans (b12.mono B11.size)).alloc (B11.trans (b12.mono B11.size)).size (.cells #[.string ⟨#[97, 32, 98]⟩, .slice p12 0 cap12] 24))
      have E12 := Lib.hid ((E11.below b12).alloc (.cells #[.string ⟨#[97, 32, 98]⟩, .slice p12 0 cap12] 24))
      have T12 := HT11.out.below b12 HT11.out.lt
      have t1 := T12.cell 1 (u := .slice p11 2 cap11) rfl
      have y1 := T12.lt
      have S12 := HS11.out.below b12
      clear b12 B11 E11 HT11 HS11 hO12 T12
      obtain ⟨pp, cc, bk, ok, hv, hp, hC, hbg⟩ := S12
      obtain ⟨rfl, hbk⟩ := hp (by decide)
      simp only [Value.slice.injEq] at hv
      obtain ⟨rfl, hl2, rfl⟩ := hv
      have hi0 := index_attr (some ⟨bk, ok, none⟩) bk ok 2 cap11 0 rfl (by decide)
      have hi1 := index_attr (some ⟨bk, ok, none⟩) bk ok 2 cap11 1 rfl (by decide)
      have q0 : w12.cell? ⟨bk, ok + 3, none⟩ = some (.string ⟨#[32, 61, 34]⟩) := hC 0 (by decide) 3 _ rfl
      have q1 : w12.cell? ⟨bk, ok + 5 + 4, none⟩ = some (.bool true) := hC 1 (by decide) 4 _ rfl
      clear hp hC hl2 hbg
      go_wp2_with fail
      clear t1 q0 q1 hi0 hi1 y1 hbk
      refine (emay_nil _).mono ?_; rintro e w13 ⟨rfl, b13⟩
      have HB13 := Lib.hid (B12.out.trans (b13.mono B12.out.size))
      have E13 := E12.out.below b13
      clear b13 B12 E12
      go_wp2_with fail
      refine (wakes_any _ E13).mono ?_; rintro e w14 ⟨rfl, b14⟩
      have HB14 := Lib.hid (then_ HB13.out b14)
      clear b14
      go_wp2_with fail
      go_ret
      exact ⟨rfl, HB14.out⟩
end Go.Proofs.YtgjniopcaahgfaaDoor
