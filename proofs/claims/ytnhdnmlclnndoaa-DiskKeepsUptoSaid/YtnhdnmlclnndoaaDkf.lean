/- Layer 10: Used, Names. -/
import Derived.Test.YtnhdnmlclnndoaaDke
set_option linter.unusedSimpArgs false
set_option linter.unusedVariables false
namespace Go.Proofs.Ytnhdnmlclnndoaa.Gm
open Go Go.RowKit Go.Maps
attribute [local go_sem ↓] Go.wp_at_zero Go.wp_at_succ

theorem below_turned {w a b : World} {T : Nat} (h : a.grownBy b (some T)) (hw : w.heap.size ≤ a.heap.size) (hT : w.heap.size ≤ T) : Below w.heap.size a b :=
  ⟨h.os, h.tape, h.output, h.size, fun k hk => h.block k (by omega) (by rintro he; have := Option.some.inj he; omega)⟩
theorem used_none10 (w : World) : Calls Try.prog 46 #[.pointer none] w (Gives (.int .i64 0) w) := by
  have HM := Lib.hid (fun W => don_none W)
  go_enter Try.func46, Try.ntmps46
  go_wp2_with fail
  refine (HM.out _).mono ?_; rintro e w1 ⟨rfl, b1⟩
  have HB := Lib.hid b1
  clear b1
  go_wp2_with fail
  go_ret
  exact ⟨rfl, HB.out⟩
theorem namesN_none (w : World) : Calls Try.prog 19 #[.pointer none] w (Gives (.slice none 0 0) w) := by
  have HM := Lib.hid (fun W => don_none W)
  go_enter Try.func19, Try.ntmps19
  go_wp2_with fail
  refine (HM.out _).mono ?_; rintro e w1 ⟨rfl, b1⟩
  have HB := Lib.hid b1
  clear b1
  go_wp2_with fail
  go_ret
  exact ⟨rfl, HB.out⟩
section
variable {B g bm t nn : Nat} {w : World} {D : DataW Value} {L : List Ent} {q fu : Int} {off : Bool}
theorem Names_off (h : Dsk B g bm t nn w D L q fu true) : Calls Try.prog 19 #[.pointer (some ⟨g, 0, none⟩)] w (Gives (.slice none 0 0) w) := by
  have HM := Lib.hid (don_yes g bm q fu true w h.blk)
  clear h
  go_enter Try.func19, Try.ntmps19
  go_wp2_with fail
  refine HM.out.mono ?_; rintro e w1 ⟨rfl, b1⟩
  have HB := Lib.hid b1
  clear b1
  go_wp2_with fail
  go_ret
  exact ⟨rfl, HB.out⟩
theorem Names_on (h : Dsk B g bm t nn w D L q fu false) : Calls Try.prog 19 #[.pointer (some ⟨g, 0, none⟩)] w (NamesR L w) := by
  have HM := Lib.hid (don_yes g bm q fu false w h.blk)
  have HN := Lib.hid (fun W hb => names_any (h.later (w' := W) hb))
  clear h
  go_enter Try.func19, Try.ntmps19
  go_wp2_with fail
  refine HM.out.mono ?_; rintro e w1 ⟨rfl, b1⟩
  have HB := Lib.hid b1
  clear b1
  go_wp2_with fail
  refine (HN.out _ HB.out).mono ?_; rintro e w2 ⟨v, rfl, hO, b2⟩
  have HR : Hid (NamesR L w (.returned v) w2) := Lib.hid ⟨v, rfl, own_low10 hO HB.out.size, then_ HB.out b2⟩
  clear hO b2
  go_wp2_with fail
  go_ret
  exact HR.out
theorem Used_off (h : Dsk B g bm t nn w D L q fu true) : Calls Try.prog 46 #[.pointer (some ⟨g, 0, none⟩)] w (Gives (.int .i64 0) w) := by
  have HM := Lib.hid (don_yes g bm q fu true w h.blk)
  clear h
  go_enter Try.func46, Try.ntmps46
  go_wp2_with fail
  refine HM.out.mono ?_; rintro e w1 ⟨rfl, b1⟩
  have HB := Lib.hid b1
  clear b1
  go_wp2_with fail
  go_ret
  exact ⟨rfl, HB.out⟩
theorem tot_part (L : List Ent) (p : Ent → Bool) : totE (L.filter p) ≤ totE L := by
  induction L with
  | nil => simp [totE]
  | cons e L ih =>
    rw [List.filter_cons, tot_cons]
    split
    · rw [tot_cons]; omega
    · omega
theorem len_le_tot {L : List Ent} {e : Ent} (h : e ∈ L) : e.2.b.length ≤ totE L := by
  induction L with
  | nil => cases h
  | cons x L ih =>
    rw [tot_cons]
    rcases List.mem_cons.1 h with rfl | h
    · omega
    · have := ih h; omega
theorem wrap_add10 {a b : Nat} (h : a + b ≤ 8388608) : wrap64 ((a : Int) + (b : Int)) = ((a + b : Nat) : Int) := by
  unfold wrap64; omega
set_option maxHeartbeats 4000000 in
set_option maxRecDepth 100000 in
theorem Used_on (h : Dsk B g bm t nn w D L q fu false) : Calls Try.prog 46 #[.pointer (some ⟨g, 0, none⟩)] w (Gives (.int .i64 (totE L : Nat)) w) := by
  have HM := Lib.hid (don_yes g bm q fu false w h.blk)
  have HX := Lib.hid h
  clear h
  go_enter Try.func46, Try.ntmps46
  go_wp2_with fail
  refine HM.out.mono ?_; rintro e w1 ⟨rfl, b1⟩
  have HX1 := Lib.hid (HX.out.later b1)
  have HB1 := Lib.hid b1
  have h0 := HX1.out.blk.cell 0 rfl
  have hl := HX1.out.blk.lt
  have hoP := HX1.out.map
  clear b1 HX
  go_wp2_with (first | (at_range; refine wpList_range_own _ rfl _ 63 rfl 9 83 (Maps.string_keyed Try.underlying9) Try.underlying63 idElem bm nn D rfl hoP ?_; intro w6 hrg6 hg6 hs6) | fail)
  obtain ⟨r, hr⟩ : ∃ r, w1.heap.size = r := ⟨_, rfl⟩
  rw [hr] at hrg6 hs6 ⊢
  have hb6 : Below w1.heap.size w1 w6 := ⟨hg6.os, hg6.tape, hg6.output, hg6.size, fun k hk => hg6.block k hk (by simp)⟩
  have HB6 := Lib.hid (then_ HB1.out hb6)
  have HX6 := Lib.hid (HX1.out.later hb6)
  have HRW : Hid (w1.heap.size = r) := Lib.hid hr
  have HRG6 := Lib.hid hrg6
  have HS6 := Lib.hid hs6
  have HB16 := Lib.hid hb6
  have HU0 : Hid (usedOf (Maps.has D) L = 0) := Lib.hid (used_none fun e he => by
    have hm := HX1.out.may e he
    unfold mayNm at hm
    simp only [Bool.and_eq_true, decide_eq_true_eq] at hm
    rw [HX1.out.has e.1 (by unfold maxLen; omega), pick_of HX1.out.uniq he]; rfl)
  clear hrg6 hg6 hs6 hb6 hr hoP h0 hl
  go_frame
  go_loopw [3, 5] (fun u _ wr => ∃ (left : Lit → Bool) (cnt n : Nat), u = .int .i64 (n : Nat) ∧ n ≤ 4194304 ∧ Hid (wr.ranges Try.prog 9 idElem bm r nn D left cnt ∧ (∀ z, left z = true → Maps.has D z = true)) ∧ Hid (usedOf left L = n) ∧ Hid (Below w1.heap.size w1 wr)) (fun _ _ wr => wr.rangeLeft bm r)
  case atStart => exact ⟨_, _, 0, rfl, by omega, Lib.hid ⟨HRG6.out, fun _ h => h⟩, HU0, HB16⟩
  case round =>
    obtain ⟨left, cnt, n, rfl, hn, HRG, HU, HBr⟩ := hrel
    clear HRG6 HX6 HU0
    have hrg := HRG.out.1
    go_wp2_with (first | (at_next; refine wpList_next_ranges _ rfl _ rfl 9 (Maps.string_keyed Try.underlying9) idElem Value.string id (fun key kl hkey => by obtain ⟨x', rfl, _⟩ := WideMaps.string_of_keyOf Try.underlying9 hkey; exact ⟨x', rfl⟩) (fun v y _ => ⟨v, rfl⟩) bm r nn D left cnt rfl hrg ?_ ?_) | fail)
    · intro hc0 hl0
      have HE : Hid (totE L = n) := Lib.hid ((used_all hl0).symm.trans HU.out)
      clear hc0 hl0 hrg
      go_wp2_with fail
      go_ret
      exact ⟨ret_int (by rw [HE.out]), then_ HB1.out HBr.out⟩
    · intro i c kl y ps w7 cnt' hki hlk hRc hat hrg7 hlt hg7 hs7 hen
      obtain ⟨s, hs, rfl, hsz⟩ := WideMaps.string_of_keyOf Try.underlying9 hki
      injection hs with hs
      subst hs
      obtain ⟨nm, hnm⟩ : ∃ nm, i.data.toList = nm := ⟨_, rfl⟩
      rw [hnm] at hlk hat hrg7
      have hnl : nm.length ≤ maxLen := by rw [← hnm, Array.length_toList]; exact hsz
      have hh := HX1.out.has nm hnl
      rw [HRG.out.2 _ hlk] at hh
      obtain ⟨x, hx⟩ : ∃ x, pickE L nm = some x := by
        cases h : pickE L nm with
        | none => rw [h] at hh; cases hh
        | some x => exact ⟨x, rfl⟩
      have hm := pick_mem hx
      have hy := idElem_eq hRc
      have ha := HX1.out.at_ _ hm (.pointer none |> DataW.held)
      rw [hat _, hy] at ha
      have hcv : c = .pointer (some ⟨x.f, 0, none⟩) := DataW.held.inj ha
      subst hcv
      have hb7 : Below w1.heap.size wr w7 := below_turned hg7 HBr.out.size (Nat.le_of_eq HRW.out)
      have HB7 := Lib.hid (HBr.out.trans hb7)
      have hfil := (HX1.out.later HB7.out).fil _ hm
      have hbk := hfil.1
      obtain ⟨xf, xp, xc, xb, xs⟩ := x
      simp only [Fl.v] at hbk
      have c0 := hbk.cell 0 rfl
      have hlt2 := hbk.lt
      have HU7 := Lib.hid (used_step HX1.out.uniq hm hlk)
      have HT7 : Hid (usedOf (fun z => left z && !z.sameKey (.string nm)) L ≤ 4194304) := Lib.hid (Nat.le_trans (tot_part _ _) HX1.out.tot)
      have HRG7 := Lib.hid hrg7
      have HLTS := Lib.hid (fun z (hz : (left z && !z.sameKey (.string nm)) = true) => HRG.out.2 z (by rw [Bool.and_eq_true] at hz; exact hz.1))
      have HLE : Hid (w7.rangeLeft bm r < wr.rangeLeft bm r) := Lib.hid (by rw [hrg7.left_eq, HRG.out.1.left_eq]; exact hlt)
      have hxl : xb.length ≤ 4194304 := Nat.le_trans (len_le_tot hm) HX1.out.tot
      have HN7 : Hid (n + xb.length ≤ 4194304) := Lib.hid (by have h1 := HU7.out; have h2 := HT7.out; have h3 := HU.out; simp only at h1; omega)
      obtain ⟨m, hml⟩ : ∃ m, xb.length = m := ⟨_, rfl⟩
      have HML := Lib.hid hml
      rw [hml] at c0 hxl HN7
      have hn7 := HN7.out
      clear hlk hRc hat hrg7 hlt hg7 hs7 hh hx hm hy ha hb7 hrg hfil hbk hki hnm hsz hnl hml
      go_wp2_with fail
      go_roundw
      case rel => exact ⟨_, _, n + m, by simp, by omega, Lib.hid ⟨HRG7.out, HLTS.out⟩, Lib.hid (by rw [HU7.out, HU.out, HML.out]), HB7⟩
      case measure => exact HLE.out
end
end Go.Proofs.Ytnhdnmlclnndoaa.Gm
