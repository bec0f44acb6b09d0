/- Layer 10: what a call's errors come to: ask, for each closure. -/
import Derived.Test.YtmbfhmjcphoddaaGreatDoorDkd
import Derived.Shelf.AbstractIn
import Derived.Shelf.SlIter.Nil
import Derived.Shelf.SlGeneric
import Derived.Ground.GgzProg
import Derived.Lib.OwnBridge
/- Layer 10: the names of a disk's files; how many bytes they have. -/
set_option linter.unusedSimpArgs false
set_option linter.unusedVariables false
namespace Go.Proofs.YtmbfhmjcphoddaaGreatDoor.Gm
open Go Go.RowKit Go.Maps Go.Sort Go.Shelf
attribute [local go_sem ↓] Go.wp_at_zero Go.wp_at_succ

theorem sorts_any (m : Nat) : AnyZ.SortsIn Tryz.prog Tryz.sortedS_ren Fence.wide m :=
  ⟨fun blk off cap ss W hH hblk hsz => callsIn_wide.2 (Tryz.slices_Sort_string blk off cap ss W hH hblk hsz),
   fun p cap W => callsIn_wide.2 (Tryz.slices_Sort_string_none p cap W)⟩
def SortedR (D0 : DataW Value) (w : World) (e : Ending) (w' : World) : Prop :=
  ∃ (v : Value) (ss : List (List UInt8)), e = .returned v ∧ ss.Perm (strKeys D0) ∧ w'.ownsRow w.heap.size 9 1 v ss.length ((ss.mergeSort (fun x y => decide (x ≤ y))).map encStr) ∧ (v = .slice none 0 0 ↔ ss = []) ∧ Below w.heap.size w w'
set_option maxHeartbeats 1000000 in
theorem sorted_keys (b nn : Nat) (D0 : DataW Value) (w : World) (hown : w.ownsMap Tryz.prog 9 idElem b nn D0) (hmax : Maps.size D0 ≤ maxLen) (hbytes : Maps.size D0 * 16 ≤ 140737488355328) (g : Nat) (hg : w.cell? ⟨g, 0, none⟩ = some (.map (some b))) (hgl : g < w.heap.size) (hgb : g ≠ b) :
    Calls Tryz.prog 64 #[.func (.func 87) #[] #[.pointer (some ⟨g, 0, none⟩)]] w (SortedR D0 w) := by
  refine (callsIn_wide (n := 5)).1 ?_
  have hseq : SeqGives Fence.wide 2 Tryz.prog 87 #[.pointer (some ⟨g, 0, none⟩)] encStr (fun ss => ss.Perm (strKeys D0)) (Maps.size D0) w :=
    AnyZ.keys_gives (ρ := Tryz.keysS_ren) { Tryz.keysS with } Fence.wide _ trivial rfl (by omega) g b nn D0 _ hgl hg hown
  exact AnyZ.sorted_in Tryz.sortedS Fence.wide 5 trivial trivial trivial trivial rfl (by omega) (sorts_any _) (enters_of Tryz.func86 (by kernel_rfl) rfl) 87 #[.pointer (some ⟨g, 0, none⟩)] trivial (enters_of Tryz.func87 (by kernel_rfl) rfl) _ _ hmax hbytes _ hseq
theorem keys_any (mb : Option Nat) (W : World) : Calls Tryz.prog 65 #[.map mb] W fun e w' => e = .returned (.func (.func 87) #[] #[.pointer (some ⟨W.heap.size, 0, none⟩)]) ∧ w' = W.alloc (.cells #[.map mb] 48) :=
  (callsIn_wide (n := 5)).1 (AnyZ.keys_in Tryz.keysS Fence.wide 5 trivial rfl mb W)
theorem own_low10 {w : World} {b b' e s : Nat} {v : Value} {n : Nat} {l : List Value} (h : w.ownsRow b e s v n l) (hb : b' ≤ b) : w.ownsRow b' e s v n l := by
  refine ⟨h.1, ?_⟩
  rcases h.2 with h | ⟨gb, cap, cur, h1, h2, h3⟩
  · exact .inl h
  · exact .inr ⟨gb, cap, cur, h1, Nat.le_trans hb h2, h3⟩
/-- A row of names. -/
def OwnS (w : World) (base : Nat) (v : Value) (l : List (List UInt8)) : Prop := w.ownsRow base 9 1 v l.length (l.map encStr)
theorem sorted_self {l : List (List UInt8)} (h : l.Pairwise fun a b => a < b) {ss : List (List UInt8)} (hp : ss.Perm l) : (ss.mergeSort fun x y => decide (x ≤ y)) = l := by
  have tr : ∀ a b c : List UInt8, decide (a ≤ b) = true → decide (b ≤ c) = true → decide (a ≤ c) = true := fun a b c h1 h2 => by simp only [decide_eq_true_eq] at *; exact List.le_trans h1 h2
  have tl : ∀ a b : List UInt8, (decide (a ≤ b) || decide (b ≤ a)) = true := fun a b => by simp only [Bool.or_eq_true, decide_eq_true_eq]; exact List.le_total a b
  refine List.Perm.eq_of_pairwise (le := fun a b => decide (a ≤ b) = true) (fun a b _ _ h1 h2 => ?_) (List.pairwise_mergeSort tr tl ss) (h.imp fun hab => ?_) ((List.mergeSort_perm ss _).trans hp)
  · simp only [decide_eq_true_eq] at h1 h2
    exact List.le_antisymm h1 h2
  · simp only [decide_eq_true_eq]
    exact List.le_of_lt hab
section
variable {B g bm t nn : Nat} {w : World} {D : DataW Value} {L : List Ent} {q fu : Int} {off : Bool}
theorem Dsk.keys (h : Dsk B g bm t nn w D L q fu off) : (L.map (·.1)).Perm (strKeys D) := by
  have hhas := h.has
  have hlen : ∀ e ∈ L, e.1.length ≤ maxLen := fun e he => by
    have := h.may e he
    unfold mayNm at this
    simp only [Bool.and_eq_true, decide_eq_true_eq] at this
    unfold maxLen; omega
  obtain ⟨es, rfl, hpw, hkl⟩ := h.map.entries (Maps.string_keyed Tryz.underlying9)
  have hki : ∀ p ∈ es, ∃ x : List UInt8, p.1 = .string x ∧ x.length ≤ maxLen := by
    obtain ⟨es0, clock, hb, F0, _, e⟩ := h.map
    have hk := Maps.fit_keys F0
    injection e with e
    intro p hp
    rw [e] at hp
    obtain ⟨key, hkey⟩ := hk p (mem_sorted.1 hp)
    obtain ⟨s, _, hs, hsz⟩ := WideMaps.string_of_keyOf Tryz.underlying9 hkey
    exact ⟨_, hs, by rw [Array.length_toList]; exact hsz⟩
  refine perm_strKeys hpw (fun p hp => by obtain ⟨x, hx, _⟩ := hki p hp; exact ⟨x, hx⟩) (List.Pairwise.imp (fun hab he => by rw [he] at hab; exact absurd hab (List.lt_irrefl _)) (List.pairwise_map.2 h.nms)) fun z => ?_
  constructor
  · intro hz
    obtain ⟨e, he, rfl⟩ := List.mem_map.1 hz
    rw [hhas _ (hlen e he), pick_of h.uniq he]; rfl
  · intro hz
    have hz2 := hz
    rw [Maps.has_eq, List.any_eq_true] at hz2
    obtain ⟨p, hp, hsk⟩ := hz2
    obtain ⟨y, hy, hyl⟩ := hki p hp
    rw [hy] at hsk
    have hyz : y = z := by simpa [Lit.sameKey] using hsk
    subst hyz
    rw [hhas _ hyl] at hz
    cases hf : pickE L y with
    | none => rw [hf] at hz; cases hz
    | some x => exact List.mem_map.2 ⟨_, pick_mem hf, rfl⟩
/-- What names answers. -/
def NamesR (L : List Ent) (w : World) (e : Ending) (w' : World) : Prop := ∃ v, e = .returned v ∧ OwnS w' w.heap.size v (L.map (·.1)) ∧ Below w.heap.size w w'
set_option maxHeartbeats 1000000 in
set_option maxRecDepth 100000 in
theorem names_any (h : Dsk B g bm t nn w D L q fu off) : Calls Tryz.prog 50 #[.pointer (some ⟨g, 0, none⟩)] w (NamesR L w) := by
  have h0 := h.blk.cell 0 rfl
  have hl := h.blk.lt
  have HK := Lib.hid (fun W => keys_any (some bm) W)
  have hml := h.map.lt
  have hm2 := map_later h.map (below_one w (.cells #[.map (some bm)] 48)) hml
  have HS := Lib.hid (sorted_keys bm nn D _ hm2 (by rw [h.szd]; have := h.len; unfold maxLen; omega) (by rw [h.szd]; have := h.len; omega) w.heap.size (by simp) (by simp) (by omega))
  have HB := Lib.hid (below_one w (.cells #[.map (some bm)] 48))
  have HP := Lib.hid h.keys
  have HN := Lib.hid (List.pairwise_map.2 h.nms)
  clear h hml hm2
  go_enter Tryz.func50, Tryz.ntmps50
  go_wp2_with fail
  refine (HK.out _).mono ?_; rintro e w2 ⟨rfl, rfl⟩
  go_wp2_with fail
  refine HS.out.mono ?_; rintro e w3 ⟨v, ss, rfl, hp, hr, -, b3⟩
  have hs1 := sorted_self HN.out (hp.trans HP.out.symm)
  have hs2 : ss.length = (L.map (·.1)).length := (hp.trans HP.out.symm).length_eq
  rw [hs1, hs2] at hr
  have HR : Hid (NamesR L w (.returned v) w3) := Lib.hid ⟨v, rfl, own_low10 hr (by simp), then_ HB.out b3⟩
  clear hp hr b3 hs1 hs2
  go_wp2_with fail
  go_ret
  exact HR.out
/-- How many bytes those have that have come. -/
def usedOf (left : Lit → Bool) (L : List Ent) : Nat := totE (L.filter fun e => !left (.string e.1))
theorem used_all {left : Lit → Bool} (h : ∀ kl, left kl = false) : usedOf left L = totE L := by
  unfold usedOf
  rw [List.filter_eq_self.2 fun e he => by simp [h]]
theorem used_none {left : Lit → Bool} (h : ∀ e ∈ L, left (.string e.1) = true) : usedOf left L = 0 := by
  unfold usedOf
  rw [List.filter_eq_nil_iff.2 fun e he => by simp [h e he]]; rfl
theorem tot_cons (e : Ent) (L : List Ent) : totE (e :: L) = e.2.b.length + totE L := by simp [totE]
theorem used_step {L : List Ent} (hu : L.Pairwise fun a b => a.1 ≠ b.1) {left : Lit → Bool} {n : List UInt8} {x : Fl} (hm : (n, x) ∈ L) (hl : left (.string n) = true) : usedOf (fun z => left z && !z.sameKey (.string n)) L = usedOf left L + x.b.length := by
  have key : ∀ m : List UInt8, Lit.sameKey (.string m) (.string n) = decide (m = n) := fun m => by
    rw [Bool.eq_iff_iff]; simp [Lit.sameKey]
  induction L with
  | nil => cases hm
  | cons e L ih =>
    obtain ⟨h1, h2⟩ := List.pairwise_cons.1 hu
    unfold usedOf at ih ⊢
    rw [List.filter_cons, List.filter_cons]
    rcases List.mem_cons.1 hm with rfl | hm
    · have hno : (L.filter fun e => !(left (.string e.1) && !Lit.sameKey (.string e.1) (.string n))) = L.filter fun e => !left (.string e.1) := List.filter_congr fun e he => by
        rw [key, decide_eq_false (fun h => h1 e he h.symm)]; simp
      simp only [key, hl, decide_true, Bool.not_true, Bool.and_false, Bool.not_false, if_true, Bool.false_eq_true, if_false, tot_cons]
      rw [show (L.filter fun e => !(left (.string e.1) && !decide (e.1 = n))) = L.filter fun e => !left (.string e.1) by simpa only [key] using hno]
      omega
    · have hne : ¬ e.1 = n := h1 _ hm
      have := ih h2 hm
      simp only [key, decide_eq_false hne, Bool.not_false, Bool.and_true] at this ⊢
      cases hle : left (.string e.1) <;> simp only [Bool.not_true, Bool.not_false, Bool.false_eq_true, if_false, if_true, tot_cons] <;> omega
end
end Go.Proofs.YtmbfhmjcphoddaaGreatDoor.Gm
/- Layer 10: Used, Names. -/
set_option linter.unusedSimpArgs false
set_option linter.unusedVariables false
namespace Go.Proofs.YtmbfhmjcphoddaaGreatDoor.Gm
open Go Go.RowKit Go.Maps
attribute [local go_sem ↓] Go.wp_at_zero Go.wp_at_succ

theorem below_turned {w a b : World} {T : Nat} (h : a.grownBy b (some T)) (hw : w.heap.size ≤ a.heap.size) (hT : w.heap.size ≤ T) : Below w.heap.size a b :=
  ⟨h.os, h.tape, h.output, h.size, fun k hk => h.block k (by omega) (by rintro he; have := Option.some.inj he; omega)⟩
theorem used_none10 (w : World) : Calls Tryz.prog 28 #[.pointer none] w (Gives (.int .i64 0) w) := by
  have HM := Lib.hid (fun W => don_none W)
  go_enter Tryz.func28, Tryz.ntmps28
  go_wp2_with fail
  refine (HM.out _).mono ?_; rintro e w1 ⟨rfl, b1⟩
  have HB := Lib.hid b1
  clear b1
  go_wp2_with fail
  go_ret
  exact ⟨rfl, HB.out⟩
section
variable {B g bm t nn : Nat} {w : World} {D : DataW Value} {L : List Ent} {q fu : Int} {off : Bool}
theorem Used_off (h : Dsk B g bm t nn w D L q fu true) : Calls Tryz.prog 28 #[.pointer (some ⟨g, 0, none⟩)] w (Gives (.int .i64 0) w) := by
  have HM := Lib.hid (don_yes g bm q fu true w h.blk)
  clear h
  go_enter Tryz.func28, Tryz.ntmps28
  go_wp2_with fail
  refine HM.out.mono ?_; rintro e w1 ⟨rfl, b1⟩
  have HB := Lib.hid b1
  clear b1
  go_wp2_with fail
  go_ret
  exact ⟨rfl, HB.out⟩
theorem tot_part (L : List Ent) (p : Ent → Bool) : totE (L.filter p) ≤ totE L := by
  induction L with
  | nil => simp [totE]
  | cons e L ih =>
    rw [List.filter_cons, tot_cons]
    split
    · rw [tot_cons]; omega
    · omega
theorem len_le_tot {L : List Ent} {e : Ent} (h : e ∈ L) : e.2.b.length ≤ totE L := by
  induction L with
  | nil => cases h
  | cons x L ih =>
    rw [tot_cons]
    rcases List.mem_cons.1 h with rfl | h
    · omega
    · have := ih h; omega
theorem wrap_add10 {a b : Nat} (h : a + b ≤ 8388608) : wrap64 ((a : Int) + (b : Int)) = ((a + b : Nat) : Int) := by
  unfold wrap64; omega
set_option maxHeartbeats 4000000 in
set_option maxRecDepth 100000 in
theorem Used_on (h : Dsk B g bm t nn w D L q fu false) : Calls Tryz.prog 28 #[.pointer (some ⟨g, 0, none⟩)] w (Gives (.int .i64 (totE L : Nat)) w) := by
  have HM := Lib.hid (don_yes g bm q fu false w h.blk)
  have HX := Lib.hid h
  clear h
  go_enter Tryz.func28, Tryz.ntmps28
  go_wp2_with fail
  refine HM.out.mono ?_; rintro e w1 ⟨rfl, b1⟩
  have HX1 := Lib.hid (HX.out.later b1)
  have HB1 := Lib.hid b1
  have h0 := HX1.out.blk.cell 0 rfl
  have hl := HX1.out.blk.lt
  have hoP := HX1.out.map
  clear b1 HX
  go_wp2_with (first | (at_range; refine wpList_range_own _ rfl _ 48 rfl 9 54 (Maps.string_keyed Tryz.underlying9) Tryz.underlying48 idElem bm nn D rfl hoP ?_; intro w6 hrg6 hg6 hs6) | fail)
  obtain ⟨r, hr⟩ : ∃ r, w1.heap.size = r := ⟨_, rfl⟩
  rw [hr] at hrg6 hs6 ⊢
  have hb6 : Below w1.heap.size w1 w6 := ⟨hg6.os, hg6.tape, hg6.output, hg6.size, fun k hk => hg6.block k hk (by simp)⟩
  have HB6 := Lib.hid (then_ HB1.out hb6)
  have HX6 := Lib.hid (HX1.out.later hb6)
  have HRW : Hid (w1.heap.size = r) := Lib.hid hr
  have HRG6 := Lib.hid hrg6
  have HS6 := Lib.hid hs6
  have HB16 := Lib.hid hb6
  have HU0 : Hid (usedOf (Maps.has D) L = 0) := Lib.hid (used_none fun e he => by
    have hm := HX1.out.may e he
    unfold mayNm at hm
    simp only [Bool.and_eq_true, decide_eq_true_eq] at hm
    rw [HX1.out.has e.1 (by unfold maxLen; omega), pick_of HX1.out.uniq he]; rfl)
  clear hrg6 hg6 hs6 hb6 hr hoP h0 hl
  go_frame
  go_loopw [3, 5] (fun u _ wr => ∃ (left : Lit → Bool) (cnt n : Nat), u = .int .i64 (n : Nat) ∧ n ≤ 4194304 ∧ Hid (wr.ranges Tryz.prog 9 idElem bm r nn D left cnt ∧ (∀ z, left z = true → Maps.has D z = true)) ∧ Hid (usedOf left L = n) ∧ Hid (Below w1.heap.size w1 wr)) (fun _ _ wr => wr.rangeLeft bm r)
  case atStart => exact ⟨_, _, 0, rfl, by omega, Lib.hid ⟨HRG6.out, fun _ h => h⟩, HU0, HB16⟩
  case round =>
    obtain ⟨left, cnt, n, rfl, hn, HRG, HU, HBr⟩ := hrel
    clear HRG6 HX6 HU0
    have hrg := HRG.out.1
    go_wp2_with (first | (at_next; refine wpList_next_ranges _ rfl _ rfl 9 (Maps.string_keyed Tryz.underlying9) idElem Value.string id (fun key kl hkey => by obtain ⟨x', rfl, _⟩ := WideMaps.string_of_keyOf Tryz.underlying9 hkey; exact ⟨x', rfl⟩) (fun v y _ => ⟨v, rfl⟩) bm r nn D left cnt rfl hrg ?_ ?_) | fail)
    · intro hc0 hl0
      have HE : Hid (totE L = n) := Lib.hid ((used_all hl0).symm.trans HU.out)
      clear hc0 hl0 hrg
      go_wp2_with fail
      go_ret
      exact ⟨ret_int (by rw [HE.out]), then_ HB1.out HBr.out⟩
    · intro i c kl y ps w7 cnt' hki hlk hRc hat hrg7 hlt hg7 hs7 hen
      obtain ⟨s, hs, rfl, hsz⟩ := WideMaps.string_of_keyOf Tryz.underlying9 hki
      injection hs with hs
      subst hs
      obtain ⟨nm, hnm⟩ : ∃ nm, i.data.toList = nm := ⟨_, rfl⟩
      rw [hnm] at hlk hat hrg7
      have hnl : nm.length ≤ maxLen := by rw [← hnm, Array.length_toList]; exact hsz
      have hh := HX1.out.has nm hnl
      rw [HRG.out.2 _ hlk] at hh
      obtain ⟨x, hx⟩ : ∃ x, pickE L nm = some x := by
        cases h : pickE L nm with
        | none => rw [h] at hh; cases hh
        | some x => exact ⟨x, rfl⟩
      have hm := pick_mem hx
      have hy := idElem_eq hRc
      have ha := HX1.out.at_ _ hm (.pointer none |> DataW.held)
      rw [hat _, hy] at ha
      have hcv : c = .pointer (some ⟨x.f, 0, none⟩) := DataW.held.inj ha
      subst hcv
      have hb7 : Below w1.heap.size wr w7 := below_turned hg7 HBr.out.size (Nat.le_of_eq HRW.out)
      have HB7 := Lib.hid (HBr.out.trans hb7)
      have hfil := (HX1.out.later HB7.out).fil _ hm
      have hbk := hfil.1
      obtain ⟨xf, xp, xc, xb, xs⟩ := x
      simp only [Fl.v] at hbk
      have c0 := hbk.cell 0 rfl
      have hlt2 := hbk.lt
      have HU7 := Lib.hid (used_step HX1.out.uniq hm hlk)
      have HT7 : Hid (usedOf (fun z => left z && !z.sameKey (.string nm)) L ≤ 4194304) := Lib.hid (Nat.le_trans (tot_part _ _) HX1.out.tot)
      have HRG7 := Lib.hid hrg7
      have HLTS := Lib.hid (fun z (hz : (left z && !z.sameKey (.string nm)) = true) => HRG.out.2 z (by rw [Bool.and_eq_true] at hz; exact hz.1))
      have HLE : Hid (w7.rangeLeft bm r < wr.rangeLeft bm r) := Lib.hid (by rw [hrg7.left_eq, HRG.out.1.left_eq]; exact hlt)
      have hxl : xb.length ≤ 4194304 := Nat.le_trans (len_le_tot hm) HX1.out.tot
      have HN7 : Hid (n + xb.length ≤ 4194304) := Lib.hid (by have h1 := HU7.out; have h2 := HT7.out; have h3 := HU.out; simp only at h1; omega)
      obtain ⟨m, hml⟩ : ∃ m, xb.length = m := ⟨_, rfl⟩
      have HML := Lib.hid hml
      rw [hml] at c0 hxl HN7
      have hn7 := HN7.out
      clear hlk hRc hat hrg7 hlt hg7 hs7 hh hx hm hy ha hb7 hrg hfil hbk hki hnm hsz hnl hml
      go_wp2_with fail
      go_roundw
      case rel => exact ⟨_, _, n + m, by simp, by omega, Lib.hid ⟨HRG7.out, HLTS.out⟩, Lib.hid (by rw [HU7.out, HU.out, HML.out]), HB7⟩
      case measure => exact HLE.out
end
end Go.Proofs.YtmbfhmjcphoddaaGreatDoor.Gm
set_option linter.unusedSimpArgs false
set_option linter.unusedVariables false
namespace Go.Proofs.YtmbfhmjcphoddaaGreatDoor.Gm
open Go Go.RowKit Go.Maps
attribute [local go_sem ↓] Go.wp_at_zero Go.wp_at_succ

/-- The first error that is there. -/
def firstE (ans : Int → Bool) : Int := if ans 1 then 1 else if ans 6 then 6 else if ans 9 then 9 else if ans 7 then 7 else 0
/-- Those ahead of the k-th are not there. -/
def preE (ans : Int → Bool) (k : Nat) : Prop := (1 ≤ k → ans 1 = false) ∧ (2 ≤ k → ans 6 = false) ∧ (3 ≤ k → ans 9 = false) ∧ (4 ≤ k → ans 7 = false)
theorem idx_err (W : World) : (∀ (_ : Unit), (Instr.index 101 (.agg #[.int .i64 1, .int .i64 6, .int .i64 9, .int .i64 7]) (.int .i64 0)).run Tryz.prog W = .ok (.int .i64 1) W) ∧ ((Instr.index 101 (.agg #[.int .i64 1, .int .i64 6, .int .i64 9, .int .i64 7]) (.int .i64 1)).run Tryz.prog W = .ok (.int .i64 6) W) ∧ ((Instr.index 101 (.agg #[.int .i64 1, .int .i64 6, .int .i64 9, .int .i64 7]) (.int .i64 2)).run Tryz.prog W = .ok (.int .i64 9) W) ∧ ((Instr.index 101 (.agg #[.int .i64 1, .int .i64 6, .int .i64 9, .int .i64 7]) (.int .i64 3)).run Tryz.prog W = .ok (.int .i64 7) W) := ⟨fun _ => by kernel_rfl, by kernel_rfl, by kernel_rfl, by kernel_rfl⟩
theorem ask_nil (cl : Value) (w : World) : Calls Tryz.prog 40 #[.pointer none, cl] w (Gives (.int .i64 2) w) := by
  have HM := Lib.hid (fun W => dmade_none W)
  go_enter Tryz.func40, Tryz.ntmps40
  go_wp2_with fail
  refine (HM.out _).mono ?_; rintro e w1 ⟨rfl, b1⟩
  have HB := Lib.hid b1
  clear b1
  go_wp2_with fail
  go_ret
  exact ⟨rfl, HB.out⟩
theorem ask_off (g bm : Nat) (q fu : Int) (cl : Value) (w : World) (h : Blk w g 50 #[.map (some bm), .int .i64 q, .int .i64 fu, .bool true]) : Calls Tryz.prog 40 #[.pointer (some ⟨g, 0, none⟩), cl] w (Gives (.int .i64 8) w) := by
  have HM := Lib.hid (dmade_yes g bm q fu true w h)
  have HH := Lib.hid h
  clear h
  go_enter Tryz.func40, Tryz.ntmps40
  go_wp2_with fail
  refine HM.out.mono ?_; rintro e w1 ⟨rfl, b1⟩
  have h3 := (HH.out.later b1).cell 3 rfl
  have hl := (HH.out.later b1).lt
  have HB := Lib.hid b1
  clear b1
  go_wp2_with fail
  go_ret
  exact ⟨rfl, HB.out⟩
end Go.Proofs.YtmbfhmjcphoddaaGreatDoor.Gm
