/- The contract of slices.Insert of one value into a row that the call owns. -/
import Derived.Test.YtlnjmcodgdebmaaGreatKj
set_option linter.unusedSimpArgs false
set_option linter.unusedVariables false
namespace Go.Proofs.YtlnjmcodgdebmaaGreat.Gm
open Go Go.RowKit
attribute [local go_sem ↓] Go.wp_at_zero Go.wp_at_succ

/-- What an insertion leaves: a row of the call's own with the element at its place; of what was there the old row's block alone may have changed. -/
def Ins {α : Type} (enc : α → List Value) (T : TypeId) (n : Nat) (base : Nat) (v : Value) (l : List α) (i : Nat) (x : α) (w : World) (e : Ending) (w' : World) : Prop :=
  ∃ v', e = .returned v' ∧ w'.ownsRow base T n v' (l.length + 1) ((l.take i ++ x :: l.drop i).flatMap enc) ∧ w.grownBy w' v.ownBlock

set_option maxHeartbeats 4000000 in
set_option maxRecDepth 100000 in
theorem ins_end_v (base : Nat) (v : Value) (l : List Vl) (x : Vl) (w : World) (vb : Nat) (hb : Blk w vb 42 #[.int .i64 x.k, .int .i64 x.n, .string x.s, .bool x.b]) (hO : w.ownsRow base 42 4 v l.length (l.flatMap encV)) (hbase : base ≤ w.heap.size) (hl : l.length ≤ 1000000) :
    Calls Tryz.prog 121 #[v, .int .i64 l.length, .slice (some ⟨vb, 0, none⟩) 1 1] w (Ins encV 42 4 base v l l.length x w) := by
  obtain ⟨i0, ii, iz0, iz1, iz2⟩ := info_parts infoV
  have hsrc : Src w (.slice (some ⟨vb, 0, none⟩) 1 1) 1 4 (encV x) := .inr ⟨_, _, rfl, rfl, fun j u hu => by rw [add_lit, Nat.zero_add]; exact hb.cell j (by simpa [encV] using hu), encV_one x⟩
  have hEnd : Hid ((l.take l.length ++ x :: l.drop l.length).flatMap encV = l.flatMap encV ++ encV x) := Lib.hid (by simp)
  rcases hO.2 with ⟨rfl, h0⟩ | ⟨g, cap, cur, rfl, _, _, hcap, hmax, _⟩
  · have hl0 : l = [] := List.eq_nil_of_length_eq_zero h0
    subst hl0
    have HO := Lib.hid hO
    have HS := Lib.hid hsrc
    clear hO hb hsrc h0
    go_enter Tryz.func121, Tryz.ntmps121
    go_wp2_with (at_builtin; refine wpList_append_two (by rfl) _ _ 113 43 Tryz.underlying43 (by rfl) base 42 i0 (.agg #[.int .i64 0, .int .i64 0, .string ⟨#[]⟩, .bool false]) 4 40 Tryz.underlying113 ii iz0 iz1 iz2 rfl (by decide) (.slice none 0 0) 0 [] (by rfl) (World.ownsRow_nil _ _ _ _) _ 1 (encV x) (by rfl) HS.out 1 rfl (by unfold maxLen; omega) (by omega) hbase ?_; intro pA capA w3 hown3 hgrow3)
    go_ret
    exact ⟨.slice pA 1 capA, rfl, by simpa using hown3, hgrow3⟩
  · have HO := Lib.hid hO
    have HS := Lib.hid hsrc
    have hmx : cap ≤ 9223372036854775807 := by unfold maxLen at hmax; omega
    have hci : (l.length : Int) ≤ (cap : Int) := by omega
    clear hO hb hsrc hmax
    go_enter Tryz.func121, Tryz.ntmps121
    go_wp2_with (at_builtin; refine wpList_append_two (by rfl) _ _ 113 43 Tryz.underlying43 (by rfl) base 42 i0 (.agg #[.int .i64 0, .int .i64 0, .string ⟨#[]⟩, .bool false]) 4 40 Tryz.underlying113 ii iz0 iz1 iz2 rfl (by decide) _ _ _ (by rfl) HO.out _ 1 (encV x) (by rfl) HS.out (l.length + 1) rfl (by unfold maxLen; omega) (by omega) hbase ?_; intro pA capA w3 hown3 hgrow3)
    all_goals
      go_ret
      exact ⟨.slice pA (l.length + 1) capA, rfl, by rw [hEnd.out]; exact hown3, hgrow3⟩

set_option maxHeartbeats 1000000 in
/-- What a row's block holds behind the shift. -/
theorem shift_blockv {α : Type} [Inhabited α] {enc : α → List Value} (hn : ∀ x, (enc x).length = 4) {t : TypeId} {g : Nat} {cur : Array Value} {cap i : Nat} {l : List α} (hi : i < l.length) (hroom : l.length + 1 ≤ cap) (hcs : cur.size = cap * 4) (ht : cur.toList.take (l.length * 4) = l.flatMap enc) (x : α) {W : World} (hW : Blk W g t cur) :
    ∃ cur', Blk ((W.setCells g ((i + 1) * 4) ((l.drop i).flatMap enc)).setCells g (i * 4) (enc x)) g t cur' ∧ cur'.size = cap * 4 ∧ cur'.toList.take ((l.length + 1) * 4) = (l.take i ++ x :: l.drop i).flatMap enc := by
  have hd : ((l.drop i).flatMap enc).length = (l.length - i) * 4 := by rw [flat_length hn, List.length_drop]
  have b1 := setCells_block g t ((l.drop i).flatMap enc) ((i + 1) * 4) W cur hW (by rw [hd]; omega)
  obtain ⟨c1, hc1⟩ : ∃ c1, c1 = (cur.toList.take ((i + 1) * 4) ++ (l.drop i).flatMap enc ++ cur.toList.drop ((i + 1) * 4 + ((l.drop i).flatMap enc).length)) := ⟨_, rfl⟩
  rw [← hc1] at b1
  have hs1 : c1.length = cap * 4 := by rw [hc1]; simp only [List.length_append, List.length_take, List.length_drop, Array.length_toList, hd]; omega
  have b2 := setCells_block g t (enc x) (i * 4) _ _ b1 (by simp [hn, hs1]; omega)
  refine ⟨_, b2, by simp only [List.size_toArray, List.length_append, List.length_take, List.length_drop, Array.length_toList, hn, hs1]; omega, ?_⟩
  have h1 : c1.take (i * 4) = (l.take i).flatMap enc := by
    rw [hc1, List.append_assoc, List.take_append_of_le_length (by simp; omega), List.take_take, Nat.min_eq_left (by omega), ← flat_take hn l i (by omega), ← ht, List.take_take, Nat.min_eq_left (by omega)]
  have h2 : (c1.drop (i * 4 + 4)).take ((l.length - i) * 4) = (l.drop i).flatMap enc := by
    rw [hc1, List.append_assoc, List.drop_append_of_le_length (by simp; omega), List.drop_of_length_le (by simp; omega), List.nil_append, ← hd, List.take_left']
    rfl
  simp only [List.flatMap_append, List.flatMap_cons, hn]
  rw [h1]
  have h3 : ((l.take i).flatMap enc).length = i * 4 := by rw [flat_length hn, List.length_take, Nat.min_eq_left (by omega)]
  rw [List.append_assoc, show (l.length + 1) * 4 = ((l.take i).flatMap enc).length + (4 + (l.length - i) * 4) by rw [h3]; omega, List.take_length_add_append, show 4 + (l.length - i) * 4 = (enc x).length + (l.length - i) * 4 by rw [hn], List.take_length_add_append]
  rw [h2]


set_option maxHeartbeats 4000000 in
set_option maxRecDepth 100000 in
theorem ins_shift_v (base : Nat) (g cap : Nat) (l : List Vl) (i : Nat) (x : Vl) (w : World) (vb : Nat) (hb : Blk w vb 42 #[.int .i64 x.k, .int .i64 x.n, .string x.s, .bool x.b]) (hO : w.ownsRow base 42 4 (.slice (some ⟨g, 0, none⟩) l.length cap) l.length (l.flatMap encV)) (hl : l.length ≤ 1000000) (hi : i < l.length) (hroom : l.length + 1 ≤ cap) (hvb : vb ≠ g) :
    Calls Tryz.prog 121 #[.slice (some ⟨g, 0, none⟩) l.length cap, .int .i64 i, .slice (some ⟨vb, 0, none⟩) 1 1] w (Ins encV 42 4 base (.slice (some ⟨g, 0, none⟩) l.length cap) l i x w) := by
  rcases hO.2 with ⟨h0, _⟩ | ⟨g', cap', cur, hv, hbg, hh, hcap, hmax, hcs, ht⟩
  · simp at h0
  simp only [Value.slice.injEq, Option.some.injEq, Addr.mk.injEq, and_true, true_and] at hv
  obtain ⟨rfl, rfl⟩ := hv
  have hsz : (Tryz.prog.info? 42).map (·.size) = some 4 := by kernel_rfl
  have hmax' := hmax
  have hmx : cap ≤ 9223372036854775807 := by unfold maxLen at hmax; omega
  have hsp : ∀ j, j < cap * 4 → (w.cell? ⟨g, j, none⟩).isSome = true := fun j hj => by rw [cell_of_row w g j cur 42 (0, 0) hh, Array.getElem?_eq_getElem (by omega)]; rfl
  have hfz : ∀ j, w.frozen? ⟨g, j, none⟩ = false := fun j => Blk.free (t := 42) (cs := cur) hh j
  have hcells := World.ownsRow.cells hO (g := g) rfl
  have hov : ∀ lb cb, (callFunc 130 #[.slice (some ⟨vb, 0, none⟩) 1 1, .slice (some ⟨g, (i + 1) * 4, none⟩) lb cb]).run Tryz.prog w = .ok (.value (.bool false)) w := fun lb cb => by
    rw [run_callFunc_extern Tryz.func130 (by kernel_rfl) (by kernel_rfl) (by kernel_rfl) (e := Extern.SlicesOverlaps.overlaps #[43, 43] #[4]) (by kernel_rfl),
      Lib.run_overlaps_apart w 43 4 42 Tryz.underlying43 4 (fun w => Tryz.sizeOf42 w) ⟨vb, 0, none⟩ ⟨g, (i + 1) * 4, none⟩ 1 1 lb cb hvb 42 42 4 cur.size (by simp [World.shape?, show w.heap[vb]? = _ from hb]) (by simp [World.shape?, show w.heap[g]? = _ from hh]) (by rw [hcs]; omega) (hb.free 0) (hb.free 4)]
    rfl
  have hd : ((l.drop i).flatMap encV).length = (l.length - i) * 4 := by rw [flat_length encV_length, List.length_drop]
  have hcp1 : ∀ ty dc sc, (Builtin.copy_ #[113, 113] ty #[.slice (some ⟨g, (i + 1) * 4, none⟩) (l.length - i) dc, .slice (some ⟨g, i * 4, none⟩) (l.length + 1 - i) sc]).run Tryz.prog w.drew = .ok (goInt (l.length - i)) (w.drew.setCells g ((i + 1) * 4) ((l.drop i).flatMap encV)) := fun ty dc sc => by
    have h := run_copy_many (P := Tryz.prog) 4 w.drew 113 113 ty 42 g ((i + 1) * 4) (l.length - i) dc ⟨g, i * 4, none⟩ (l.length + 1 - i) sc ((l.drop i).flatMap encV) Tryz.underlying113 hsz (by rw [hd]; simp only [Nat.min_def]; split <;> omega)
      (fun j v hj => by
        rw [add_lit]
        have h2 : (l.flatMap encV)[i * 4 + j]? = some v := by rw [← flat_drop encV_length l i (by omega), List.getElem?_drop] at hj; exact hj
        have := hcells _ v h2
        rwa [add_lit, Nat.zero_add] at this)
      (fun j hj => hsp _ (by rw [hd] at hj; omega)) (fun j hj => hfz _) (flat_one encV_one _)
    rw [h]
    congr 2
    simp only [Nat.min_def]; split <;> omega
  obtain ⟨W1, hW1⟩ : ∃ W1, W1 = w.drew.setCells g ((i + 1) * 4) ((l.drop i).flatMap encV) := ⟨_, rfl⟩
  have hsp1 : ∀ k, k < cap * 4 → (W1.cell? ⟨g, k, none⟩).isSome = true := fun k hk => by
    rw [hW1]
    exact isSome_sets g ((l.drop i).flatMap encV) ((i + 1) * 4) w.drew (fun j hj => hsp ((i + 1) * 4 + j) (by rw [hd] at hj; omega)) k (hsp k hk)
  have hcp2 : ∀ (W : World), (∀ x, W.cell? x = W1.cell? x) → (∀ x, W.frozen? x = W1.frozen? x) → ∀ ty dc, (Builtin.copy_ #[113, 43] ty #[.slice (some ⟨g, i * 4, none⟩) (l.length + 1 - i) dc, .slice (some ⟨vb, 0, none⟩) 1 1]).run Tryz.prog W = .ok (goInt 1) (W.setCells g (i * 4) (encV x)) := fun W hWc hWf ty dc => by
    have h := run_copy_many (P := Tryz.prog) 4 W 113 43 ty 42 g (i * 4) (l.length + 1 - i) dc ⟨vb, 0, none⟩ 1 1 (encV x) Tryz.underlying113 hsz (by rw [encV_length]; simp only [Nat.min_def]; split <;> omega)
      (fun j v hj => by
        rw [add_lit, hWc, hW1, World.cell?_setCells_out g _ _ _ _ (fun h _ => absurd h hvb), Nat.zero_add]
        exact hb.cell j (by simpa [encV] using hj))
      (fun j hj => by rw [hWc]; exact hsp1 _ (by rw [encV_length] at hj; omega)) (fun j hj => by rw [hWf, hW1, World.frozen?_setCells]; exact hfz _) (encV_one x)
    rw [h]
    congr 2
    simp only [Nat.min_def]; split <;> omega
  rw [← hW1] at hcp1
  have hIns : Hid (∀ W, Blk W g 42 cur → ∃ cur', Blk ((W.setCells g ((i + 1) * 4) ((l.drop i).flatMap encV)).setCells g (i * 4) (encV x)) g 42 cur' ∧ cur'.size = cap * 4 ∧ cur'.toList.take ((l.length + 1) * 4) = (l.take i ++ x :: l.drop i).flatMap encV) := Lib.hid fun W hW => shift_blockv encV_length hi hroom hcs ht x hW
  have HH := Lib.hid hh
  have HW1 := Lib.hid hW1
  have HC2 := Lib.hid hcp2
  have HLen : Hid (((l.take i ++ x :: l.drop i).flatMap encV).length = (l.length + 1) * 4) := Lib.hid (by rw [flat_length encV_length]; simp; omega)
  have hz1 : ¬ ((i : Int) = (l.length : Int)) := by omega
  have hw1 : IntKind.i64.wrap ((i : Int) + 1) = (i : Int) + 1 := by rw [IntKind.wrap_i64]; omega
  have hb1 : (0 : Int) ≤ (i : Int) + 1 := by omega
  have hin : (i : Int) ≤ (l.length : Int) := by omega
  have htn : ((i : Int) + 1).toNat = i + 1 := by omega
  have hb2 : ¬ (cap = i + 1) := by omega
  have hb3 : (i : Int) ≤ (l.length : Int) + 1 := by omega
  have hb4 : ¬ (cap = i) := by omega
  clear hh hW1 hcp2 hcells hd ht hsp hsp1 hfz hO hb hcs hmax
  go_enter Tryz.func121, Tryz.ntmps121
  go_wp2_with (simp only [hov])
  go_region_law (refine step_copy_is rfl _ _ 113 113 rfl _ _ (by simp [Act.eval, Act.put]) (by simp [Act.eval, Act.put]) (hcp1 _ _ _) ?_)
  have hcp3 := HC2.out W1 (fun _ => rfl) (fun _ => rfl)
  clear hcp1 hov
  go_wp2
  go_ret
  refine ⟨.slice (some ⟨g, 0, none⟩) (l.length + 1) cap, rfl, ?_, ?_⟩
  · obtain ⟨cur', h1, h2, h3⟩ := hIns.out w.drew HH.out
    rw [HW1.out]
    exact ⟨HLen.out, .inr ⟨g, cap, cur', rfl, hbg, h1, hroom, hmax', h2, h3⟩⟩
  · rw [HW1.out]
    exact setCells_grown (setCells_grown (grown_below (Below.refl _ w).drew (some g)) _ _) _ _

set_option maxHeartbeats 1000000 in
/-- What a new row's block holds behind the two copies. -/
theorem grow_blockv {α : Type} [Inhabited α] {enc : α → List Value} (hn : ∀ x, (enc x).length = 4) {t : TypeId} {g : Nat} {cur : Array Value} {cap i : Nat} {l : List α} (hi : i < l.length) (hroom : l.length + 1 ≤ cap) (hcs : cur.size = cap * 4) (ht : cur.toList.take (i * 4) = (l.take i).flatMap enc) (x : α) {W : World} (hW : Blk W g t cur) :
    ∃ cur', Blk ((W.setCells g (i * 4) (enc x)).drew.setCells g ((i + 1) * 4) ((l.drop i).flatMap enc)) g t cur' ∧ cur'.size = cap * 4 ∧ cur'.toList.take ((l.length + 1) * 4) = (l.take i ++ x :: l.drop i).flatMap enc := by
  have hd : ((l.drop i).flatMap enc).length = (l.length - i) * 4 := by rw [flat_length hn, List.length_drop]
  have b1 := setCells_block g t (enc x) (i * 4) W cur hW (by rw [hn]; omega)
  obtain ⟨c1, hc1⟩ : ∃ c1, c1 = (cur.toList.take (i * 4) ++ enc x ++ cur.toList.drop (i * 4 + (enc x).length)) := ⟨_, rfl⟩
  rw [← hc1] at b1
  have b1 : Blk (W.setCells g (i * 4) (enc x)).drew g t c1.toArray := b1
  have hs1 : c1.length = cap * 4 := by rw [hc1]; simp only [List.length_append, List.length_take, List.length_drop, Array.length_toList, hn]; omega
  have b2 := setCells_block g t ((l.drop i).flatMap enc) ((i + 1) * 4) _ _ b1 (by simp only [List.size_toArray, hs1]; rw [hd]; omega)
  refine ⟨_, b2, by simp only [List.size_toArray, List.length_append, List.length_take, List.length_drop, Array.length_toList, hd, hs1]; omega, ?_⟩
  have h3 : ((l.take i).flatMap enc).length = i * 4 := by rw [flat_length hn, List.length_take, Nat.min_eq_left (by omega)]
  have h1 : c1.take ((i + 1) * 4) = (l.take i).flatMap enc ++ enc x := by
    rw [hc1, ht, List.take_append_of_le_length (by rw [List.length_append, h3, hn]; omega), List.take_of_length_le (by rw [List.length_append, h3, hn]; omega)]
  simp only [List.flatMap_append, List.flatMap_cons]
  rw [h1]
  have h4 : ((l.take i).flatMap enc ++ enc x ++ (l.drop i).flatMap enc).length = (l.length + 1) * 4 := by rw [List.length_append, List.length_append, h3, hn, hd]; omega
  rw [List.take_append_of_le_length (by rw [h4]; omega), List.take_of_length_le (by rw [h4]; omega), List.append_assoc]

set_option maxHeartbeats 4000000 in
set_option maxRecDepth 100000 in
theorem ins_grow_v (base : Nat) (g cap : Nat) (l : List Vl) (i : Nat) (x : Vl) (w : World) (vb : Nat) (hb : Blk w vb 42 #[.int .i64 x.k, .int .i64 x.n, .string x.s, .bool x.b]) (hO : w.ownsRow base 42 4 (.slice (some ⟨g, 0, none⟩) l.length cap) l.length (l.flatMap encV)) (hbase : base ≤ w.heap.size) (hl : l.length ≤ 1000000) (hi : i < l.length) (hroom : cap < l.length + 1) :
    Calls Tryz.prog 121 #[.slice (some ⟨g, 0, none⟩) l.length cap, .int .i64 i, .slice (some ⟨vb, 0, none⟩) 1 1] w (Ins encV 42 4 base (.slice (some ⟨g, 0, none⟩) l.length cap) l i x w) := by
  have hmax : cap = l.length := by
    rcases hO.2 with ⟨h0, _⟩ | ⟨g', cap', cur, hv, _, _, h1, _⟩
    · simp at h0
    · simp only [Value.slice.injEq, true_and] at hv
      omega
  obtain ⟨i0, hi0, hz0, hzs, hzb⟩ := info_parts infoV
  have hsz : (Tryz.prog.info? 42).map (·.size) = some 4 := by kernel_rfl
  have hcells := World.ownsRow.cells hO (g := g) rfl
  have hgw : g < w.heap.size := (World.ownsRow.lt hO g rfl).2
  have hvw : vb < w.heap.size := hb.lt
  have hkk : (l.length : Int) + 1 - (i : Int) = ((l.length + 1 - i : Nat) : Int) := by omega
  have hik : i + (l.length + 1 - i) = l.length + 1 := by omega
  have htk : ((l.take i).flatMap encV).length = i * 4 := by rw [flat_length encV_length, List.length_take, Nat.min_eq_left (by omega)]
  have hold : (Builtin.firstCells i0.size i (.slice (some ⟨g, 0, none⟩) i cap)).run Tryz.prog w.drew = .ok ((l.take i).flatMap encV).toArray w.drew := by
    rw [hzs]
    exact run_firstCells_some w.drew 4 i ⟨g, 0, none⟩ i cap ((l.take i).flatMap encV) htk (fun j v hj => by
      rw [← flat_take encV_length l i (by omega), List.getElem?_take] at hj
      split at hj
      · exact hcells j v hj
      · cases hj)
  have hrz : ∀ ty, (Builtin.append_ #[113, 3] ty #[.slice (some ⟨g, 0, none⟩) i cap, .int .i64 ((l.length : Int) + 1 - (i : Int))]).run Tryz.prog w =
      .ok (.slice (some ⟨w.heap.size, 0, none⟩) (l.length + 1) (grownCap w (l.length + 1) cap 42)) (w.drew.alloc (.cells (((l.take i).flatMap encV).toArray ++ Builtin.zeroCells (Value.cells (.agg #[.int .i64 0, .int .i64 0, .string ⟨#[]⟩, .bool false])) (l.length + 1 - i) ++ Builtin.zeroCells (Value.cells (.agg #[.int .i64 0, .int .i64 0, .string ⟨#[]⟩, .bool false])) (grownCap w (l.length + 1) cap 42 - (l.length + 1))) 42)) := fun ty => by
    have h := Lib.run_append_grow_zeros w 113 3 ty 42 i0 _ .i64 .i64 Tryz.underlying113 Tryz.underlying3 hi0 hz0 (some ⟨g, 0, none⟩) i cap ((l.take i).flatMap encV) hold (l.length + 1 - i) (by omega) (by omega) (by omega) (by omega) (by rw [hzb]; omega) (by rw [hzb, hik]; exact growslice_fits hroom (by omega))
    rw [hik] at h
    rw [hkk]
    exact h
  obtain ⟨G, hG⟩ : ∃ G, G = grownCap w (l.length + 1) cap 42 := ⟨_, rfl⟩
  obtain ⟨ROW, hROW⟩ : ∃ ROW : Array Value, ROW = ((l.take i).flatMap encV).toArray ++ Builtin.zeroCells (Value.cells (.agg #[.int .i64 0, .int .i64 0, .string ⟨#[]⟩, .bool false])) (l.length + 1 - i) ++ Builtin.zeroCells (Value.cells (.agg #[.int .i64 0, .int .i64 0, .string ⟨#[]⟩, .bool false])) (G - (l.length + 1)) := ⟨_, rfl⟩
  rw [← hG] at hrz
  rw [← hROW] at hrz
  have hGn : l.length + 1 ≤ G := by rw [hG]; exact grownCap_ge w _ _ _
  have hGm : G ≤ maxLen := by rw [hG]; exact grownCap_le_maxLen w _ _ _ (by unfold maxLen; omega)
  have hRs : ROW.size = G * 4 := by
    have hz : (Value.cells (.agg #[.int .i64 0, .int .i64 0, .string ⟨#[]⟩, .bool false])).size = 4 := by decide
    rw [hROW]
    simp only [Array.size_append, List.size_toArray, htk, size_zeroCells, hz]
    omega
  have hRt : ROW.toList.take (i * 4) = (l.take i).flatMap encV := by
    rw [hROW, Array.toList_append, Array.toList_append, List.append_assoc, List.take_append_of_le_length (by simp [htk]), List.take_of_length_le (by simp [htk])]
  obtain ⟨H, hH⟩ : ∃ H, H = w.heap.size := ⟨_, rfl⟩
  obtain ⟨W1, hW1⟩ : ∃ W1, W1 = w.drew.alloc (.cells ROW 42) := ⟨_, rfl⟩
  have hB1 : Blk W1 H 42 ROW := by rw [hW1, hH]; exact Blk.new w.drew _ _
  have hW1b : Below w.heap.size w W1 := by rw [hW1]; exact (Below.refl _ w).drew.alloc (Nat.le_refl _) _
  rw [← hW1, ← hH] at hrz
  have hN : ∀ j, j < G * 4 → (W1.cell? ⟨H, j, none⟩).isSome = true := fun j hj => by rw [hB1.cell j (Array.getElem?_eq_getElem (by omega))]; rfl
  have hNf : ∀ j, W1.frozen? ⟨H, j, none⟩ = false := fun j => hB1.free j
  have hd : ((l.drop i).flatMap encV).length = (l.length - i) * 4 := by rw [flat_length encV_length, List.length_drop]
  have hcpA : ∀ ty dc, (Builtin.copy_ #[113, 43] ty #[.slice (some ⟨H, i * 4, none⟩) (l.length + 1 - i) dc, .slice (some ⟨vb, 0, none⟩) 1 1]).run Tryz.prog W1 = .ok (goInt 1) (W1.setCells H (i * 4) (encV x)) := fun ty dc => by
    have h := run_copy_many (P := Tryz.prog) 4 W1 113 43 ty 42 H (i * 4) (l.length + 1 - i) dc ⟨vb, 0, none⟩ 1 1 (encV x) Tryz.underlying113 hsz (by rw [encV_length]; simp only [Nat.min_def]; split <;> omega)
      (fun j v hj => by
        rw [add_lit, Nat.zero_add, hW1b.cell (p := ⟨vb, j, none⟩) hvw]
        exact hb.cell j (by simpa [encV] using hj))
      (fun j hj => hN _ (by rw [encV_length] at hj; omega)) (fun j hj => hNf _) (encV_one x)
    rw [h]
    congr 2
    simp only [Nat.min_def]; split <;> omega
  obtain ⟨W2, hW2⟩ : ∃ W2, W2 = W1.setCells H (i * 4) (encV x) := ⟨_, rfl⟩
  rw [← hW2] at hcpA
  have hgH : g ≠ H := by omega
  have hcpB : ∀ ty dc sc, (Builtin.copy_ #[113, 113] ty #[.slice (some ⟨H, (i + 1) * 4, none⟩) (l.length - i) dc, .slice (some ⟨g, i * 4, none⟩) (l.length - i) sc]).run Tryz.prog W2.drew = .ok (goInt (l.length - i)) (W2.drew.setCells H ((i + 1) * 4) ((l.drop i).flatMap encV)) := fun ty dc sc => by
    have h := run_copy_many (P := Tryz.prog) 4 W2.drew 113 113 ty 42 H ((i + 1) * 4) (l.length - i) dc ⟨g, i * 4, none⟩ (l.length - i) sc ((l.drop i).flatMap encV) Tryz.underlying113 hsz (by rw [hd]; simp only [Nat.min_def]; split <;> omega)
      (fun j v hj => by
        have h2 : (l.flatMap encV)[i * 4 + j]? = some v := by rw [← flat_drop encV_length l i (by omega), List.getElem?_drop] at hj; exact hj
        have h3 := hcells _ v h2
        rw [add_lit, Nat.zero_add] at h3
        rw [add_lit]
        show W2.cell? ⟨g, i * 4 + j, none⟩ = some v
        rw [hW2, World.cell?_setCells_out H _ _ _ _ (fun h _ => absurd h hgH), hW1b.cell (p := ⟨g, i * 4 + j, none⟩) hgw]
        exact h3)
      (fun j hj => by
        show (W2.cell? ⟨H, (i + 1) * 4 + j, none⟩).isSome = true
        rw [hW2]
        exact isSome_sets H (encV x) (i * 4) W1 (fun t ht => hN _ (by rw [encV_length] at ht; omega)) _ (hN _ (by rw [hd] at hj; omega)))
      (fun j hj => by
        show W2.frozen? ⟨H, (i + 1) * 4 + j, none⟩ = false
        rw [hW2, World.frozen?_setCells]; exact hNf _) (flat_one encV_one _)
    rw [h]
    congr 2
    simp only [Nat.min_def]; split <;> omega
  obtain ⟨W3, hW3⟩ : ∃ W3, W3 = W2.drew.setCells H ((i + 1) * 4) ((l.drop i).flatMap encV) := ⟨_, rfl⟩
  rw [← hW3] at hcpB
  have HEnd : Hid (W3.ownsRow base 42 4 (.slice (some ⟨H, 0, none⟩) (l.length + 1) G) (l.length + 1) ((l.take i ++ x :: l.drop i).flatMap encV) ∧ Below w.heap.size w W3) := Lib.hid (by
    obtain ⟨cur', h1, h2, h3⟩ := grow_blockv encV_length hi hGn hRs hRt x hB1
    refine ⟨⟨by rw [flat_length encV_length]; simp; omega, .inr ⟨H, G, cur', rfl, by omega, ?_, hGn, hGm, h2, h3⟩⟩, ?_⟩
    · rw [hW3, hW2]; exact h1
    · rw [hW3, hW2]; exact setCells_below (setCells_below hW1b (by omega) _ _).drew (by omega) _ _)
  have hz1 : ¬ ((i : Int) = (l.length : Int)) := by omega
  have hz3 : (cap : Int) < (l.length : Int) + 1 := by omega
  have hw1 : IntKind.i64.wrap ((i : Int) + 1) = (i : Int) + 1 := by rw [IntKind.wrap_i64]; omega
  have hb1 : (0 : Int) ≤ (i : Int) + 1 := by omega
  have hin : (i : Int) ≤ (l.length : Int) := by omega
  have htn : ((i : Int) + 1).toNat = i + 1 := by omega
  have hb2 : ¬ (G = i + 1) := by omega
  have hb3 : (i : Int) ≤ (l.length : Int) + 1 := by omega
  have hb4 : ¬ (G = i) := by omega
  have hb5 : ¬ (cap = i) := by omega
  have hb6 : (i : Int) ≤ (cap : Int) := by omega
  have hGm' : G ≤ 9223372036854775807 := by unfold maxLen at hGm; omega
  have HrZ := Lib.hid hrz
  have HcA := Lib.hid hcpA
  have HcB := Lib.hid hcpB
  have hcl : cap ≤ 1000000 := by omega
  clear hmax hcells hkk hik htk hold hG hROW hRs hRt hH hW1 hB1 hW1b hN hNf hd hW2 hW3 hrz hcpA hcpB hO hb hi0 hz0 hzs hzb
  have hcA := HcA.out
  go_enter Tryz.func121, Tryz.ntmps121
  go_wp2_with (at_builtin; refine Lib.wpList_append_run _ rfl _ _ _ _ rfl _ _ rfl rfl _ _ (HrZ.out _) ?_)
  clear hcA
  have hcB := HcB.out
  go_region_law (refine step_copy_is rfl _ _ 113 113 rfl _ _ (by simp [Act.eval, Act.put]) (by simp [Act.eval, Act.put]) (hcB _ _ _) ?_)
  go_wp2
  go_ret
  exact ⟨.slice (some ⟨H, 0, none⟩) (l.length + 1) G, rfl, HEnd.out.1, grown_below HEnd.out.2 _⟩

/-- The contract of slices.Insert of one element. -/
theorem ins_v (base : Nat) (v : Value) (l : List Vl) (i : Nat) (x : Vl) (w : World) (vb : Nat) (hb : Blk w vb 42 #[.int .i64 x.k, .int .i64 x.n, .string x.s, .bool x.b]) (hO : w.ownsRow base 42 4 v l.length (l.flatMap encV)) (hbase : base ≤ w.heap.size) (hl : l.length ≤ 1000000) (hi : i ≤ l.length) (hvb : v.ownBlock ≠ some vb) :
    Calls Tryz.prog 121 #[v, .int .i64 i, .slice (some ⟨vb, 0, none⟩) 1 1] w (Ins encV 42 4 base v l i x w) := by
  by_cases he : i = l.length
  · subst he; exact ins_end_v base v l x w vb hb hO hbase hl
  · rcases hO.2 with ⟨h0, h1⟩ | ⟨g, cap, cur, rfl, _⟩
    · omega
    · by_cases hroom : l.length + 1 ≤ cap
      · exact ins_shift_v base g cap l i x w vb hb hO hl (by omega) hroom (fun h => hvb (by simp [Value.ownBlock, h]))
      · exact ins_grow_v base g cap l i x w vb hb hO hbase hl (by omega) (by omega)
end Go.Proofs.YtlnjmcodgdebmaaGreat.Gm
