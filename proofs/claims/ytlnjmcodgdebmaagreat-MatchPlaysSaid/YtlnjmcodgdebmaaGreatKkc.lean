/- The contract of slices.Insert of one constraint into a row that the call owns. -/
import Derived.Test.YtlnjmcodgdebmaaGreatKj
import Derived.Test.YtlnjmcodgdebmaaGreatKkv
set_option linter.unusedSimpArgs false
set_option linter.unusedVariables false
namespace Go.Proofs.YtlnjmcodgdebmaaGreat.Gm
open Go Go.RowKit
attribute [local go_sem ↓] Go.wp_at_zero Go.wp_at_succ

set_option maxHeartbeats 4000000 in
set_option maxRecDepth 100000 in
theorem ins_end_c (base : Nat) (v : Value) (l : List Cn) (x : Cn) (w : World) (vb : Nat) (hb : Blk w vb 45 #[.string x.nm, .int .i64 x.op, .int .i64 x.v.k, .int .i64 x.v.n, .string x.v.s, .bool x.v.b, .slice x.sp x.set.length x.sc]) (hO : w.ownsRow base 45 7 v l.length (l.flatMap encC)) (hbase : base ≤ w.heap.size) (hl : l.length ≤ 1000000) :
    Calls Tryz.prog 102 #[v, .int .i64 l.length, .slice (some ⟨vb, 0, none⟩) 1 1] w (Ins encC 45 7 base v l l.length x w) := by
  obtain ⟨i0, ii, iz0, iz1, iz2⟩ := info_parts infoC
  have hsrc : Src w (.slice (some ⟨vb, 0, none⟩) 1 1) 1 7 (encC x) := .inr ⟨_, _, rfl, rfl, fun j u hu => by rw [add_lit, Nat.zero_add]; exact hb.cell j (by simpa [encC] using hu), encC_one x⟩
  have hEnd : Hid ((l.take l.length ++ x :: l.drop l.length).flatMap encC = l.flatMap encC ++ encC x) := Lib.hid (by simp)
  rcases hO.2 with ⟨rfl, h0⟩ | ⟨g, cap, cur, rfl, _, _, hcap, hmax, _⟩
  · have hl0 : l = [] := List.eq_nil_of_length_eq_zero h0
    subst hl0
    have HO := Lib.hid hO
    have HS := Lib.hid hsrc
    clear hO hb hsrc h0
    go_enter Tryz.func102, Tryz.ntmps102
    go_wp2_with (at_builtin; refine wpList_append_two (by rfl) _ _ 95 30 Tryz.underlying30 (by rfl) base 45 i0 (.agg #[.string ⟨#[]⟩, .int .i64 0, .int .i64 0, .int .i64 0, .string ⟨#[]⟩, .bool false, .slice none 0 0]) 7 88 Tryz.underlying95 ii iz0 iz1 iz2 rfl (by decide) (.slice none 0 0) 0 [] (by rfl) (World.ownsRow_nil _ _ _ _) _ 1 (encC x) (by rfl) HS.out 1 rfl (by unfold maxLen; omega) (by omega) hbase ?_; intro pA capA w3 hown3 hgrow3)
    go_ret
    exact ⟨.slice pA 1 capA, rfl, by simpa using hown3, hgrow3⟩
  · have HO := Lib.hid hO
    have HS := Lib.hid hsrc
    have hmx : cap ≤ 9223372036854775807 := by unfold maxLen at hmax; omega
    have hci : (l.length : Int) ≤ (cap : Int) := by omega
    clear hO hb hsrc hmax
    go_enter Tryz.func102, Tryz.ntmps102
    go_wp2_with (at_builtin; refine wpList_append_two (by rfl) _ _ 95 30 Tryz.underlying30 (by rfl) base 45 i0 (.agg #[.string ⟨#[]⟩, .int .i64 0, .int .i64 0, .int .i64 0, .string ⟨#[]⟩, .bool false, .slice none 0 0]) 7 88 Tryz.underlying95 ii iz0 iz1 iz2 rfl (by decide) _ _ _ (by rfl) HO.out _ 1 (encC x) (by rfl) HS.out (l.length + 1) rfl (by unfold maxLen; omega) (by omega) hbase ?_; intro pA capA w3 hown3 hgrow3)
    all_goals
      go_ret
      exact ⟨.slice pA (l.length + 1) capA, rfl, by rw [hEnd.out]; exact hown3, hgrow3⟩

set_option maxHeartbeats 1000000 in
/-- What a row's block holds behind the shift. -/
theorem shift_blockc {α : Type} [Inhabited α] {enc : α → List Value} (hn : ∀ x, (enc x).length = 7) {t : TypeId} {g : Nat} {cur : Array Value} {cap i : Nat} {l : List α} (hi : i < l.length) (hroom : l.length + 1 ≤ cap) (hcs : cur.size = cap * 7) (ht : cur.toList.take (l.length * 7) = l.flatMap enc) (x : α) {W : World} (hW : Blk W g t cur) :
    ∃ cur', Blk ((W.setCells g ((i + 1) * 7) ((l.drop i).flatMap enc)).setCells g (i * 7) (enc x)) g t cur' ∧ cur'.size = cap * 7 ∧ cur'.toList.take ((l.length + 1) * 7) = (l.take i ++ x :: l.drop i).flatMap enc := by
  have hd : ((l.drop i).flatMap enc).length = (l.length - i) * 7 := by rw [flat_length hn, List.length_drop]
  have b1 := setCells_block g t ((l.drop i).flatMap enc) ((i + 1) * 7) W cur hW (by rw [hd]; omega)
  obtain ⟨c1, hc1⟩ : ∃ c1, c1 = (cur.toList.take ((i + 1) * 7) ++ (l.drop i).flatMap enc ++ cur.toList.drop ((i + 1) * 7 + ((l.drop i).flatMap enc).length)) := ⟨_, rfl⟩
  rw [← hc1] at b1
  have hs1 : c1.length = cap * 7 := by rw [hc1]; simp only [List.length_append, List.length_take, List.length_drop, Array.length_toList, hd]; omega
  have b2 := setCells_block g t (enc x) (i * 7) _ _ b1 (by simp [hn, hs1]; omega)
  refine ⟨_, b2, by simp only [List.size_toArray, List.length_append, List.length_take, List.length_drop, Array.length_toList, hn, hs1]; omega, ?_⟩
  have h1 : c1.take (i * 7) = (l.take i).flatMap enc := by
    rw [hc1, List.append_assoc, List.take_append_of_le_length (by simp; omega), List.take_take, Nat.min_eq_left (by omega), ← flat_take hn l i (by omega), ← ht, List.take_take, Nat.min_eq_left (by omega)]
  have h2 : (c1.drop (i * 7 + 7)).take ((l.length - i) * 7) = (l.drop i).flatMap enc := by
    rw [hc1, List.append_assoc, List.drop_append_of_le_length (by simp; omega), List.drop_of_length_le (by simp; omega), List.nil_append, ← hd, List.take_left']
    rfl
  simp only [List.flatMap_append, List.flatMap_cons, hn]
  rw [h1]
  have h3 : ((l.take i).flatMap enc).length = i * 7 := by rw [flat_length hn, List.length_take, Nat.min_eq_left (by omega)]
  rw [List.append_assoc, show (l.length + 1) * 7 = ((l.take i).flatMap enc).length + (7 + (l.length - i) * 7) by rw [h3]; omega, List.take_length_add_append, show 7 + (l.length - i) * 7 = (enc x).length + (l.length - i) * 7 by rw [hn], List.take_length_add_append]
  rw [h2]


set_option maxHeartbeats 4000000 in
set_option maxRecDepth 100000 in
theorem ins_shift_c (base : Nat) (g cap : Nat) (l : List Cn) (i : Nat) (x : Cn) (w : World) (vb : Nat) (hb : Blk w vb 45 #[.string x.nm, .int .i64 x.op, .int .i64 x.v.k, .int .i64 x.v.n, .string x.v.s, .bool x.v.b, .slice x.sp x.set.length x.sc]) (hO : w.ownsRow base 45 7 (.slice (some ⟨g, 0, none⟩) l.length cap) l.length (l.flatMap encC)) (hl : l.length ≤ 1000000) (hi : i < l.length) (hroom : l.length + 1 ≤ cap) (hvb : vb ≠ g) :
    Calls Tryz.prog 102 #[.slice (some ⟨g, 0, none⟩) l.length cap, .int .i64 i, .slice (some ⟨vb, 0, none⟩) 1 1] w (Ins encC 45 7 base (.slice (some ⟨g, 0, none⟩) l.length cap) l i x w) := by
  rcases hO.2 with ⟨h0, _⟩ | ⟨g', cap', cur, hv, hbg, hh, hcap, hmax, hcs, ht⟩
  · simp at h0
  simp only [Value.slice.injEq, Option.some.injEq, Addr.mk.injEq, and_true, true_and] at hv
  obtain ⟨rfl, rfl⟩ := hv
  have hsz : (Tryz.prog.info? 45).map (·.size) = some 7 := by kernel_rfl
  have hmax' := hmax
  have hmx : cap ≤ 9223372036854775807 := by unfold maxLen at hmax; omega
  have hsp : ∀ j, j < cap * 7 → (w.cell? ⟨g, j, none⟩).isSome = true := fun j hj => by rw [cell_of_row w g j cur 45 (0, 0) hh, Array.getElem?_eq_getElem (by omega)]; rfl
  have hfz : ∀ j, w.frozen? ⟨g, j, none⟩ = false := fun j => Blk.free (t := 45) (cs := cur) hh j
  have hcells := World.ownsRow.cells hO (g := g) rfl
  have hov : ∀ lb cb, (callFunc 122 #[.slice (some ⟨vb, 0, none⟩) 1 1, .slice (some ⟨g, (i + 1) * 7, none⟩) lb cb]).run Tryz.prog w = .ok (.value (.bool false)) w := fun lb cb => by
    rw [run_callFunc_extern Tryz.func122 (by kernel_rfl) (by kernel_rfl) (by kernel_rfl) (e := Extern.SlicesOverlaps.overlaps #[30, 30] #[4]) (by kernel_rfl),
      Lib.run_overlaps_apart w 30 4 45 Tryz.underlying30 7 (fun w => Tryz.sizeOf45 w) ⟨vb, 0, none⟩ ⟨g, (i + 1) * 7, none⟩ 1 1 lb cb hvb 45 45 7 cur.size (by simp [World.shape?, show w.heap[vb]? = _ from hb]) (by simp [World.shape?, show w.heap[g]? = _ from hh]) (by rw [hcs]; omega) (hb.free 0) (hb.free 7)]
    rfl
  have hd : ((l.drop i).flatMap encC).length = (l.length - i) * 7 := by rw [flat_length encC_length, List.length_drop]
  have hcp1 : ∀ ty dc sc, (Builtin.copy_ #[95, 95] ty #[.slice (some ⟨g, (i + 1) * 7, none⟩) (l.length - i) dc, .slice (some ⟨g, i * 7, none⟩) (l.length + 1 - i) sc]).run Tryz.prog w.drew = .ok (goInt (l.length - i)) (w.drew.setCells g ((i + 1) * 7) ((l.drop i).flatMap encC)) := fun ty dc sc => by
    have h := run_copy_many (P := Tryz.prog) 7 w.drew 95 95 ty 45 g ((i + 1) * 7) (l.length - i) dc ⟨g, i * 7, none⟩ (l.length + 1 - i) sc ((l.drop i).flatMap encC) Tryz.underlying95 hsz (by rw [hd]; simp only [Nat.min_def]; split <;> omega)
      (fun j v hj => by
        rw [add_lit]
        have h2 : (l.flatMap encC)[i * 7 + j]? = some v := by rw [← flat_drop encC_length l i (by omega), List.getElem?_drop] at hj; exact hj
        have := hcells _ v h2
        rwa [add_lit, Nat.zero_add] at this)
      (fun j hj => hsp _ (by rw [hd] at hj; omega)) (fun j hj => hfz _) (flat_one encC_one _)
    rw [h]
    congr 2
    simp only [Nat.min_def]; split <;> omega
  obtain ⟨W1, hW1⟩ : ∃ W1, W1 = w.drew.setCells g ((i + 1) * 7) ((l.drop i).flatMap encC) := ⟨_, rfl⟩
  have hsp1 : ∀ k, k < cap * 7 → (W1.cell? ⟨g, k, none⟩).isSome = true := fun k hk => by
    rw [hW1]
    exact isSome_sets g ((l.drop i).flatMap encC) ((i + 1) * 7) w.drew (fun j hj => hsp ((i + 1) * 7 + j) (by rw [hd] at hj; omega)) k (hsp k hk)
  have hcp2 : ∀ (W : World), (∀ x, W.cell? x = W1.cell? x) → (∀ x, W.frozen? x = W1.frozen? x) → ∀ ty dc, (Builtin.copy_ #[95, 30] ty #[.slice (some ⟨g, i * 7, none⟩) (l.length + 1 - i) dc, .slice (some ⟨vb, 0, none⟩) 1 1]).run Tryz.prog W = .ok (goInt 1) (W.setCells g (i * 7) (encC x)) := fun W hWc hWf ty dc => by
    have h := run_copy_many (P := Tryz.prog) 7 W 95 30 ty 45 g (i * 7) (l.length + 1 - i) dc ⟨vb, 0, none⟩ 1 1 (encC x) Tryz.underlying95 hsz (by rw [encC_length]; simp only [Nat.min_def]; split <;> omega)
      (fun j v hj => by
        rw [add_lit, hWc, hW1, World.cell?_setCells_out g _ _ _ _ (fun h _ => absurd h hvb), Nat.zero_add]
        exact hb.cell j (by simpa [encC] using hj))
      (fun j hj => by rw [hWc]; exact hsp1 _ (by rw [encC_length] at hj; omega)) (fun j hj => by rw [hWf, hW1, World.frozen?_setCells]; exact hfz _) (encC_one x)
    rw [h]
    congr 2
    simp only [Nat.min_def]; split <;> omega
  rw [← hW1] at hcp1
  have hIns : Hid (∀ W, Blk W g 45 cur → ∃ cur', Blk ((W.setCells g ((i + 1) * 7) ((l.drop i).flatMap encC)).setCells g (i * 7) (encC x)) g 45 cur' ∧ cur'.size = cap * 7 ∧ cur'.toList.take ((l.length + 1) * 7) = (l.take i ++ x :: l.drop i).flatMap encC) := Lib.hid fun W hW => shift_blockc encC_length hi hroom hcs ht x hW
  have HH := Lib.hid hh
  have HW1 := Lib.hid hW1
  have HC2 := Lib.hid hcp2
  have HLen : Hid (((l.take i ++ x :: l.drop i).flatMap encC).length = (l.length + 1) * 7) := Lib.hid (by rw [flat_length encC_length]; simp; omega)
  have hz1 : ¬ ((i : Int) = (l.length : Int)) := by omega
  have hw1 : IntKind.i64.wrap ((i : Int) + 1) = (i : Int) + 1 := by rw [IntKind.wrap_i64]; omega
  have hb1 : (0 : Int) ≤ (i : Int) + 1 := by omega
  have hin : (i : Int) ≤ (l.length : Int) := by omega
  have htn : ((i : Int) + 1).toNat = i + 1 := by omega
  have hb2 : ¬ (cap = i + 1) := by omega
  have hb3 : (i : Int) ≤ (l.length : Int) + 1 := by omega
  have hb4 : ¬ (cap = i) := by omega
  clear hh hW1 hcp2 hcells hd ht hsp hsp1 hfz hO hb hcs hmax
  go_enter Tryz.func102, Tryz.ntmps102
  go_wp2_with (simp only [hov])
  go_region_law (refine step_copy_is rfl _ _ 95 95 rfl _ _ (by simp [Act.eval, Act.put]) (by simp [Act.eval, Act.put]) (hcp1 _ _ _) ?_)
  have hcp3 := HC2.out W1 (fun _ => rfl) (fun _ => rfl)
  clear hcp1 hov
  go_wp2
  go_ret
  refine ⟨.slice (some ⟨g, 0, none⟩) (l.length + 1) cap, rfl, ?_, ?_⟩
  · obtain ⟨cur', h1, h2, h3⟩ := hIns.out w.drew HH.out
    rw [HW1.out]
    exact ⟨HLen.out, .inr ⟨g, cap, cur', rfl, hbg, h1, hroom, hmax', h2, h3⟩⟩
  · rw [HW1.out]
    exact setCells_grown (setCells_grown (grown_below (Below.refl _ w).drew (some g)) _ _) _ _

set_option maxHeartbeats 1000000 in
/-- What a new row's block holds behind the two copies. -/
theorem grow_blockc {α : Type} [Inhabited α] {enc : α → List Value} (hn : ∀ x, (enc x).length = 7) {t : TypeId} {g : Nat} {cur : Array Value} {cap i : Nat} {l : List α} (hi : i < l.length) (hroom : l.length + 1 ≤ cap) (hcs : cur.size = cap * 7) (ht : cur.toList.take (i * 7) = (l.take i).flatMap enc) (x : α) {W : World} (hW : Blk W g t cur) :
    ∃ cur', Blk ((W.setCells g (i * 7) (enc x)).drew.setCells g ((i + 1) * 7) ((l.drop i).flatMap enc)) g t cur' ∧ cur'.size = cap * 7 ∧ cur'.toList.take ((l.length + 1) * 7) = (l.take i ++ x :: l.drop i).flatMap enc := by
  have hd : ((l.drop i).flatMap enc).length = (l.length - i) * 7 := by rw [flat_length hn, List.length_drop]
  have b1 := setCells_block g t (enc x) (i * 7) W cur hW (by rw [hn]; omega)
  obtain ⟨c1, hc1⟩ : ∃ c1, c1 = (cur.toList.take (i * 7) ++ enc x ++ cur.toList.drop (i * 7 + (enc x).length)) := ⟨_, rfl⟩
  rw [← hc1] at b1
  have b1 : Blk (W.setCells g (i * 7) (enc x)).drew g t c1.toArray := b1
  have hs1 : c1.length = cap * 7 := by rw [hc1]; simp only [List.length_append, List.length_take, List.length_drop, Array.length_toList, hn]; omega
  have b2 := setCells_block g t ((l.drop i).flatMap enc) ((i + 1) * 7) _ _ b1 (by simp only [List.size_toArray, hs1]; rw [hd]; omega)
  refine ⟨_, b2, by simp only [List.size_toArray, List.length_append, List.length_take, List.length_drop, Array.length_toList, hd, hs1]; omega, ?_⟩
  have h3 : ((l.take i).flatMap enc).length = i * 7 := by rw [flat_length hn, List.length_take, Nat.min_eq_left (by omega)]
  have h1 : c1.take ((i + 1) * 7) = (l.take i).flatMap enc ++ enc x := by
    rw [hc1, ht, List.take_append_of_le_length (by rw [List.length_append, h3, hn]; omega), List.take_of_length_le (by rw [List.length_append, h3, hn]; omega)]
  simp only [List.flatMap_append, List.flatMap_cons]
  rw [h1]
  have h4 : ((l.take i).flatMap enc ++ enc x ++ (l.drop i).flatMap enc).length = (l.length + 1) * 7 := by rw [List.length_append, List.length_append, h3, hn, hd]; omega
  rw [List.take_append_of_le_length (by rw [h4]; omega), List.take_of_length_le (by rw [h4]; omega), List.append_assoc]

set_option maxHeartbeats 4000000 in
set_option maxRecDepth 100000 in
theorem ins_grow_c (base : Nat) (g cap : Nat) (l : List Cn) (i : Nat) (x : Cn) (w : World) (vb : Nat) (hb : Blk w vb 45 #[.string x.nm, .int .i64 x.op, .int .i64 x.v.k, .int .i64 x.v.n, .string x.v.s, .bool x.v.b, .slice x.sp x.set.length x.sc]) (hO : w.ownsRow base 45 7 (.slice (some ⟨g, 0, none⟩) l.length cap) l.length (l.flatMap encC)) (hbase : base ≤ w.heap.size) (hl : l.length ≤ 1000000) (hi : i < l.length) (hroom : cap < l.length + 1) :
    Calls Tryz.prog 102 #[.slice (some ⟨g, 0, none⟩) l.length cap, .int .i64 i, .slice (some ⟨vb, 0, none⟩) 1 1] w (Ins encC 45 7 base (.slice (some ⟨g, 0, none⟩) l.length cap) l i x w) := by
  have hmax : cap = l.length := by
    rcases hO.2 with ⟨h0, _⟩ | ⟨g', cap', cur, hv, _, _, h1, _⟩
    · simp at h0
    · simp only [Value.slice.injEq, true_and] at hv
      omega
  obtain ⟨i0, hi0, hz0, hzs, hzb⟩ := info_parts infoC
  have hsz : (Tryz.prog.info? 45).map (·.size) = some 7 := by kernel_rfl
  have hcells := World.ownsRow.cells hO (g := g) rfl
  have hgw : g < w.heap.size := (World.ownsRow.lt hO g rfl).2
  have hvw : vb < w.heap.size := hb.lt
  have hkk : (l.length : Int) + 1 - (i : Int) = ((l.length + 1 - i : Nat) : Int) := by omega
  have hik : i + (l.length + 1 - i) = l.length + 1 := by omega
  have htk : ((l.take i).flatMap encC).length = i * 7 := by rw [flat_length encC_length, List.length_take, Nat.min_eq_left (by omega)]
  have hold : (Builtin.firstCells i0.size i (.slice (some ⟨g, 0, none⟩) i cap)).run Tryz.prog w.drew = .ok ((l.take i).flatMap encC).toArray w.drew := by
    rw [hzs]
    exact run_firstCells_some w.drew 7 i ⟨g, 0, none⟩ i cap ((l.take i).flatMap encC) htk (fun j v hj => by
      rw [← flat_take encC_length l i (by omega), List.getElem?_take] at hj
      split at hj
      · exact hcells j v hj
      · cases hj)
  have hrz : ∀ ty, (Builtin.append_ #[95, 3] ty #[.slice (some ⟨g, 0, none⟩) i cap, .int .i64 ((l.length : Int) + 1 - (i : Int))]).run Tryz.prog w =
      .ok (.slice (some ⟨w.heap.size, 0, none⟩) (l.length + 1) (grownCap w (l.length + 1) cap 45)) (w.drew.alloc (.cells (((l.take i).flatMap encC).toArray ++ Builtin.zeroCells (Value.cells (.agg #[.string ⟨#[]⟩, .int .i64 0, .int .i64 0, .int .i64 0, .string ⟨#[]⟩, .bool false, .slice none 0 0])) (l.length + 1 - i) ++ Builtin.zeroCells (Value.cells (.agg #[.string ⟨#[]⟩, .int .i64 0, .int .i64 0, .int .i64 0, .string ⟨#[]⟩, .bool false, .slice none 0 0])) (grownCap w (l.length + 1) cap 45 - (l.length + 1))) 45)) := fun ty => by
    have h := Lib.run_append_grow_zeros w 95 3 ty 45 i0 _ .i64 .i64 Tryz.underlying95 Tryz.underlying3 hi0 hz0 (some ⟨g, 0, none⟩) i cap ((l.take i).flatMap encC) hold (l.length + 1 - i) (by omega) (by omega) (by omega) (by omega) (by rw [hzb]; omega) (by rw [hzb, hik]; exact growslice_fits hroom (by omega))
    rw [hik] at h
    rw [hkk]
    exact h
  obtain ⟨G, hG⟩ : ∃ G, G = grownCap w (l.length + 1) cap 45 := ⟨_, rfl⟩
  obtain ⟨ROW, hROW⟩ : ∃ ROW : Array Value, ROW = ((l.take i).flatMap encC).toArray ++ Builtin.zeroCells (Value.cells (.agg #[.string ⟨#[]⟩, .int .i64 0, .int .i64 0, .int .i64 0, .string ⟨#[]⟩, .bool false, .slice none 0 0])) (l.length + 1 - i) ++ Builtin.zeroCells (Value.cells (.agg #[.string ⟨#[]⟩, .int .i64 0, .int .i64 0, .int .i64 0, .string ⟨#[]⟩, .bool false, .slice none 0 0])) (G - (l.length + 1)) := ⟨_, rfl⟩
  rw [← hG] at hrz
  rw [← hROW] at hrz
  have hGn : l.length + 1 ≤ G := by rw [hG]; exact grownCap_ge w _ _ _
  have hGm : G ≤ maxLen := by rw [hG]; exact grownCap_le_maxLen w _ _ _ (by unfold maxLen; omega)
  have hRs : ROW.size = G * 7 := by
    have hz : (Value.cells (.agg #[.string ⟨#[]⟩, .int .i64 0, .int .i64 0, .int .i64 0, .string ⟨#[]⟩, .bool false, .slice none 0 0])).size = 7 := by decide
    rw [hROW]
    simp only [Array.size_append, List.size_toArray, htk, size_zeroCells, hz]
    omega
  have hRt : ROW.toList.take (i * 7) = (l.take i).flatMap encC := by
    rw [hROW, Array.toList_append, Array.toList_append, List.append_assoc, List.take_append_of_le_length (by simp [htk]), List.take_of_length_le (by simp [htk])]
  obtain ⟨H, hH⟩ : ∃ H, H = w.heap.size := ⟨_, rfl⟩
  obtain ⟨W1, hW1⟩ : ∃ W1, W1 = w.drew.alloc (.cells ROW 45) := ⟨_, rfl⟩
  have hB1 : Blk W1 H 45 ROW := by rw [hW1, hH]; exact Blk.new w.drew _ _
  have hW1b : Below w.heap.size w W1 := by rw [hW1]; exact (Below.refl _ w).drew.alloc (Nat.le_refl _) _
  rw [← hW1, ← hH] at hrz
  have hN : ∀ j, j < G * 7 → (W1.cell? ⟨H, j, none⟩).isSome = true := fun j hj => by rw [hB1.cell j (Array.getElem?_eq_getElem (by omega))]; rfl
  have hNf : ∀ j, W1.frozen? ⟨H, j, none⟩ = false := fun j => hB1.free j
  have hd : ((l.drop i).flatMap encC).length = (l.length - i) * 7 := by rw [flat_length encC_length, List.length_drop]
  have hcpA : ∀ ty dc, (Builtin.copy_ #[95, 30] ty #[.slice (some ⟨H, i * 7, none⟩) (l.length + 1 - i) dc, .slice (some ⟨vb, 0, none⟩) 1 1]).run Tryz.prog W1 = .ok (goInt 1) (W1.setCells H (i * 7) (encC x)) := fun ty dc => by
    have h := run_copy_many (P := Tryz.prog) 7 W1 95 30 ty 45 H (i * 7) (l.length + 1 - i) dc ⟨vb, 0, none⟩ 1 1 (encC x) Tryz.underlying95 hsz (by rw [encC_length]; simp only [Nat.min_def]; split <;> omega)
      (fun j v hj => by
        rw [add_lit, Nat.zero_add, hW1b.cell (p := ⟨vb, j, none⟩) hvw]
        exact hb.cell j (by simpa [encC] using hj))
      (fun j hj => hN _ (by rw [encC_length] at hj; omega)) (fun j hj => hNf _) (encC_one x)
    rw [h]
    congr 2
    simp only [Nat.min_def]; split <;> omega
  obtain ⟨W2, hW2⟩ : ∃ W2, W2 = W1.setCells H (i * 7) (encC x) := ⟨_, rfl⟩
  rw [← hW2] at hcpA
  have hgH : g ≠ H := by omega
  have hcpB : ∀ ty dc sc, (Builtin.copy_ #[95, 95] ty #[.slice (some ⟨H, (i + 1) * 7, none⟩) (l.length - i) dc, .slice (some ⟨g, i * 7, none⟩) (l.length - i) sc]).run Tryz.prog W2.drew = .ok (goInt (l.length - i)) (W2.drew.setCells H ((i + 1) * 7) ((l.drop i).flatMap encC)) := fun ty dc sc => by
    have h := run_copy_many (P := Tryz.prog) 7 W2.drew 95 95 ty 45 H ((i + 1) * 7) (l.length - i) dc ⟨g, i * 7, none⟩ (l.length - i) sc ((l.drop i).flatMap encC) Tryz.underlying95 hsz (by rw [hd]; simp only [Nat.min_def]; split <;> omega)
      (fun j v hj => by
        have h2 : (l.flatMap encC)[i * 7 + j]? = some v := by rw [← flat_drop encC_length l i (by omega), List.getElem?_drop] at hj; exact hj
        have h3 := hcells _ v h2
        rw [add_lit, Nat.zero_add] at h3
        rw [add_lit]
        show W2.cell? ⟨g, i * 7 + j, none⟩ = some v
        rw [hW2, World.cell?_setCells_out H _ _ _ _ (fun h _ => absurd h hgH), hW1b.cell (p := ⟨g, i * 7 + j, none⟩) hgw]
        exact h3)
      (fun j hj => by
        show (W2.cell? ⟨H, (i + 1) * 7 + j, none⟩).isSome = true
        rw [hW2]
        exact isSome_sets H (encC x) (i * 7) W1 (fun t ht => hN _ (by rw [encC_length] at ht; omega)) _ (hN _ (by rw [hd] at hj; omega)))
      (fun j hj => by
        show W2.frozen? ⟨H, (i + 1) * 7 + j, none⟩ = false
        rw [hW2, World.frozen?_setCells]; exact hNf _) (flat_one encC_one _)
    rw [h]
    congr 2
    simp only [Nat.min_def]; split <;> omega
  obtain ⟨W3, hW3⟩ : ∃ W3, W3 = W2.drew.setCells H ((i + 1) * 7) ((l.drop i).flatMap encC) := ⟨_, rfl⟩
  rw [← hW3] at hcpB
  have HEnd : Hid (W3.ownsRow base 45 7 (.slice (some ⟨H, 0, none⟩) (l.length + 1) G) (l.length + 1) ((l.take i ++ x :: l.drop i).flatMap encC) ∧ Below w.heap.size w W3) := Lib.hid (by
    obtain ⟨cur', h1, h2, h3⟩ := grow_blockc encC_length hi hGn hRs hRt x hB1
    refine ⟨⟨by rw [flat_length encC_length]; simp; omega, .inr ⟨H, G, cur', rfl, by omega, ?_, hGn, hGm, h2, h3⟩⟩, ?_⟩
    · rw [hW3, hW2]; exact h1
    · rw [hW3, hW2]; exact setCells_below (setCells_below hW1b (by omega) _ _).drew (by omega) _ _)
  have hz1 : ¬ ((i : Int) = (l.length : Int)) := by omega
  have hz3 : (cap : Int) < (l.length : Int) + 1 := by omega
  have hw1 : IntKind.i64.wrap ((i : Int) + 1) = (i : Int) + 1 := by rw [IntKind.wrap_i64]; omega
  have hb1 : (0 : Int) ≤ (i : Int) + 1 := by omega
  have hin : (i : Int) ≤ (l.length : Int) := by omega
  have htn : ((i : Int) + 1).toNat = i + 1 := by omega
  have hb2 : ¬ (G = i + 1) := by omega
  have hb3 : (i : Int) ≤ (l.length : Int) + 1 := by omega
  have hb4 : ¬ (G = i) := by omega
  have hb5 : ¬ (cap = i) := by omega
  have hb6 : (i : Int) ≤ (cap : Int) := by omega
  have hGm' : G ≤ 9223372036854775807 := by unfold maxLen at hGm; omega
  have HrZ := Lib.hid hrz
  have HcA := Lib.hid hcpA
  have HcB := Lib.hid hcpB
  have hcl : cap ≤ 1000000 := by omega
  clear hmax hcells hkk hik htk hold hG hROW hRs hRt hH hW1 hB1 hW1b hN hNf hd hW2 hW3 hrz hcpA hcpB hO hb hi0 hz0 hzs hzb
  have hcA := HcA.out
  go_enter Tryz.func102, Tryz.ntmps102
  go_wp2_with (at_builtin; refine Lib.wpList_append_run _ rfl _ _ _ _ rfl _ _ rfl rfl _ _ (HrZ.out _) ?_)
  clear hcA
  have hcB := HcB.out
  go_region_law (refine step_copy_is rfl _ _ 95 95 rfl _ _ (by simp [Act.eval, Act.put]) (by simp [Act.eval, Act.put]) (hcB _ _ _) ?_)
  go_wp2
  go_ret
  exact ⟨.slice (some ⟨H, 0, none⟩) (l.length + 1) G, rfl, HEnd.out.1, grown_below HEnd.out.2 _⟩

/-- The contract of slices.Insert of one element. -/
theorem ins_c (base : Nat) (v : Value) (l : List Cn) (i : Nat) (x : Cn) (w : World) (vb : Nat) (hb : Blk w vb 45 #[.string x.nm, .int .i64 x.op, .int .i64 x.v.k, .int .i64 x.v.n, .string x.v.s, .bool x.v.b, .slice x.sp x.set.length x.sc]) (hO : w.ownsRow base 45 7 v l.length (l.flatMap encC)) (hbase : base ≤ w.heap.size) (hl : l.length ≤ 1000000) (hi : i ≤ l.length) (hvb : v.ownBlock ≠ some vb) :
    Calls Tryz.prog 102 #[v, .int .i64 i, .slice (some ⟨vb, 0, none⟩) 1 1] w (Ins encC 45 7 base v l i x w) := by
  by_cases he : i = l.length
  · subst he; exact ins_end_c base v l x w vb hb hO hbase hl
  · rcases hO.2 with ⟨h0, h1⟩ | ⟨g, cap, cur, rfl, _⟩
    · omega
    · by_cases hroom : l.length + 1 ≤ cap
      · exact ins_shift_c base g cap l i x w vb hb hO hl (by omega) hroom (fun h => hvb (by simp [Value.ownBlock, h]))
      · exact ins_grow_c base g cap l i x w vb hb hO hbase hl (by omega) (by omega)
end Go.Proofs.YtlnjmcodgdebmaaGreat.Gm
