/- The walk of WireKnown: the document's examples, ends, none. -/
import Derived.Test.YtapgjplcelbncaaWb
import Derived.Test.YtapgjplcelbncaaWj
import Derived.ArgAppend
set_option linter.unusedSimpArgs false
set_option linter.unusedVariables false
namespace Go.Proofs.Ytapgjplcelbncaa
open Go Go.RowKit Gm
attribute [local go_sem ↓] Go.wp_at_zero Go.wp_at_succ

def rows10 : List (List UInt8 × Nat × Nat) := [([], 0, 4), ([128], 0, 4), ([128, 0], 0, 5), ([5], 0, 3), ([4], 4, 0), (List.replicate 9 255, 0, 4), (List.replicate 10 255, 0, 5), (List.replicate 9 255 ++ [2], 0, 5), (List.replicate 9 255 ++ [0], 0, 5), (List.replicate 9 255 ++ [1], 0, 3)]
theorem rows_ok : ∀ i, i < 10 → numV (rows10.getD i default).1 4 = (rows10.getD i default).2.1 ∧ numE (rows10.getD i default).1 4 = (rows10.getD i default).2.2 ∧ (rows10.getD i default).1.length ≤ 10 := by
  intro i hi
  have : i = 0 ∨ i = 1 ∨ i = 2 ∨ i = 3 ∨ i = 4 ∨ i = 5 ∨ i = 6 ∨ i = 7 ∨ i = 8 ∨ i = 9 := by omega
  rcases this with rfl | rfl | rfl | rfl | rfl | rfl | rfl | rfl | rfl | rfl <;> exact ⟨by decide +kernel, by decide +kernel, by decide +kernel⟩
theorem bs_at (w : World) (L : List UInt8) (cs : Array Value) (n H : Nat) (hc : cs = (cellsB L).toArray) (hn : L.length = n) (hl : L.length ≤ 100000) (hH : w.heap.size = H) : Bs (w.alloc (.cells cs 5)) (.slice (some ⟨H, 0, none⟩) n n) L := by
  subst hH; exact bs_lit w L cs n hc hn hl
theorem bs_cells {w : World} {a : Addr} {n c : Nat} {L : List UInt8} (h : Bs w (.slice (some a) n c) L) : ∀ j u, (cellsB L)[j]? = some u → w.cell? (a.add j) = some u := by
  rcases h.src with ⟨h, _⟩ | ⟨ad, c', h1, _, h3, _⟩
  · cases h
  · cases h1; exact h3
/-- A table of rows in memory. -/
def TabIn (w : World) (g : Nat) : Prop := ∀ i, i < 10 → ∃ v, Bs w v (rows10.getD i default).1 ∧ w.cell? ⟨g, i * 3, none⟩ = some v ∧ w.cell? ⟨g, i * 3 + 1, none⟩ = some (.int .u64 ((rows10.getD i default).2.1 : Nat)) ∧ w.cell? ⟨g, i * 3 + 2, none⟩ = some (.int .i64 ((rows10.getD i default).2.2 : Nat))
theorem TabIn.below {w w' : World} {g : Nat} (h : TabIn w g) (hg : g < w.heap.size) (b : Below w.heap.size w w') : TabIn w' g := fun i hi => by
  obtain ⟨v, h1, h2, h3, h4⟩ := h i hi
  exact ⟨v, h1.below b, (b.cell (p := ⟨g, i * 3, none⟩) hg).trans h2, (b.cell (p := ⟨g, i * 3 + 1, none⟩) hg).trans h3, (b.cell (p := ⟨g, i * 3 + 2, none⟩) hg).trans h4⟩
theorem tab_new (w : World) (cs : Array Value) (v1 v2 v3 v4 v5 v6 v7 v8 v9 : Value) (hcs : cs = #[.slice none 0 0, .int .u64 0, .int .i64 4, v1, .int .u64 0, .int .i64 4, v2, .int .u64 0, .int .i64 5, v3, .int .u64 0, .int .i64 3, v4, .int .u64 4, .int .i64 0, v5, .int .u64 0, .int .i64 4, v6, .int .u64 0, .int .i64 5, v7, .int .u64 0, .int .i64 5, v8, .int .u64 0, .int .i64 5, v9, .int .u64 0, .int .i64 3])
    (h1 : Bs w v1 [128]) (h2 : Bs w v2 [128, 0]) (h3 : Bs w v3 [5]) (h4 : Bs w v4 [4]) (h5 : Bs w v5 (List.replicate 9 255)) (h6 : Bs w v6 (List.replicate 10 255)) (h7 : Bs w v7 (List.replicate 9 255 ++ [2])) (h8 : Bs w v8 (List.replicate 9 255 ++ [0])) (h9 : Bs w v9 (List.replicate 9 255 ++ [1])) : TabIn (w.alloc (.cells cs 65)) w.heap.size := by
  subst hcs
  have hb := Blk.new w 65 #[.slice none 0 0, .int .u64 0, .int .i64 4, v1, .int .u64 0, .int .i64 4, v2, .int .u64 0, .int .i64 5, v3, .int .u64 0, .int .i64 3, v4, .int .u64 4, .int .i64 0, v5, .int .u64 0, .int .i64 4, v6, .int .u64 0, .int .i64 5, v7, .int .u64 0, .int .i64 5, v8, .int .u64 0, .int .i64 5, v9, .int .u64 0, .int .i64 3]
  have A := below_one w (.cells #[.slice none 0 0, .int .u64 0, .int .i64 4, v1, .int .u64 0, .int .i64 4, v2, .int .u64 0, .int .i64 5, v3, .int .u64 0, .int .i64 3, v4, .int .u64 4, .int .i64 0, v5, .int .u64 0, .int .i64 4, v6, .int .u64 0, .int .i64 5, v7, .int .u64 0, .int .i64 5, v8, .int .u64 0, .int .i64 5, v9, .int .u64 0, .int .i64 3] 65)
  intro i hi
  have : i = 0 ∨ i = 1 ∨ i = 2 ∨ i = 3 ∨ i = 4 ∨ i = 5 ∨ i = 6 ∨ i = 7 ∨ i = 8 ∨ i = 9 := by omega
  rcases this with rfl | rfl | rfl | rfl | rfl | rfl | rfl | rfl | rfl | rfl
  · exact ⟨_, Bs.nil _, hb.cell (0 * 3) rfl, hb.cell (0 * 3 + 1) rfl, hb.cell (0 * 3 + 2) rfl⟩
  · exact ⟨v1, h1.below A, hb.cell (1 * 3) rfl, hb.cell (1 * 3 + 1) rfl, hb.cell (1 * 3 + 2) rfl⟩
  · exact ⟨v2, h2.below A, hb.cell (2 * 3) rfl, hb.cell (2 * 3 + 1) rfl, hb.cell (2 * 3 + 2) rfl⟩
  · exact ⟨v3, h3.below A, hb.cell (3 * 3) rfl, hb.cell (3 * 3 + 1) rfl, hb.cell (3 * 3 + 2) rfl⟩
  · exact ⟨v4, h4.below A, hb.cell (4 * 3) rfl, hb.cell (4 * 3 + 1) rfl, hb.cell (4 * 3 + 2) rfl⟩
  · exact ⟨v5, h5.below A, hb.cell (5 * 3) rfl, hb.cell (5 * 3 + 1) rfl, hb.cell (5 * 3 + 2) rfl⟩
  · exact ⟨v6, h6.below A, hb.cell (6 * 3) rfl, hb.cell (6 * 3 + 1) rfl, hb.cell (6 * 3 + 2) rfl⟩
  · exact ⟨v7, h7.below A, hb.cell (7 * 3) rfl, hb.cell (7 * 3 + 1) rfl, hb.cell (7 * 3 + 2) rfl⟩
  · exact ⟨v8, h8.below A, hb.cell (8 * 3) rfl, hb.cell (8 * 3 + 1) rfl, hb.cell (8 * 3 + 2) rfl⟩
  · exact ⟨v9, h9.below A, hb.cell (9 * 3) rfl, hb.cell (9 * 3 + 1) rfl, hb.cell (9 * 3 + 2) rfl⟩
theorem index_tab (b n cap k : Nat) (hk : k < n) (W : World) :
    (Instr.indexAt 67 (.slice (some ⟨b, 0, none⟩) n cap) (.int .i64 (k : Int))).run Try.prog W = .ok (.pointer (some ⟨b, k * 3, none⟩)) W := by
  go_simp

theorem wrnum_nil (n : Nat) (w : World) : Calls Try.prog 18 #[.pointer none, .int .u64 n] w (Gives (.tuple #[.int .u64 0, .int .i64 2]) w) := by
  have HIs := Lib.hid (fun W => wis_nil W)
  go_enter_defers Try.func18, Try.ntmps18
  go_wp2_with fail
  refine (HIs.out _).mono ?_; rintro e w1 ⟨rfl, rfl⟩
  go_wp2_with fail
  refine ⟨_, ?_, rfl, below_one w (.cells #[.int .i64 2] 40)⟩
  simp [results, Try.results18, go_sem]
theorem wrbytes_nil (n : Int) (w : World) : Calls Try.prog 22 #[.pointer none, .int .i64 n] w (Gives (.tuple #[.slice none 0 0, .int .i64 2]) w) := by
  have HIs := Lib.hid (fun W => wis_nil W)
  go_enter_defers Try.func22, Try.ntmps22
  go_wp2_with fail
  refine (HIs.out _).mono ?_; rintro e w1 ⟨rfl, rfl⟩
  go_wp2_with fail
  refine ⟨_, ?_, rfl, below_one w (.cells #[.int .i64 2] 40)⟩
  simp [results, Try.results22, go_sem]
theorem wrint_nil (w : World) : Calls Try.prog 20 #[.pointer none] w (Gives (.tuple #[.int .i64 0, .int .i64 2]) w) := by
  have HN := Lib.hid (wrnum_nil 18446744073709551615 w)
  have HU := Lib.hid (fun W => wunfold_any 0 (by decide) W)
  go_enter Try.func20, Try.ntmps20
  go_wp2_with fail
  refine HN.out.mono ?_; rintro e w1 ⟨rfl, b⟩
  have HB := Lib.hid b
  clear b
  go_wp2_with fail
  refine (HU.out _).mono ?_; rintro e w2 ⟨rfl, rfl⟩
  go_wp2_with fail
  go_ret2
  exact ⟨rfl, HB.out⟩
theorem wleft_nil (w : World) : Calls Try.prog 24 #[.pointer none] w (Quits (.int .i64 0) w) := by
  go_enter Try.func24, Try.ntmps24
  go_wp2_with fail
  refine (wis_nil w).mono ?_; rintro e w1 ⟨rfl, rfl⟩
  go_wp2_with fail
  go_ret
  exact ⟨rfl, rfl⟩
theorem wend_nil (w : World) : Calls Try.prog 25 #[.pointer none] w (Quits (.int .i64 2) w) := by
  go_enter Try.func25, Try.ntmps25
  go_wp2_with fail
  refine (wis_nil w).mono ?_; rintro e w1 ⟨rfl, rfl⟩
  go_wp2_with fail
  go_ret
  exact ⟨rfl, rfl⟩
theorem wend_not (R : Nat) (v : Value) (w : World) (hR : Blk w R 69 #[.bool false, v]) : Calls Try.prog 25 #[.pointer (some ⟨R, 0, none⟩)] w (Quits (.int .i64 2) w) := by
  have HR := Lib.hid hR
  clear hR
  go_enter Try.func25, Try.ntmps25
  go_wp2_with fail
  refine (wis_not R v w HR.out).mono ?_; rintro e w1 ⟨rfl, rfl⟩
  go_wp2_with fail
  go_ret
  exact ⟨rfl, rfl⟩

set_option maxHeartbeats 8000000 in
set_option maxRecDepth 100000 in
theorem law_wknown (w : World) : Calls Try.prog 7 #[] w (Gives (.bool true) w) := by
  obtain ⟨i0, ii, iz0, iz1, iz2⟩ := info_parts infoB
  go_enter Try.func7, Try.ntmps7
  go_wp2_with fail
  refine (awake_any w).mono ?_; rintro e w1 ⟨rfl, b1⟩
  have HB1 := Lib.hid b1
  clear b1
  have z1 : ∀ o, (w1.alloc o).heap.size = w1.heap.size + 1 := fun o => by simp
  have z2 : ∀ o p, ((w1.alloc o).alloc p).heap.size = w1.heap.size + 1 + 1 := fun o p => by simp
  have z3 : ∀ o p q, (((w1.alloc o).alloc p).alloc q).heap.size = w1.heap.size + 1 + 1 + 1 := fun o p q => by simp
  have z4 : ∀ o p q r, ((((w1.alloc o).alloc p).alloc q).alloc r).heap.size = w1.heap.size + 1 + 1 + 1 + 1 := fun o p q r => by simp
  have F1 := Lib.hid (((((bs_at w1 [128] _ 1 _ rfl rfl (by decide) rfl).below (below_one _ (.cells #[.int .u8 128, .int .u8 0] 5))).below (below_one _ (.cells #[.int .u8 5] 5))).below (below_one _ (.cells #[.int .u8 4] 5))).below (below_one _ (.cells #[.int .u8 255] 5)))
  have F2 := Lib.hid ((((bs_at (w1.alloc (.cells #[.int .u8 128] 5)) [128, 0] _ 2 _ rfl rfl (by decide) (z1 _)).below (below_one _ (.cells #[.int .u8 5] 5))).below (below_one _ (.cells #[.int .u8 4] 5))).below (below_one _ (.cells #[.int .u8 255] 5)))
  have F3 := Lib.hid (((bs_at ((w1.alloc (.cells #[.int .u8 128] 5)).alloc (.cells #[.int .u8 128, .int .u8 0] 5)) [5] _ 1 _ rfl rfl (by decide) (z2 _ _)).below (below_one _ (.cells #[.int .u8 4] 5))).below (below_one _ (.cells #[.int .u8 255] 5)))
  have F4 := Lib.hid ((bs_at (((w1.alloc (.cells #[.int .u8 128] 5)).alloc (.cells #[.int .u8 128, .int .u8 0] 5)).alloc (.cells #[.int .u8 5] 5)) [4] _ 1 _ rfl rfl (by decide) (z3 _ _ _)).below (below_one _ (.cells #[.int .u8 255] 5)))
  have F5 := Lib.hid (bs_at ((((w1.alloc (.cells #[.int .u8 128] 5)).alloc (.cells #[.int .u8 128, .int .u8 0] 5)).alloc (.cells #[.int .u8 5] 5)).alloc (.cells #[.int .u8 4] 5)) [255] _ 1 _ rfl rfl (by decide) (z4 _ _ _ _))
  have HBL := Lib.hid (then_ HB1.out (then_ (then_ (then_ (then_ (below_one w1 (.cells #[.int .u8 128] 5)) (below_one _ (.cells #[.int .u8 128, .int .u8 0] 5))) (below_one _ (.cells #[.int .u8 5] 5))) (below_one _ (.cells #[.int .u8 4] 5))) (below_one _ (.cells #[.int .u8 255] 5))))
  clear z1 z2 z3 z4
  go_wp2_with fail
  refine (repeat_any _ 255 9 (by decide) (by decide) _ F5.out).mono ?_; rintro e w2 ⟨g1, rfl, hG, b2⟩
  replace F1 := Lib.hid (F1.out.below b2)
  replace F2 := Lib.hid (F2.out.below b2)
  replace F3 := Lib.hid (F3.out.below b2)
  replace F4 := Lib.hid (F4.out.below b2)
  have G1 := Lib.hid hG
  have HB2 := Lib.hid (then_ HBL.out b2)
  clear hG b2 F5 HB1 HBL
  have A := below_one w2 (.cells #[.int .u8 255] 5)
  have HA := Lib.hid (bs_at w2 [255] _ 1 _ rfl rfl (by decide) rfl)
  replace F1 := Lib.hid (F1.out.below A)
  replace F2 := Lib.hid (F2.out.below A)
  replace F3 := Lib.hid (F3.out.below A)
  replace F4 := Lib.hid (F4.out.below A)
  replace G1 := Lib.hid (G1.out.below A)
  have HBA := Lib.hid (then_ HB2.out A)
  clear A
  go_wp2_with fail
  refine (repeat_any _ 255 10 (by decide) (by decide) _ HA.out).mono ?_; rintro e w3 ⟨g2, rfl, hG, b2⟩
  replace F1 := Lib.hid (F1.out.below b2)
  replace F2 := Lib.hid (F2.out.below b2)
  replace F3 := Lib.hid (F3.out.below b2)
  replace F4 := Lib.hid (F4.out.below b2)
  replace G1 := Lib.hid (G1.out.below b2)
  have G2 := Lib.hid hG
  have HB3 := Lib.hid (then_ HBA.out b2)
  clear hG b2 HA HBA HB2
  have A := below_one w3 (.cells #[.int .u8 255] 5)
  have HA := Lib.hid (bs_at w3 [255] _ 1 _ rfl rfl (by decide) rfl)
  replace F1 := Lib.hid (F1.out.below A)
  replace F2 := Lib.hid (F2.out.below A)
  replace F3 := Lib.hid (F3.out.below A)
  replace F4 := Lib.hid (F4.out.below A)
  replace G1 := Lib.hid (G1.out.below A)
  replace G2 := Lib.hid (G2.out.below A)
  have HBA := Lib.hid (then_ HB3.out A)
  clear A
  go_wp2_with fail
  refine (repeat_any _ 255 9 (by decide) (by decide) _ HA.out).mono ?_; rintro e w4 ⟨g3, rfl, hG, b2⟩
  replace F1 := Lib.hid (F1.out.below b2)
  replace F2 := Lib.hid (F2.out.below b2)
  replace F3 := Lib.hid (F3.out.below b2)
  replace F4 := Lib.hid (F4.out.below b2)
  replace G1 := Lib.hid (G1.out.below b2)
  replace G2 := Lib.hid (G2.out.below b2)
  have T1 := Lib.hid hG
  have HB4 := Lib.hid (then_ HBA.out b2)
  clear hG b2 HA HBA HB3
  have A := below_one w4 (.cells #[.int .u8 2] 5)
  replace F1 := Lib.hid (F1.out.below A)
  replace F2 := Lib.hid (F2.out.below A)
  replace F3 := Lib.hid (F3.out.below A)
  replace F4 := Lib.hid (F4.out.below A)
  replace G1 := Lib.hid (G1.out.below A)
  replace G2 := Lib.hid (G2.out.below A)
  replace T1 := Lib.hid (T1.out.below A)
  have HA := Lib.hid (bs_at w4 [2] _ 1 _ rfl rfl (by decide) rfl)
  have HBA := Lib.hid (then_ HB4.out A)
  clear A
  go_wp2_with (at_builtin; refine wpList_append_grows _ rfl _ _ 22 rfl 5 i0 (.int .u8 0) 1 1 Try.underlying22 ii iz0 iz1 iz2 rfl (by decide) (some ⟨g3, 0, none⟩) 9 9 (cellsB (List.replicate 9 255)) rfl (fun h => by cases h) (by rw [cellsB_length]; rfl) (fun b hb => by cases hb; exact bs_cells T1.out) ⟨_, 0, none⟩ 1 1 (cellsB [2]) rfl (by rw [cellsB_length]; rfl) (bs_cells HA.out) (cellsB_one _) (by decide) (by unfold maxLen; omega) (by omega) ?_; intro vG3 w5 hown hgrow; have HO := Lib.hid hown; have HGr := Lib.hid hgrow; obtain ⟨pG3, cG3, rfl⟩ := own_shape hown; clear hown hgrow)
  have b5 := (Below.refl _ _).grown HGr.out (Nat.le_refl _) (fun j hj => by simp at hj)
  replace F1 := Lib.hid (F1.out.below b5)
  replace F2 := Lib.hid (F2.out.below b5)
  replace F3 := Lib.hid (F3.out.below b5)
  replace F4 := Lib.hid (F4.out.below b5)
  replace G1 := Lib.hid (G1.out.below b5)
  replace G2 := Lib.hid (G2.out.below b5)
  have G3 := Lib.hid (ownB_app (L := List.replicate 9 255) (r := [2]) HO.out rfl).bs
  have HB5 := Lib.hid (then_ HBA.out b5)
  clear b5 HO HGr HBA HA T1 HB4
  have A := below_one w5 (.cells #[.int .u8 255] 5)
  have HA := Lib.hid (bs_at w5 [255] _ 1 _ rfl rfl (by decide) rfl)
  replace F1 := Lib.hid (F1.out.below A)
  replace F2 := Lib.hid (F2.out.below A)
  replace F3 := Lib.hid (F3.out.below A)
  replace F4 := Lib.hid (F4.out.below A)
  replace G1 := Lib.hid (G1.out.below A)
  replace G2 := Lib.hid (G2.out.below A)
  replace G3 := Lib.hid (G3.out.below A)
  have HBA := Lib.hid (then_ HB5.out A)
  clear A
  go_wp2_with fail
  refine (repeat_any _ 255 9 (by decide) (by decide) _ HA.out).mono ?_; rintro e w6 ⟨g4, rfl, hG, b2⟩
  replace F1 := Lib.hid (F1.out.below b2)
  replace F2 := Lib.hid (F2.out.below b2)
  replace F3 := Lib.hid (F3.out.below b2)
  replace F4 := Lib.hid (F4.out.below b2)
  replace G1 := Lib.hid (G1.out.below b2)
  replace G2 := Lib.hid (G2.out.below b2)
  replace G3 := Lib.hid (G3.out.below b2)
  have T1 := Lib.hid hG
  have HB6 := Lib.hid (then_ HBA.out b2)
  clear hG b2 HA HBA HB5
  have A := below_one w6 (.cells #[.int .u8 0] 5)
  replace F1 := Lib.hid (F1.out.below A)
  replace F2 := Lib.hid (F2.out.below A)
  replace F3 := Lib.hid (F3.out.below A)
  replace F4 := Lib.hid (F4.out.below A)
  replace G1 := Lib.hid (G1.out.below A)
  replace G2 := Lib.hid (G2.out.below A)
  replace G3 := Lib.hid (G3.out.below A)
  replace T1 := Lib.hid (T1.out.below A)
  have HA := Lib.hid (bs_at w6 [0] _ 1 _ rfl rfl (by decide) rfl)
  have HBA := Lib.hid (then_ HB6.out A)
  clear A
  go_wp2_with (at_builtin; refine wpList_append_grows _ rfl _ _ 22 rfl 5 i0 (.int .u8 0) 1 1 Try.underlying22 ii iz0 iz1 iz2 rfl (by decide) (some ⟨g4, 0, none⟩) 9 9 (cellsB (List.replicate 9 255)) rfl (fun h => by cases h) (by rw [cellsB_length]; rfl) (fun b hb => by cases hb; exact bs_cells T1.out) ⟨_, 0, none⟩ 1 1 (cellsB [0]) rfl (by rw [cellsB_length]; rfl) (bs_cells HA.out) (cellsB_one _) (by decide) (by unfold maxLen; omega) (by omega) ?_; intro vG4 w7 hown hgrow; have HO := Lib.hid hown; have HGr := Lib.hid hgrow; obtain ⟨pG4, cG4, rfl⟩ := own_shape hown; clear hown hgrow)
  have b5 := (Below.refl _ _).grown HGr.out (Nat.le_refl _) (fun j hj => by simp at hj)
  replace F1 := Lib.hid (F1.out.below b5)
  replace F2 := Lib.hid (F2.out.below b5)
  replace F3 := Lib.hid (F3.out.below b5)
  replace F4 := Lib.hid (F4.out.below b5)
  replace G1 := Lib.hid (G1.out.below b5)
  replace G2 := Lib.hid (G2.out.below b5)
  replace G3 := Lib.hid (G3.out.below b5)
  have G4 := Lib.hid (ownB_app (L := List.replicate 9 255) (r := [0]) HO.out rfl).bs
  have HB7 := Lib.hid (then_ HBA.out b5)
  clear b5 HO HGr HBA HA T1 HB6
  have A := below_one w7 (.cells #[.int .u8 255] 5)
  have HA := Lib.hid (bs_at w7 [255] _ 1 _ rfl rfl (by decide) rfl)
  replace F1 := Lib.hid (F1.out.below A)
  replace F2 := Lib.hid (F2.out.below A)
  replace F3 := Lib.hid (F3.out.below A)
  replace F4 := Lib.hid (F4.out.below A)
  replace G1 := Lib.hid (G1.out.below A)
  replace G2 := Lib.hid (G2.out.below A)
  replace G3 := Lib.hid (G3.out.below A)
  replace G4 := Lib.hid (G4.out.below A)
  have HBA := Lib.hid (then_ HB7.out A)
  clear A
  go_wp2_with fail
  refine (repeat_any _ 255 9 (by decide) (by decide) _ HA.out).mono ?_; rintro e w8 ⟨g5, rfl, hG, b2⟩
  replace F1 := Lib.hid (F1.out.below b2)
  replace F2 := Lib.hid (F2.out.below b2)
  replace F3 := Lib.hid (F3.out.below b2)
  replace F4 := Lib.hid (F4.out.below b2)
  replace G1 := Lib.hid (G1.out.below b2)
  replace G2 := Lib.hid (G2.out.below b2)
  replace G3 := Lib.hid (G3.out.below b2)
  replace G4 := Lib.hid (G4.out.below b2)
  have T1 := Lib.hid hG
  have HB8 := Lib.hid (then_ HBA.out b2)
  clear hG b2 HA HBA HB7
  have A := below_one w8 (.cells #[.int .u8 1] 5)
  replace F1 := Lib.hid (F1.out.below A)
  replace F2 := Lib.hid (F2.out.below A)
  replace F3 := Lib.hid (F3.out.below A)
  replace F4 := Lib.hid (F4.out.below A)
  replace G1 := Lib.hid (G1.out.below A)
  replace G2 := Lib.hid (G2.out.below A)
  replace G3 := Lib.hid (G3.out.below A)
  replace G4 := Lib.hid (G4.out.below A)
  replace T1 := Lib.hid (T1.out.below A)
  have HA := Lib.hid (bs_at w8 [1] _ 1 _ rfl rfl (by decide) rfl)
  have HBA := Lib.hid (then_ HB8.out A)
  clear A
  go_wp2_with (at_builtin; refine wpList_append_grows _ rfl _ _ 22 rfl 5 i0 (.int .u8 0) 1 1 Try.underlying22 ii iz0 iz1 iz2 rfl (by decide) (some ⟨g5, 0, none⟩) 9 9 (cellsB (List.replicate 9 255)) rfl (fun h => by cases h) (by rw [cellsB_length]; rfl) (fun b hb => by cases hb; exact bs_cells T1.out) ⟨_, 0, none⟩ 1 1 (cellsB [1]) rfl (by rw [cellsB_length]; rfl) (bs_cells HA.out) (cellsB_one _) (by decide) (by unfold maxLen; omega) (by omega) ?_; intro vG5 w9 hown hgrow; have HO := Lib.hid hown; have HGr := Lib.hid hgrow; obtain ⟨pG5, cG5, rfl⟩ := own_shape hown; clear hown hgrow)
  have b5 := (Below.refl _ _).grown HGr.out (Nat.le_refl _) (fun j hj => by simp at hj)
  replace F1 := Lib.hid (F1.out.below b5)
  replace F2 := Lib.hid (F2.out.below b5)
  replace F3 := Lib.hid (F3.out.below b5)
  replace F4 := Lib.hid (F4.out.below b5)
  replace G1 := Lib.hid (G1.out.below b5)
  replace G2 := Lib.hid (G2.out.below b5)
  replace G3 := Lib.hid (G3.out.below b5)
  replace G4 := Lib.hid (G4.out.below b5)
  have G5 := Lib.hid (ownB_app (L := List.replicate 9 255) (r := [1]) HO.out rfl).bs
  have HB9 := Lib.hid (then_ HBA.out b5)
  clear b5 HO HGr HBA HA T1 HB8
  go_loopw [57] (fun iv wr => ∃ i : Nat, i ≤ 10 ∧ iv = .int .i64 i ∧ Below w.heap.size w wr ∧ w9.heap.size < wr.heap.size ∧ TabIn wr w9.heap.size) (fun iv _ => 10 - (intOf iv).toNat)
  case atStart => exact ⟨0, by omega, rfl, then_ HB9.out (below_one w9 _), by simp, tab_new w9 _ _ _ _ _ _ _ _ _ _ rfl F1.out F2.out F3.out F4.out G1.out G2.out G3.out G4.out G5.out⟩
  case round =>
    obtain ⟨i, hi, rfl, hb, hg, hT⟩ := hrel
    have HB := Lib.hid hb
    have HT := Lib.hid hT
    clear F1 F2 F3 F4 G1 G2 G3 G4 G5 HB9 hb hT
    by_cases hi10 : i < 10
    · obtain ⟨v, hv, d0, d1, d2⟩ := HT.out i hi10
      have hro := rows_ok i hi10
      have hidx := index_tab w9.heap.size 10 10 i hi10
      obtain ⟨x, hx⟩ : ∃ x, rows10.getD i default = x := ⟨_, rfl⟩
      rw [hx] at hv d1 d2 hro
      obtain ⟨L, N, E⟩ := x
      simp only at hv d1 d2 hro
      obtain ⟨p, c, rfl⟩ := hv.form
      have A := below_one wr (.cells #[.slice p L.length c, .int .u64 N, .int .i64 E] 65)
      have HNew := Lib.hid (held_new (.slice p L.length c) L _ (hv.below A) (by omega))
      have HA := Lib.hid A
      have HRo := Lib.hid hro
      clear hx hv hro A
      go_wp2_with fail
      refine HNew.out.mono ?_; rintro e w10 ⟨r, rfl, hR⟩
      have HR := Lib.hid hR
      clear hR HNew
      go_wp2_with fail
      have hN := held_num HR.out 4 (by decide)
      rw [HRo.out.1, HRo.out.2.1] at hN
      refine hN.mono ?_; rintro e w11 ⟨rfl, hR⟩
      have q1 := hR.bel.cell (p := ⟨wr.heap.size, 1, none⟩) (by simp)
      have q2 := hR.bel.cell (p := ⟨wr.heap.size, 2, none⟩) (by simp)
      simp at q1 q2
      have HB11 := Lib.hid (then_ HB.out (then_ HA.out hR.bel))
      have HT11 := Lib.hid (HT.out.below hg (then_ HA.out hR.bel))
      have hg11 : w9.heap.size < w11.heap.size := Nat.lt_of_lt_of_le hg (then_ HA.out hR.bel).size
      clear hN hR HR HA HRo
      go_wp2_with fail
      go_roundw
      case rel => exact ⟨i + 1, by omega, by simp, HB11.out, hg11, HT11.out⟩
      case measure => simp [intOf]; omega
    · have hi10' : i = 10 := by omega
      subst hi10'
      clear HT hi10 hi
      go_wp2_with fail
      have A := below_one wr (.cells #[.int .u8 2, .int .u8 97] 5)
      have HBA := Lib.hid (then_ HB.out A)
      refine (held_new _ [2, 97] _ (bs_at wr [2, 97] _ 2 _ rfl rfl (by decide) rfl) (by decide)).mono ?_; rintro e w10 ⟨r, rfl, hR⟩
      have HR := Lib.hid hR
      clear hR A HB hg
      go_wp2_with fail
      have hN := held_bytes HR.out (-1) (by decide) (by decide)
      rw [show bytE [2, 97] (-1) = 1 from rfl, show bytR [2, 97] (-1) = [2, 97] from rfl, show bytV [2, 97] (-1) = [] from rfl] at hN
      refine hN.mono ?_; rintro e w11 ⟨u, rfl, hu, hR⟩
      obtain ⟨uap, uac, rfl⟩ : ∃ p c, u = .slice p 0 c := hu.form
      replace HR := Lib.hid hR
      clear hN hR hu
      go_wp2_with fail
      have hN := held_bytes HR.out (1) (by decide) (by decide)
      rw [show bytE [2, 97] (1) = 3 from rfl, show bytR [2, 97] (1) = [2, 97] from rfl, show bytV [2, 97] (1) = [] from rfl] at hN
      refine hN.mono ?_; rintro e w12 ⟨u, rfl, hu, hR⟩
      obtain ⟨ubp, ubc, rfl⟩ : ∃ p c, u = .slice p 0 c := hu.form
      replace HR := Lib.hid hR
      clear hN hR hu
      go_wp2_with fail
      have hN := held_bytes HR.out (2) (by decide) (by decide)
      rw [show bytE [2, 97] (2) = 4 from rfl, show bytR [2, 97] (2) = [2, 97] from rfl, show bytV [2, 97] (2) = [] from rfl] at hN
      refine hN.mono ?_; rintro e w13 ⟨u, rfl, hu, hR⟩
      obtain ⟨ucp, ucc, rfl⟩ : ∃ p c, u = .slice p 0 c := hu.form
      replace HR := Lib.hid hR
      clear hN hR hu
      go_wp2_with fail
      refine (wrnum_nil 0 _).mono ?_; rintro e w14 ⟨rfl, b⟩
      replace HR := Lib.hid (HR.out.later b)
      clear b
      go_wp2_with fail
      refine (wrint_nil _).mono ?_; rintro e w15 ⟨rfl, b⟩
      replace HR := Lib.hid (HR.out.later b)
      clear b
      go_wp2_with fail
      refine (wrbytes_nil 0 _).mono ?_; rintro e w16 ⟨rfl, b⟩
      replace HR := Lib.hid (HR.out.later b)
      clear b
      go_wp2_with fail
      have hM := wint_any (.slice none 0 0) [] (-9223372036854775808) (by decide) (by decide) w16 (Bs.nil _) (by decide)
      have hv1 := i_ahead2 (-9223372036854775808) [] (by decide) (by decide)
      have hv2 := i_ahead3 (-9223372036854775808) [] (by decide) (by decide)
      have hlM := formN_length (fold_lt (n := -9223372036854775808) (by decide) (by decide))
      rw [List.append_nil] at hv1 hv2
      rw [List.nil_append] at hM
      obtain ⟨M, hMM⟩ : ∃ M, formN (foldI (-9223372036854775808)) = M := ⟨_, rfl⟩
      rw [hMM] at hM hv1 hv2 hlM
      have HM := Lib.hid hM
      have HV := Lib.hid (And.intro hv1 (And.intro hv2 hlM))
      clear hM hv1 hv2 hMM hlM
      refine HM.out.mono ?_; rintro e w17 ⟨v17, rfl, hO, b⟩
      obtain ⟨p17, c17, rfl⟩ := hO.form
      replace HR := Lib.hid (HR.out.later b)
      have HO := Lib.hid hO
      clear b hO HM
      go_wp2_with fail
      refine (held_new _ M w17 HO.out.bs (by have := HV.out.2.2; omega)).mono ?_; rintro e w18 ⟨r3, rfl, hR3⟩
      have HR3 := Lib.hid hR3
      clear hR3 HO
      go_wp2_with fail
      have hN := held_int HR3.out
      rw [HV.out.1, HV.out.2.1] at hN
      refine hN.mono ?_; rintro e w19 ⟨rfl, hR3⟩
      replace HR := Lib.hid (HR.out.later hR3.bel)
      clear hN hR3 HR3 HV
      go_wp2_with fail
      have hN := held_left HR.out
      rw [show (([2, 97] : List UInt8).length : Nat) = 2 from rfl] at hN
      refine hN.mono ?_; rintro e w20 ⟨rfl, hR, _⟩
      replace HR := Lib.hid hR
      clear hN hR
      go_wp2_with fail
      have hN := held_end HR.out
      rw [if_neg (by simp)] at hN
      refine hN.mono ?_; rintro e w21 ⟨rfl, hR, _⟩
      replace HR := Lib.hid hR
      clear hN hR
      go_wp2_with fail
      refine (wleft_nil _).mono ?_; rintro e w22 ⟨rfl, rfl⟩
      go_wp2_with fail
      refine (wend_nil _).mono ?_; rintro e w23 ⟨rfl, rfl⟩
      go_wp2_with fail
      refine (wend_not _ (.slice none 0 0) _ (Blk.new _ _ _)).mono ?_; rintro e w24 ⟨rfl, rfl⟩
      replace HR := Lib.hid (HR.out.later (below_one _ (.cells #[.bool false, .slice none 0 0] 69)))
      go_wp2_with fail
      have hM := fun W => wnum_any (.slice none 0 0) [] 18446744073709551615 (by decide) W (Bs.nil W) (by decide)
      have hlM : (formN 18446744073709551615).length = 10 := by
        have : formN 18446744073709551615 = [255, 255, 255, 255, 255, 255, 255, 255, 255, 1] := by
          rw [formN_ge (by decide), formN_ge (by decide), formN_ge (by decide), formN_ge (by decide), formN_ge (by decide), formN_ge (by decide), formN_ge (by decide), formN_ge (by decide), formN_ge (by decide), formN_lt (by decide)]
          decide +kernel
        rw [this]; rfl
      simp only [List.nil_append] at hM
      obtain ⟨M, hMM⟩ : ∃ M, formN 18446744073709551615 = M := ⟨_, rfl⟩
      rw [hMM] at hM hlM
      refine (hM _).mono ?_; rintro e w25 ⟨v25, rfl, hO, b⟩
      obtain ⟨p25, c25, rfl⟩ := hO.form
      replace HR := Lib.hid (HR.out.later b)
      have HEnd := Lib.hid (then_ HBA.out HR.out.bel)
      clear hM hMM hO b HR
      rw [hlM]
      go_wp2_with fail
      go_ret
      exact ⟨rfl, HEnd.out⟩
end Go.Proofs.Ytapgjplcelbncaa
