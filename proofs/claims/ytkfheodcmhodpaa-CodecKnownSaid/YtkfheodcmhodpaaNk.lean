/- CodecKnown: the loop over eight attributes, plain facts. -/
import Derived.Test.YtkfheodcmhodpaaNb
import Derived.Test.YtkfheodcmhodpaaNv
import Derived.Test.YtkfheodcmhodpaaVn
import Derived.Deep.WholeRow
import Derived.Great.BuildSlice
set_option linter.unusedSimpArgs false
set_option linter.unusedVariables false
namespace Go.Proofs.Ytkfheodcmhodpaa.Gm
open Go Go.RowKit
attribute [local go_sem ↓] Go.wp_at_zero Go.wp_at_succ

abbrev z32 : List UInt8 := [0, 0, 0, 0, 0, 0, 0, 0, 0, 0, 0, 0, 0, 0, 0, 0, 0, 0, 0, 0, 0, 0, 0, 0, 0, 0, 0, 0, 0, 0, 0, 0]
/-- The attribute of that place. -/
def bigA (i : Nat) : Attr := ⟨⟨#[97, 98, 99, 100, 101, 102, 103, 104, 105, 106, 107, 108, 109, 110, 111, UInt8.ofNat (97 + i)]⟩, 2, 0, ⟨z32.toArray⟩, false⟩
def bigL : List Attr := (List.range 8).map bigA
abbrev bigK : ByteArray := ⟨#[48, 49, 50, 51, 52, 53, 54, 55, 56, 57, 97, 98, 99, 100, 101, 102]⟩
theorem big_len : ((putE (bigK, bigL)).getD []).length = 426 := by kernel_rfl
theorem big_room : Room bigL := by
  intro a ha
  obtain ⟨i, _, rfl⟩ := List.mem_map.1 ha
  exact ⟨(show FitsI 0 from ⟨by decide, by decide⟩), by show (16 : Nat) ≤ _; decide⟩
theorem bs_new (w : World) (cs : Array Value) (L : List UInt8) (n : Nat) (hc : cs = (cellsB L).toArray) (hn : L.length = n) (hl : L.length ≤ 100000) : Bs (w.alloc (.cells cs 5)) (.slice (some ⟨w.heap.size, 0, none⟩) n n) L := (ownB_lit w L cs n hc hn hl).bs
abbrev c32 : Array Value := #[.int .u8 0, .int .u8 0, .int .u8 0, .int .u8 0, .int .u8 0, .int .u8 0, .int .u8 0, .int .u8 0, .int .u8 0, .int .u8 0, .int .u8 0, .int .u8 0, .int .u8 0, .int .u8 0, .int .u8 0, .int .u8 0, .int .u8 0, .int .u8 0, .int .u8 0, .int .u8 0, .int .u8 0, .int .u8 0, .int .u8 0, .int .u8 0, .int .u8 0, .int .u8 0, .int .u8 0, .int .u8 0, .int .u8 0, .int .u8 0, .int .u8 0, .int .u8 0]
theorem conv_dr {w : World} {v : Value} {L : List UInt8} (h : Bs w v L) : (convert 25 9 v).run Try.prog w.drew = .ok (.string ⟨L.toArray⟩) w.drew := conv_bs (h.below ((Below.refl _ w).drew)) 9 Try.underlying9
theorem mk32 (W : World) : (Instr.makeSlice 25 (.int .i64 32) (.int .i64 32)).run Try.prog W = .ok (.slice (some ⟨W.heap.size, 0, none⟩) 32 32) (W.alloc (.cells c32 5)) := by kernel_rfl
abbrev pre15 : ByteArray := ⟨#[97, 98, 99, 100, 101, 102, 103, 104, 105, 106, 107, 108, 109, 110, 111]⟩
abbrev attN (ch : UInt8) : Attr := ⟨pre15 ++ ⟨#[ch]⟩, 2, 0, ⟨z32.toArray⟩, false⟩
abbrev attC (ch : UInt8) : Array Value := #[.string (pre15 ++ ⟨#[ch]⟩), .int .i64 2, .int .i64 0, .string ⟨z32.toArray⟩, .bool false]
theorem big_take {i : Nat} (h : i < 8) : bigL.take (i + 1) = bigL.take i ++ [attN (UInt8.ofNat (97 + i))] := by
  rcases (show i = 0 ∨ i = 1 ∨ i = 2 ∨ i = 3 ∨ i = 4 ∨ i = 5 ∨ i = 6 ∨ i = 7 by omega) with rfl | rfl | rfl | rfl | rfl | rfl | rfl | rfl <;> rfl
theorem heap_new_at (w : World) (o : Obj) (g : Nat) (hg : w.heap.size = g) : (w.alloc o).heap[g]? = some o := by subst hg; exact heap_alloc_new w o
theorem setRow_new_at (w : World) (c c' : Array Value) (t : TypeId) (g : Nat) (hg : w.heap.size = g) : (w.alloc (.cells c t)).setRow g c' = w.alloc (.cells c' t) := by subst hg; exact World.setRow_alloc_new w c c' t
/-- Items of these numbers, gaps: in a block of their own. -/
def itz (n : Nat) : Im := ⟨n, 0, ⟨#[]⟩, none, 0, []⟩
theorem its_none (W : World) : Its W (.slice none 0 0) [] := ⟨⟨none, 0, 0, 0, rfl, fun h => absurd rfl h, fun i hi => by simp at hi⟩, by decide, fun x hx => by cases hx⟩
theorem gps_none (W : World) : Gps W (.slice none 0 0) [] := ⟨⟨none, 0, 0, 0, rfl, fun h => absurd rfl h, fun i hi => by simp at hi⟩, by decide, fun x hx => by cases hx⟩
theorem rowL_blk {α : Type} [Inhabited α] {enc : α → List Value} {n : Nat} {W : World} {g : Nat} {t : TypeId} {cs : Array Value} (l : List α) (hn : ∀ x, (enc x).length = n) (h : Blk W g t cs) (hc : cs.toList = l.flatMap enc) (m cap : Nat) (hm : l.length = m) : RowL enc n W.heap.size W (.slice (some ⟨g, 0, none⟩) m cap) l := by
  subst hm
  refine ⟨_, cap, g, 0, rfl, fun _ => ⟨rfl, h.lt⟩, fun i hi j u hu => ?_⟩
  have h1 := flat_at hn l i j u hi hu
  refine h.cell _ ?_
  rw [Nat.zero_add, ← Array.getElem?_toList, hc]
  exact h1
theorem its_blk {W : World} {g : Nat} {t : TypeId} {cs : Array Value} (ns : List Nat) (hl : ns.length ≤ 4) (hb : ∀ n ∈ ns, n < 1000) (h : Blk W g t cs) (hc : cs.toList = (ns.map itz).flatMap encI) (m cap : Nat) (hm : ns.length = m) : Its W (.slice (some ⟨g, 0, none⟩) m cap) (ns.map itz) := by
  refine ⟨rowL_blk _ encI_length h hc m cap (by rw [List.length_map]; exact hm), by rw [List.length_map]; omega, fun x hx => ?_⟩
  obtain ⟨n, hn, rfl⟩ := List.mem_map.1 hx
  exact ⟨⟨none, 0, 0, 0, rfl, fun h => absurd rfl h, fun i hi => absurd hi (Nat.not_lt_zero i), Nat.zero_le _⟩, (fun a ha => by cases ha), (by have := hb n hn; show n < _; omega), (by show (0 : Nat) < _; decide)⟩
theorem gps_blk {W : World} {g : Nat} {t : TypeId} {cs : Array Value} (gs : List Gp) (hl : gs.length ≤ 16) (hb : ∀ n ∈ gs, n.1 < 1000 ∧ n.2 < 1000) (h : Blk W g t cs) (hc : cs.toList = gs.flatMap encG) (m cap : Nat) (hm : gs.length = m) : Gps W (.slice (some ⟨g, 0, none⟩) m cap) gs :=
  ⟨rowL_blk _ encG_length h hc m cap hm, by omega, fun x hx => by have := hb x hx; omega⟩
abbrev fullIts : List Nat := [1, 3, 8, 9]
abbrev fullGps : List Gp := [(2, 2), (4, 5), (6, 7)]
/-- The chapter's page, in a block. -/
def FullP (W : World) (g : Nat) : Prop := ∃ a b : Nat, Blk W g 64 #[.int .u64 1, .int .u64 10, .slice (some ⟨a, 0, none⟩) 4 4, .slice (some ⟨b, 0, none⟩) 3 3, .bool false] ∧ PgIn W ⟨1, 10, some ⟨a, 0, none⟩, 4, fullIts.map itz, some ⟨b, 0, none⟩, 3, fullGps, false⟩
theorem FullP.later {W W' : World} {g : Nat} (h : FullP W g) (hb : Below W.heap.size W W') : FullP W' g := by
  obtain ⟨a, b, h1, h2⟩ := h
  exact ⟨a, b, h1.later hb, h2.later hb⟩
theorem full_may (a b : Option Addr) (c d : Nat) : mayPg (toPg ⟨1, 10, a, c, fullIts.map itz, b, d, fullGps, false⟩) = true := by kernel_rfl
/-- Ten pages that may not be, in a block. -/
def BadP (W : World) (g : Nat) : Prop := ∀ i, i < 10 → ∃ p : Pm, PgIn W p ∧ mayPg (toPg p) = false ∧ W.cell? ⟨g, i * 5, none⟩ = some (.int .u64 p.fr) ∧ W.cell? ⟨g, i * 5 + 1, none⟩ = some (.int .u64 p.en) ∧ W.cell? ⟨g, i * 5 + 2, none⟩ = some p.iv ∧ W.cell? ⟨g, i * 5 + 3, none⟩ = some p.gv ∧ W.cell? ⟨g, i * 5 + 4, none⟩ = some (.bool p.last)
abbrev itC (n : Int) : List Value := [.int .u64 n, .int .u64 0, .string ⟨#[]⟩, .slice none 0 0]
theorem full_of (w : World) (o : Obj) : FullP ((((w.alloc o).alloc (.cells #[.int .u64 1, .int .u64 0, .string ⟨#[]⟩, .slice none 0 0, .int .u64 3, .int .u64 0, .string ⟨#[]⟩, .slice none 0 0, .int .u64 8, .int .u64 0, .string ⟨#[]⟩, .slice none 0 0, .int .u64 9, .int .u64 0, .string ⟨#[]⟩, .slice none 0 0] 51)).alloc (.cells #[.int .u64 2, .int .u64 2, .int .u64 4, .int .u64 5, .int .u64 6, .int .u64 7] 83)).alloc (.cells #[.int .u64 1, .int .u64 10, .slice (some ⟨w.heap.size + 1, 0, none⟩) 4 4, .slice (some ⟨w.heap.size + 1 + 1, 0, none⟩) 3 3, .bool false] 64)) (w.heap.size + 1 + 1 + 1) := by
  refine ⟨w.heap.size + 1, w.heap.size + 1 + 1, heap_new_at _ _ _ (by simp), ⟨?_, ?_, by show (1 : Nat) < _; decide, by show (10 : Nat) < _; decide⟩⟩
  · exact its_blk fullIts (by decide) (by decide) (Blk.alloc (Blk.alloc (show Blk _ (w.heap.size + 1) _ _ from heap_new_at _ _ _ (by simp)) _) _) rfl 4 4 rfl
  · exact gps_blk fullGps (by decide) (by decide) (Blk.alloc (show Blk _ (w.heap.size + 1 + 1) _ _ from heap_new_at _ _ _ (by simp)) _) rfl 3 3 rfl
abbrev bad50 (n : Nat) : Array Value := #[.int .u64 0, .int .u64 0, .slice none 0 0, .slice none 0 0, .bool false,
  .int .u64 2, .int .u64 1, .slice none 0 0, .slice none 0 0, .bool false,
  .int .u64 1, .int .u64 1099511627778, .slice none 0 0, .slice none 0 0, .bool false,
  .int .u64 1, .int .u64 3, .slice (some ⟨n, 0, none⟩) 1 1, .slice none 0 0, .bool false,
  .int .u64 2, .int .u64 3, .slice (some ⟨n + 1, 0, none⟩) 1 1, .slice none 0 0, .bool false,
  .int .u64 1, .int .u64 5, .slice (some ⟨n + 1 + 1, 0, none⟩) 2 2, .slice none 0 0, .bool false,
  .int .u64 1, .int .u64 5, .slice none 0 0, .slice (some ⟨n + 1 + 1 + 1, 0, none⟩) 1 1, .bool false,
  .int .u64 1, .int .u64 5, .slice none 0 0, .slice (some ⟨n + 1 + 1 + 1 + 1, 0, none⟩) 1 1, .bool false,
  .int .u64 1, .int .u64 5, .slice none 0 0, .slice (some ⟨n + 1 + 1 + 1 + 1 + 1, 0, none⟩) 2 2, .bool false,
  .int .u64 1, .int .u64 5, .slice (some ⟨n + 1 + 1 + 1 + 1 + 1 + 1, 0, none⟩) 1 1, .slice (some ⟨n + 1 + 1 + 1 + 1 + 1 + 1 + 1, 0, none⟩) 1 1, .bool false]
abbrev Wbad (w : World) : World := ((((((((w.alloc (.cells #[.int .u64 3, .int .u64 0, .string ⟨#[]⟩, .slice none 0 0] 51)).alloc (.cells #[.int .u64 1, .int .u64 0, .string ⟨#[]⟩, .slice none 0 0] 51)).alloc (.cells #[.int .u64 2, .int .u64 0, .string ⟨#[]⟩, .slice none 0 0, .int .u64 2, .int .u64 0, .string ⟨#[]⟩, .slice none 0 0] 51)).alloc (.cells #[.int .u64 3, .int .u64 2] 83)).alloc (.cells #[.int .u64 1, .int .u64 5] 83)).alloc (.cells #[.int .u64 1, .int .u64 2, .int .u64 2, .int .u64 3] 83)).alloc (.cells #[.int .u64 2, .int .u64 0, .string ⟨#[]⟩, .slice none 0 0] 51)).alloc (.cells #[.int .u64 1, .int .u64 3] 83)).alloc (.cells (bad50 w.heap.size) 84)
theorem bad_below (w : World) : Below w.heap.size w (Wbad w) := below_one w _ |> (then_ · (below_one _ _)) |> (then_ · (below_one _ _)) |> (then_ · (below_one _ _)) |> (then_ · (below_one _ _)) |> (then_ · (below_one _ _)) |> (then_ · (below_one _ _)) |> (then_ · (below_one _ _)) |> (then_ · (below_one _ _))
theorem pg_mk {W : World} {fr en : Nat} {ip : Option Addr} {m c : Nat} {its : List Im} {gp : Option Addr} {k d : Nat} {gps : List Gp} (hm : its.length = m) (hk : gps.length = k) (h1 : Its W (.slice ip m c) its) (h2 : Gps W (.slice gp k d) gps) (hf : fr < 5000000000000) (he : en < 5000000000000) : PgIn W ⟨fr, en, ip, c, its, gp, d, gps, false⟩ := by
  subst hm hk
  exact ⟨h1, h2, by show fr < _; omega, by show en < _; omega⟩
theorem bad_of (w : World) : BadP (Wbad w) (w.heap.size + 1 + 1 + 1 + 1 + 1 + 1 + 1 + 1) := by
  have hA : Blk (Wbad w) (w.heap.size + 1 + 1 + 1 + 1 + 1 + 1 + 1 + 1) 84 (bad50 w.heap.size) := heap_new_at _ _ _ (by simp)
  have r0 : Blk (Wbad w) w.heap.size 51 #[.int .u64 3, .int .u64 0, .string ⟨#[]⟩, .slice none 0 0] := (((((((((Blk.new w _ _).alloc _).alloc _).alloc _).alloc _).alloc _).alloc _).alloc _).alloc _)
  have r1 : Blk (Wbad w) (w.heap.size + 1) 51 #[.int .u64 1, .int .u64 0, .string ⟨#[]⟩, .slice none 0 0] := (((((((Blk.alloc (show Blk _ (w.heap.size + 1) _ _ from heap_new_at _ _ _ (by simp)) _).alloc _).alloc _).alloc _).alloc _).alloc _).alloc _)
  have r2 : Blk (Wbad w) (w.heap.size + 1 + 1) 51 #[.int .u64 2, .int .u64 0, .string ⟨#[]⟩, .slice none 0 0, .int .u64 2, .int .u64 0, .string ⟨#[]⟩, .slice none 0 0] := ((((((Blk.alloc (show Blk _ (w.heap.size + 1 + 1) _ _ from heap_new_at _ _ _ (by simp)) _).alloc _).alloc _).alloc _).alloc _).alloc _)
  have r3 : Blk (Wbad w) (w.heap.size + 1 + 1 + 1) 83 #[.int .u64 3, .int .u64 2] := (((((Blk.alloc (show Blk _ (w.heap.size + 1 + 1 + 1) _ _ from heap_new_at _ _ _ (by simp)) _).alloc _).alloc _).alloc _).alloc _)
  have r4 : Blk (Wbad w) (w.heap.size + 1 + 1 + 1 + 1) 83 #[.int .u64 1, .int .u64 5] := ((((Blk.alloc (show Blk _ (w.heap.size + 1 + 1 + 1 + 1) _ _ from heap_new_at _ _ _ (by simp)) _).alloc _).alloc _).alloc _)
  have r5 : Blk (Wbad w) (w.heap.size + 1 + 1 + 1 + 1 + 1) 83 #[.int .u64 1, .int .u64 2, .int .u64 2, .int .u64 3] := (((Blk.alloc (show Blk _ (w.heap.size + 1 + 1 + 1 + 1 + 1) _ _ from heap_new_at _ _ _ (by simp)) _).alloc _).alloc _)
  have r6 : Blk (Wbad w) (w.heap.size + 1 + 1 + 1 + 1 + 1 + 1) 51 #[.int .u64 2, .int .u64 0, .string ⟨#[]⟩, .slice none 0 0] := ((Blk.alloc (show Blk _ (w.heap.size + 1 + 1 + 1 + 1 + 1 + 1) _ _ from heap_new_at _ _ _ (by simp)) _).alloc _)
  have r7 : Blk (Wbad w) (w.heap.size + 1 + 1 + 1 + 1 + 1 + 1 + 1) 83 #[.int .u64 1, .int .u64 3] := (Blk.alloc (show Blk _ (w.heap.size + 1 + 1 + 1 + 1 + 1 + 1 + 1) _ _ from heap_new_at _ _ _ (by simp)) _)
  intro i hi
  obtain ⟨W, hW⟩ : ∃ W, Wbad w = W := ⟨_, rfl⟩
  rw [hW] at hA r0 r1 r2 r3 r4 r5 r6 r7 ⊢
  clear hW
  rcases (show i = 0 ∨ i = 1 ∨ i = 2 ∨ i = 3 ∨ i = 4 ∨ i = 5 ∨ i = 6 ∨ i = 7 ∨ i = 8 ∨ i = 9 by omega) with rfl | rfl | rfl | rfl | rfl | rfl | rfl | rfl | rfl | rfl
  · exact ⟨⟨0, 0, none, 0, [], none, 0, [], false⟩, pg_mk rfl rfl (its_none W) (gps_none W) (by decide) (by decide), by kernel_rfl, hA.cell 0 rfl, hA.cell 1 rfl, hA.cell 2 rfl, hA.cell 3 rfl, hA.cell 4 rfl⟩
  · exact ⟨⟨2, 1, none, 0, [], none, 0, [], false⟩, pg_mk rfl rfl (its_none W) (gps_none W) (by decide) (by decide), by kernel_rfl, hA.cell 5 rfl, hA.cell 6 rfl, hA.cell 7 rfl, hA.cell 8 rfl, hA.cell 9 rfl⟩
  · exact ⟨⟨1, 1099511627778, none, 0, [], none, 0, [], false⟩, pg_mk rfl rfl (its_none W) (gps_none W) (by decide) (by decide), by kernel_rfl, hA.cell 10 rfl, hA.cell 11 rfl, hA.cell 12 rfl, hA.cell 13 rfl, hA.cell 14 rfl⟩
  · exact ⟨⟨1, 3, some ⟨w.heap.size, 0, none⟩, 1, [3].map itz, none, 0, [], false⟩, pg_mk rfl rfl (its_blk [3] (by decide) (by decide) r0 rfl 1 1 rfl) (gps_none W) (by decide) (by decide), by kernel_rfl, hA.cell 15 rfl, hA.cell 16 rfl, hA.cell 17 rfl, hA.cell 18 rfl, hA.cell 19 rfl⟩
  · exact ⟨⟨2, 3, some ⟨w.heap.size + 1, 0, none⟩, 1, [1].map itz, none, 0, [], false⟩, pg_mk rfl rfl (its_blk [1] (by decide) (by decide) r1 rfl 1 1 rfl) (gps_none W) (by decide) (by decide), by kernel_rfl, hA.cell 20 rfl, hA.cell 21 rfl, hA.cell 22 rfl, hA.cell 23 rfl, hA.cell 24 rfl⟩
  · exact ⟨⟨1, 5, some ⟨w.heap.size + 1 + 1, 0, none⟩, 2, [2, 2].map itz, none, 0, [], false⟩, pg_mk rfl rfl (its_blk [2, 2] (by decide) (by decide) r2 rfl 2 2 rfl) (gps_none W) (by decide) (by decide), by kernel_rfl, hA.cell 25 rfl, hA.cell 26 rfl, hA.cell 27 rfl, hA.cell 28 rfl, hA.cell 29 rfl⟩
  · exact ⟨⟨1, 5, none, 0, [], some ⟨w.heap.size + 1 + 1 + 1, 0, none⟩, 1, [(3, 2)], false⟩, pg_mk rfl rfl (its_none W) (gps_blk [(3, 2)] (by decide) (by decide) r3 rfl 1 1 rfl) (by decide) (by decide), by kernel_rfl, hA.cell 30 rfl, hA.cell 31 rfl, hA.cell 32 rfl, hA.cell 33 rfl, hA.cell 34 rfl⟩
  · exact ⟨⟨1, 5, none, 0, [], some ⟨w.heap.size + 1 + 1 + 1 + 1, 0, none⟩, 1, [(1, 5)], false⟩, pg_mk rfl rfl (its_none W) (gps_blk [(1, 5)] (by decide) (by decide) r4 rfl 1 1 rfl) (by decide) (by decide), by kernel_rfl, hA.cell 35 rfl, hA.cell 36 rfl, hA.cell 37 rfl, hA.cell 38 rfl, hA.cell 39 rfl⟩
  · exact ⟨⟨1, 5, none, 0, [], some ⟨w.heap.size + 1 + 1 + 1 + 1 + 1, 0, none⟩, 2, [(1, 2), (2, 3)], false⟩, pg_mk rfl rfl (its_none W) (gps_blk [(1, 2), (2, 3)] (by decide) (by decide) r5 rfl 2 2 rfl) (by decide) (by decide), by kernel_rfl, hA.cell 40 rfl, hA.cell 41 rfl, hA.cell 42 rfl, hA.cell 43 rfl, hA.cell 44 rfl⟩
  · exact ⟨⟨1, 5, some ⟨w.heap.size + 1 + 1 + 1 + 1 + 1 + 1, 0, none⟩, 1, [2].map itz, some ⟨w.heap.size + 1 + 1 + 1 + 1 + 1 + 1 + 1, 0, none⟩, 1, [(1, 3)], false⟩, pg_mk rfl rfl (its_blk [2] (by decide) (by decide) r6 rfl 1 1 rfl) (gps_blk [(1, 3)] (by decide) (by decide) r7 rfl 1 1 rfl) (by decide) (by decide), by kernel_rfl, hA.cell 45 rfl, hA.cell 46 rfl, hA.cell 47 rfl, hA.cell 48 rfl, hA.cell 49 rfl⟩
/-- The least number, as an event. -/
abbrev minL : List Attr := [⟨⟨#[97]⟩, 1, -9223372036854775808, ⟨#[]⟩, false⟩]
theorem min_may : mayE ⟨#[]⟩ minL = true := by kernel_rfl
theorem min_room : Room minL := by
  intro a ha
  simp only [minL, List.mem_cons, List.not_mem_nil, or_false] at ha
  subst ha
  exact ⟨⟨by decide, by decide⟩, by show (1 : Nat) ≤ _; decide⟩
theorem min_put : putE (⟨#[]⟩, minL) = some (formE (⟨#[]⟩, minL)) := by unfold putE; rw [if_pos min_may]
theorem min_take : tkE (formE (⟨#[]⟩, minL)) = some (⟨#[]⟩, minL) := take_to codec_e codec_es (fun x hx hm => mayE_wfs (e := x) hm (fun a ha => wfv_fits (hx.2.2 a ha).2)) (by
  have h := codec_e.yes (⟨#[]⟩, minL) [] (may_wfe (key := ⟨#[]⟩) (l := minL) min_may (fun a ha => (min_room a ha).1)).1
  rw [List.append_nil] at h
  unfold takeR
  rw [h]
  simp only [min_may, if_true])
theorem tk_7 : tkP [7] = none := by kernel_rfl
theorem tk_op0 : tkP [1, 1, 97, 0] = none := by kernel_rfl
theorem tk_0 : tkP [0] = some [] := by kernel_rfl
theorem tk_pg : tkG [1, 1, 0, 0, 2] = none := by kernel_rfl
theorem key17 : ((putE (⟨#[48, 49, 50, 51, 52, 53, 54, 55, 56, 57, 97, 98, 99, 100, 101, 102, 103]⟩, [])).getD []).length = 0 := by kernel_rfl
theorem may_top : mayI (1099511627776, 1099511627776, ⟨#[]⟩, []) = true := by kernel_rfl
theorem may_zero : mayI (0, 0, ⟨#[]⟩, []) = false := by kernel_rfl
theorem may_late : mayI (1, 1099511627777, ⟨#[]⟩, []) = false := by kernel_rfl
theorem may_end : mayPg (toPg ⟨1099511627777, 1099511627777, none, 0, [], none, 0, [], false⟩) = true := by kernel_rfl
theorem sl_nil (W : World) : Sl W (.slice none 0 0) [] := ⟨none, 0, 0, 0, rfl, fun h => absurd rfl h, fun i hi => absurd hi (Nat.not_lt_zero i), Nat.zero_le _⟩
theorem room_nil : Room [] := fun a ha => by cases ha
theorem bs_at (w : World) (cs : Array Value) (L : List UInt8) (n g : Nat) (hg : w.heap.size = g) (hc : cs = (cellsB L).toArray) (hn : L.length = n) (hl : L.length ≤ 100000) : Bs (w.alloc (.cells cs 5)) (.slice (some ⟨g, 0, none⟩) n n) L := by subst hg; exact bs_new w cs L n hc hn hl
theorem sl_at (w : World) (g : Nat) (hg : w.heap.size = g) : Sl (w.alloc (.cells #[.string ⟨#[97]⟩, .int .i64 1, .int .i64 (-9223372036854775808), .string ⟨#[]⟩, .bool false] 81)) (.slice (some ⟨g, 0, none⟩) 1 1) minL := by
  subst hg
  refine ⟨_, 1, w.heap.size, 0, rfl, fun _ => ⟨rfl, by simp⟩, fun i hi => ?_, by decide⟩
  obtain rfl : i = 0 := by have : minL.length = 1 := rfl; omega
  intro j u hu
  have h := Blk.new w 81 #[.string ⟨#[97]⟩, .int .i64 1, .int .i64 (-9223372036854775808), .string ⟨#[]⟩, .bool false]
  refine h.cell _ ?_
  rw [show 0 + 0 * 5 + j = j by omega, show (#[.string ⟨#[97]⟩, .int .i64 1, .int .i64 (-9223372036854775808), .string ⟨#[]⟩, .bool false] : Array Value) = (encA (minL.getD 0 default)).toArray from rfl, List.getElem?_toArray]
  exact hu
abbrev row4 : Array Value := #[.int .u8 1, .int .u8 1, .int .u8 97, .int .u8 0]
theorem conv_mark (w : World) : (convert 25 25 (.slice (some ⟨w.heap.size, 0, none⟩) 4 4)).run Try.prog (w.alloc (.cells row4 5)) = .ok (.slice (some ⟨w.heap.size, 0, none⟩) 4 4) (w.alloc (.cells row4 5 (4, 5))) := Lib.run_convert_bytes_const w 25 5 row4 4 4 Try.underlying25 Try.underlying5
theorem bs_mark (w : World) : Bs (w.alloc (.cells row4 5 (4, 5))) (.slice (some ⟨w.heap.size, 0, none⟩) 4 4) [1, 1, 97, 0] := by
  refine .inr ⟨_, 4, rfl, by decide, fun _ => ⟨w.heap.size, 0, rfl, by simp, fun i hi => ?_⟩⟩
  have h : (w.alloc (.cells row4 5 (4, 5))).heap[w.heap.size]? = some (.cells row4 5 (4, 5)) := heap_new_at _ _ _ rfl
  have e : ∀ k, (w.alloc (.cells row4 5 (4, 5))).cell? ⟨w.heap.size, k, none⟩ = row4[k]? := fun k => by simp only [World.cell?, h]; rfl
  rw [e]
  rcases (show i = 0 ∨ i = 1 ∨ i = 2 ∨ i = 3 by simp at hi; omega) with rfl | rfl | rfl | rfl <;> rfl
/-- What the law keeps to its end. -/
def Ctk (w : World) (T U g : Nat) (p : Option Addr) (c : Nat) (W : World) : Prop := FullP W g ∧ Blk W T 51 #[.int .u64 1099511627776, .int .u64 1099511627776, .string ⟨#[]⟩, .slice none 0 0] ∧ Blk W U 24 #[.string ⟨#[]⟩, .slice p 1 c] ∧ Sl W (.slice p 1 c) minL ∧ Below w.heap.size w W
theorem Ctk.later {w : World} {T U g : Nat} {p : Option Addr} {c : Nat} {W W' : World} (h : Ctk w T U g p c W) (hb : Below W.heap.size W W') : Ctk w T U g p c W' := ⟨h.1.later hb, h.2.1.later hb, h.2.2.1.later hb, h.2.2.2.1.below hb, then_ h.2.2.2.2 hb⟩
end Go.Proofs.Ytkfheodcmhodpaa.Gm
