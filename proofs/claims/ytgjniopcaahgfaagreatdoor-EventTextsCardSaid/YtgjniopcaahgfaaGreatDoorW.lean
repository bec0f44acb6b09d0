/- Small words for memory: a block of one cell; an environment that every call leaves as it was. -/
import Derived.Test.YtgjniopcaahgfaaGreatDoorA
import Derived.OneCell
import Derived.Deep.AppendLies
import Derived.RegionTactic
import Derived.Deep.RegionLaw
import Derived.BigRegion
set_option linter.unusedSimpArgs false
set_option linter.unusedVariables false
namespace Go.Proofs.YtgjniopcaahgfaaGreatDoor
open Go.RowKit

theorem then_ {a b c : World} (h : Below a.heap.size a b) (k : Below b.heap.size b c) : Below a.heap.size a c := h.trans (k.mono h.size)

/-- Block g is one cell of type t that holds v. -/
def Box (w : World) (g : Nat) (t : TypeId) (v : Value) : Prop := w.heap[g]? = some (.cells #[v] t (0, 0))
section
variable {w w' : World} {g : Nat} {t : TypeId} {v : Value}
theorem Box.cell (h : Box w g t v) : w.cell? ⟨g, 0, none⟩ = some v := cell_of_one h
theorem Box.free (h : Box w g t v) : w.frozen? ⟨g, 0, none⟩ = false := free_of_one h
theorem Box.lt (h : Box w g t v) : g < w.heap.size := lt_of_block h
theorem Box.set (h : Box w g t v) (u : Value) : Box (w.setCell ⟨g, 0, none⟩ u) g t u := one_setCell h
theorem Box.alloc (h : Box w g t v) (o : Obj) : Box (w.alloc o) g t v := (Below.heap_alloc w o g h.lt).trans h
theorem Box.drew (h : Box w g t v) : Box w.drew g t v := h
theorem Box.drewN (h : Box w g t v) (n : Nat) : Box (w.drewN n) g t v := h
theorem Box.below {B : Nat} (h : Box w g t v) (hb : Below B w w') (hg : g < B) : Box w' g t v := (hb.block g hg).trans h
theorem Box.grown {row : Option Nat} (h : Box w g t v) (hg : w.grownBy w' row) (hr : row ≠ some g) : Box w' g t v := (hg.block g h.lt (fun e => hr e.symm)).trans h
theorem Box.new (w : World) (t : TypeId) (v : Value) : Box (w.alloc (.cells #[v] t)) w.heap.size t v := heap_alloc_new w _
/-- A row of bytes and a box of another type never share a block. -/
theorem Box.apart {base : Nat} {e : TypeId} {size n : Nat} {u : Value} {xs : List Value} (hb : Box w g t v) (h : w.ownsRow base e size u n xs) (hne : e ≠ t) : u.ownBlock ≠ some g := by
  rcases h.2 with ⟨rfl, _⟩ | ⟨g', cap, cur, rfl, _, hh, _⟩
  · simp [Value.ownBlock]
  · intro he
    have : g' = g := by simpa [Value.ownBlock] using he
    subst this
    unfold Box at hb
    rw [hh] at hb
    injection hb with hb
    injection hb with _ ht
    exact hne ht
end
theorem info5 : (Tryz.prog.info? 5).map (fun i => (i.zero, i.size, i.bytes)) = some (some (.int .u8 0), 1, 1) := by kernel_rfl
/-- A byte as a cell's value. -/
abbrev bval (c : UInt8) : Value := .int .u8 (c.toNat : Int)

/-- What the closure leaves: its box holds a row of the call's own with these cells; nothing below base has changed. -/
def Put (base B : Nat) (w : World) (n : Nat) (xs : List Value) (e : Ending) (w' : World) : Prop :=
  e = .returned (.tuple #[]) ∧ ∃ v, Box w' B 62 v ∧ w'.ownsRow base 5 1 v n xs ∧ Below base w w' ∧ w.heap.size ≤ w'.heap.size



/-- What a way through the closure comes to: the row has grown, and its slice is stored back into the box. -/
theorem put_end {base B g cap n m : Nat} {v : Value} {xs news : List Value} {w W0 w1 : World} (hB : Box w B 62 v) (hbase : base ≤ B) (hown : w.ownsRow base 5 1 v n xs) (hW : Below w.heap.size w W0)
    (hown1 : w1.ownsRow base 5 1 (.slice (some ⟨g, 0, none⟩) (n + m) cap) (n + m) (xs ++ news)) (hg : W0.grownBy w1 v.ownBlock) :
    Box w1 B 62 v ∧ Put base B w (n + m) (xs ++ news) (.returned (.tuple #[])) (w1.setCell ⟨B, 0, none⟩ (.slice (some ⟨g, 0, none⟩) (n + m) cap)) := by
  have hlt := hB.lt
  have hB0 : Box W0 B 62 v := hB.below hW hlt
  have hown0 : v.ownBlock ≠ some B := hB.apart hown (by decide)
  have hB1 : Box w1 B 62 v := hB0.grown hg hown0
  have hsz : W0.heap.size ≤ w1.heap.size := hg.size
  refine ⟨hB1, rfl, _, hB1.set _, ownsRow_setCell_other hown1 (hB1.apart hown1 (by decide)) _, ?_, ?_⟩
  · exact ((hW.mono (by omega)).grown hg (by have := hW.size; omega) (fun k hk => (hown.lt k hk).1)).setCell (p := ⟨B, 0, none⟩) hbase _
  · have := hW.size; have h3 : (w1.setCell ⟨B, 0, none⟩ (.slice (some ⟨g, 0, none⟩) (n + m) cap)).heap.size = w1.heap.size := by simp
    omega

theorem news1 (w : World) (a : Value) : ∀ (j : Nat) (u : Value), [a][j]? = some u → (w.alloc (.cells #[a] 5)).cell? ((⟨w.heap.size, 0, none⟩ : Addr).add j) = some u := World.news_of_block (cs := #[a]) (heap_alloc_new w _)
theorem news2 (w : World) (a b : Value) : ∀ (j : Nat) (u : Value), [a, b][j]? = some u → (w.alloc (.cells #[a, b] 5)).cell? ((⟨w.heap.size, 0, none⟩ : Addr).add j) = some u := World.news_of_block (cs := #[a, b]) (heap_alloc_new w _)
theorem news4 (w : World) (a b c d : Value) : ∀ (j : Nat) (u : Value), [a, b, c, d][j]? = some u → (w.alloc (.cells #[a, b, c, d] 5)).cell? ((⟨w.heap.size, 0, none⟩ : Addr).add j) = some u := World.news_of_block (cs := #[a, b, c, d]) (heap_alloc_new w _)

set_option maxHeartbeats 400000 in
set_option maxRecDepth 20000 in
theorem put_plain (c : UInt8) (base B : Nat) (v : Value) (n : Nat) (xs : List Value) (w : World) (hB : Box w B 62 v) (hbase : base ≤ B) (hown : w.ownsRow base 5 1 v n xs) (hn : n ≤ 70368744177664)
    (h1 : ¬ c.toNat = 34) (h2 : ¬ c.toNat = 92) (h3 : 32 ≤ c.toNat) (h4 : c.toNat ≤ 126) :
    Calls Tryz.prog 44 #[bval c, .pointer (some ⟨B, 0, none⟩)] w (Put base B w (n + 1) (xs ++ [bval c])) := by
  obtain ⟨i0, hi, hz0, hz1, hz2⟩ := info_parts info5
  have e1 : ((c.toNat : Int) == 34) = false := by simp; omega
  have e2 : ((c.toNat : Int) == 92) = false := by simp; omega
  have e3 : decide ((c.toNat : Int) < 32) = false := by simp; omega
  have e4 : decide ((126 : Int) < (c.toNat : Int)) = false := by simp; omega
  have hcB := hB.cell
  have hlt := hB.lt
  have hfB := hB.free
  clear h1 h2 h3 h4
  go_enter Tryz.func44, Tryz.ntmps44
  go_wp2_with (at_builtin; refine wpList_append_lies _ rfl _ _ 62 rfl base 5 i0 (.int .u8 0) 1 1 Tryz.underlying62 hi hz0 hz1 hz2 rfl (by decide) _ _ _ rfl (hown.alloc _) ⟨w.heap.size, 0, none⟩ 1 1 [bval c] rfl rfl (news1 _ _) (by intro u hu; simp at hu; subst hu; rfl) (by decide) (by unfold maxLen; omega) (by omega) (by simp; omega) (w.heap.size + 1) (by simp) ?_; intro g cap w1 hown1 hgrow _ _; obtain ⟨hB1, hput⟩ := put_end hB hbase hown ((Below.refl _ w).alloc (Nat.le_refl _) _) hown1 hgrow; have hc1 := hB1.cell; have hf1 := hB1.free)
  go_end0
  exact hput

set_option maxHeartbeats 400000 in
set_option maxRecDepth 20000 in
theorem put_marked (c : UInt8) (base B : Nat) (v : Value) (n : Nat) (xs : List Value) (w : World) (hB : Box w B 62 v) (hbase : base ≤ B) (hown : w.ownsRow base 5 1 v n xs) (hn : n ≤ 70368744177664)
    (h : c.toNat = 34 ∨ c.toNat = 92) :
    Calls Tryz.prog 44 #[bval c, .pointer (some ⟨B, 0, none⟩)] w (Put base B w (n + 2) (xs ++ [.int .u8 92, bval c])) := by
  obtain ⟨i0, hi, hz0, hz1, hz2⟩ := info_parts info5
  have hcB := hB.cell
  have hlt := hB.lt
  have hfB := hB.free
  rcases h with h | h
  · have e1 : ((c.toNat : Int) == 34) = true := by simp; omega
    clear h
    go_enter Tryz.func44, Tryz.ntmps44
    go_wp2_with (at_builtin; refine wpList_append_lies _ rfl _ _ 62 rfl base 5 i0 (.int .u8 0) 1 1 Tryz.underlying62 hi hz0 hz1 hz2 rfl (by decide) _ _ _ rfl (hown.alloc _) ⟨w.heap.size, 0, none⟩ 2 2 [.int .u8 92, bval c] rfl rfl (news2 _ _ _) (by intro u hu; simp at hu; rcases hu with hu | hu <;> subst hu <;> rfl) (by decide) (by unfold maxLen; omega) (by omega) (by simp; omega) (w.heap.size + 1) (by simp) ?_; intro g cap w1 hown1 hgrow _ _; obtain ⟨hB1, hput⟩ := put_end hB hbase hown ((Below.refl _ w).alloc (Nat.le_refl _) _) hown1 hgrow; have hc1 := hB1.cell; have hf1 := hB1.free)
    go_end0
    exact hput
  · have e1 : ((c.toNat : Int) == 34) = false := by simp; omega
    have e2 : ((c.toNat : Int) == 92) = true := by simp; omega
    clear h
    go_enter Tryz.func44, Tryz.ntmps44
    go_wp2_with (at_builtin; refine wpList_append_lies _ rfl _ _ 62 rfl base 5 i0 (.int .u8 0) 1 1 Tryz.underlying62 hi hz0 hz1 hz2 rfl (by decide) _ _ _ rfl (hown.alloc _) ⟨w.heap.size, 0, none⟩ 2 2 [.int .u8 92, bval c] rfl rfl (news2 _ _ _) (by intro u hu; simp at hu; rcases hu with hu | hu <;> subst hu <;> rfl) (by decide) (by unfold maxLen; omega) (by omega) (by simp; omega) (w.heap.size + 1) (by simp) ?_; intro g cap w1 hown1 hgrow _ _; obtain ⟨hB1, hput⟩ := put_end hB hbase hown ((Below.refl _ w).alloc (Nat.le_refl _) _) hown1 hgrow; have hc1 := hB1.cell; have hf1 := hB1.free)
    go_end0
    exact hput


/-- The two halves of a byte, and a half's digit. -/
def hi4 (c : UInt8) : Nat := c.toNat / 16
def lo4 (c : UInt8) : Nat := c.toNat % 16
def hexd (k : Nat) : UInt8 := if k < 10 then UInt8.ofNat (48 + k) else UInt8.ofNat (87 + k)
theorem hi4_lt (c : UInt8) : hi4 c < 16 := by unfold hi4; have := c.toNat_lt; omega
theorem lo4_lt (c : UInt8) : lo4 c < 16 := by unfold lo4; omega
theorem bits_lo4 (c : UInt8) : bits BinOp.and IntKind.u8 (c.toNat : Int) 15 = (lo4 c : Int) := by
  have : ∀ k : Fin 256, bits BinOp.and IntKind.u8 ((k.val : Nat) : Int) 15 = ((k.val % 16 : Nat) : Int) := by decide +kernel
  exact this ⟨c.toNat, c.toNat_lt⟩
theorem index_digit0 (W : World) : (Instr.index 9 (.string ⟨#[48, 49, 50, 51, 52, 53, 54, 55, 56, 57, 97, 98, 99, 100, 101, 102]⟩) (.int .u8 0)).run Tryz.prog W = .ok (bval (hexd 0)) W := by kernel_rfl
theorem index_digit1 (W : World) : (Instr.index 9 (.string ⟨#[48, 49, 50, 51, 52, 53, 54, 55, 56, 57, 97, 98, 99, 100, 101, 102]⟩) (.int .u8 1)).run Tryz.prog W = .ok (bval (hexd 1)) W := by kernel_rfl
theorem index_digit2 (W : World) : (Instr.index 9 (.string ⟨#[48, 49, 50, 51, 52, 53, 54, 55, 56, 57, 97, 98, 99, 100, 101, 102]⟩) (.int .u8 2)).run Tryz.prog W = .ok (bval (hexd 2)) W := by kernel_rfl
theorem index_digit3 (W : World) : (Instr.index 9 (.string ⟨#[48, 49, 50, 51, 52, 53, 54, 55, 56, 57, 97, 98, 99, 100, 101, 102]⟩) (.int .u8 3)).run Tryz.prog W = .ok (bval (hexd 3)) W := by kernel_rfl
theorem index_digit4 (W : World) : (Instr.index 9 (.string ⟨#[48, 49, 50, 51, 52, 53, 54, 55, 56, 57, 97, 98, 99, 100, 101, 102]⟩) (.int .u8 4)).run Tryz.prog W = .ok (bval (hexd 4)) W := by kernel_rfl
theorem index_digit5 (W : World) : (Instr.index 9 (.string ⟨#[48, 49, 50, 51, 52, 53, 54, 55, 56, 57, 97, 98, 99, 100, 101, 102]⟩) (.int .u8 5)).run Tryz.prog W = .ok (bval (hexd 5)) W := by kernel_rfl
theorem index_digit6 (W : World) : (Instr.index 9 (.string ⟨#[48, 49, 50, 51, 52, 53, 54, 55, 56, 57, 97, 98, 99, 100, 101, 102]⟩) (.int .u8 6)).run Tryz.prog W = .ok (bval (hexd 6)) W := by kernel_rfl
theorem index_digit7 (W : World) : (Instr.index 9 (.string ⟨#[48, 49, 50, 51, 52, 53, 54, 55, 56, 57, 97, 98, 99, 100, 101, 102]⟩) (.int .u8 7)).run Tryz.prog W = .ok (bval (hexd 7)) W := by kernel_rfl
theorem index_digit8 (W : World) : (Instr.index 9 (.string ⟨#[48, 49, 50, 51, 52, 53, 54, 55, 56, 57, 97, 98, 99, 100, 101, 102]⟩) (.int .u8 8)).run Tryz.prog W = .ok (bval (hexd 8)) W := by kernel_rfl
theorem index_digit9 (W : World) : (Instr.index 9 (.string ⟨#[48, 49, 50, 51, 52, 53, 54, 55, 56, 57, 97, 98, 99, 100, 101, 102]⟩) (.int .u8 9)).run Tryz.prog W = .ok (bval (hexd 9)) W := by kernel_rfl
theorem index_digit10 (W : World) : (Instr.index 9 (.string ⟨#[48, 49, 50, 51, 52, 53, 54, 55, 56, 57, 97, 98, 99, 100, 101, 102]⟩) (.int .u8 10)).run Tryz.prog W = .ok (bval (hexd 10)) W := by kernel_rfl
theorem index_digit11 (W : World) : (Instr.index 9 (.string ⟨#[48, 49, 50, 51, 52, 53, 54, 55, 56, 57, 97, 98, 99, 100, 101, 102]⟩) (.int .u8 11)).run Tryz.prog W = .ok (bval (hexd 11)) W := by kernel_rfl
theorem index_digit12 (W : World) : (Instr.index 9 (.string ⟨#[48, 49, 50, 51, 52, 53, 54, 55, 56, 57, 97, 98, 99, 100, 101, 102]⟩) (.int .u8 12)).run Tryz.prog W = .ok (bval (hexd 12)) W := by kernel_rfl
theorem index_digit13 (W : World) : (Instr.index 9 (.string ⟨#[48, 49, 50, 51, 52, 53, 54, 55, 56, 57, 97, 98, 99, 100, 101, 102]⟩) (.int .u8 13)).run Tryz.prog W = .ok (bval (hexd 13)) W := by kernel_rfl
theorem index_digit14 (W : World) : (Instr.index 9 (.string ⟨#[48, 49, 50, 51, 52, 53, 54, 55, 56, 57, 97, 98, 99, 100, 101, 102]⟩) (.int .u8 14)).run Tryz.prog W = .ok (bval (hexd 14)) W := by kernel_rfl
theorem index_digit15 (W : World) : (Instr.index 9 (.string ⟨#[48, 49, 50, 51, 52, 53, 54, 55, 56, 57, 97, 98, 99, 100, 101, 102]⟩) (.int .u8 15)).run Tryz.prog W = .ok (bval (hexd 15)) W := by kernel_rfl
theorem index_digit (k : Nat) (hk : k < 16) (W : World) : (Instr.index 9 (.string ⟨#[48, 49, 50, 51, 52, 53, 54, 55, 56, 57, 97, 98, 99, 100, 101, 102]⟩) (.int .u8 (k : Int))).run Tryz.prog W = .ok (bval (hexd k)) W := by
  rcases (show k = 0 ∨ k = 1 ∨ k = 2 ∨ k = 3 ∨ k = 4 ∨ k = 5 ∨ k = 6 ∨ k = 7 ∨ k = 8 ∨ k = 9 ∨ k = 10 ∨ k = 11 ∨ k = 12 ∨ k = 13 ∨ k = 14 ∨ k = 15 from by omega) with rfl | rfl | rfl | rfl | rfl | rfl | rfl | rfl | rfl | rfl | rfl | rfl | rfl | rfl | rfl | rfl
  · exact index_digit0 W
  · exact index_digit1 W
  · exact index_digit2 W
  · exact index_digit3 W
  · exact index_digit4 W
  · exact index_digit5 W
  · exact index_digit6 W
  · exact index_digit7 W
  · exact index_digit8 W
  · exact index_digit9 W
  · exact index_digit10 W
  · exact index_digit11 W
  · exact index_digit12 W
  · exact index_digit13 W
  · exact index_digit14 W
  · exact index_digit15 W

set_option maxHeartbeats 400000 in
set_option maxRecDepth 20000 in
theorem put_hex_low (c : UInt8) (base B : Nat) (v : Value) (n : Nat) (xs : List Value) (w : World) (hB : Box w B 62 v) (hbase : base ≤ B) (hown : w.ownsRow base 5 1 v n xs) (hn : n ≤ 70368744177664)
    (h : c.toNat < 32) :
    Calls Tryz.prog 44 #[bval c, .pointer (some ⟨B, 0, none⟩)] w (Put base B w (n + 4) (xs ++ [.int .u8 92, .int .u8 120, bval (hexd (hi4 c)), bval (hexd (lo4 c))])) := by
  obtain ⟨i0, hi, hz0, hz1, hz2⟩ := info_parts info5
  have hcB := hB.cell
  have hlt := hB.lt
  have hfB := hB.free
  have e1 : ((c.toNat : Int) == 34) = false := by simp; omega
  have e2 : ((c.toNat : Int) == 92) = false := by simp; omega
  have e3 : decide ((c.toNat : Int) < 32) = true := by simp; omega
  have d1 : (c.toNat : Int) / 16 = (hi4 c : Int) := by unfold hi4; omega
  have d2 := bits_lo4 c
  have d3 := index_digit (hi4 c) (hi4_lt c)
  have d4 := index_digit (lo4 c) (lo4_lt c)
  clear h
  go_enter Tryz.func44, Tryz.ntmps44
  go_wp2_with fail
  have hcA : ∀ o, (w.alloc o).cell? ⟨B, 0, none⟩ = some v := fun o => by rw [World.cell?_alloc_lt _ _ _ (by simpa using hlt)]; exact hcB
  go_region_law ((refine step_append_lies _ (by rfl) _ _ 62 (by rfl) base 5 i0 (.int .u8 0) 1 1 Tryz.underlying62 hi hz0 hz1 hz2 rfl (by decide) v n xs (by rfl) (hown.alloc _) ⟨w.heap.size, 0, none⟩ 4 4 [.int .u8 92, .int .u8 120, bval (hexd (hi4 c)), bval (hexd (lo4 c))] (by rfl) rfl (news4 _ _ _ _ _) (by intro u hu; simp at hu; rcases hu with hu | hu | hu | hu <;> subst hu <;> rfl) (by decide) (by unfold maxLen; omega) (by omega) (by simp; omega) (w.heap.size + 1) (by simp) ?_; intro g cap w1 hown1 hgrow _ _; obtain ⟨hB1, hput⟩ := put_end hB hbase hown (((Below.refl _ w).alloc (Nat.le_refl _) _).drew) hown1 hgrow; have hc1 := hB1.cell; have hf1 := hB1.free))
  all_goals go_wp2
  all_goals go_end0
  all_goals exact hput
set_option maxHeartbeats 400000 in
set_option maxRecDepth 20000 in
theorem put_hex_high (c : UInt8) (base B : Nat) (v : Value) (n : Nat) (xs : List Value) (w : World) (hB : Box w B 62 v) (hbase : base ≤ B) (hown : w.ownsRow base 5 1 v n xs) (hn : n ≤ 70368744177664)
    (h : 126 < c.toNat) :
    Calls Tryz.prog 44 #[bval c, .pointer (some ⟨B, 0, none⟩)] w (Put base B w (n + 4) (xs ++ [.int .u8 92, .int .u8 120, bval (hexd (hi4 c)), bval (hexd (lo4 c))])) := by
  obtain ⟨i0, hi, hz0, hz1, hz2⟩ := info_parts info5
  have hcB := hB.cell
  have hlt := hB.lt
  have hfB := hB.free
  have e1 : ((c.toNat : Int) == 34) = false := by simp; omega
  have e2 : ((c.toNat : Int) == 92) = false := by simp; omega
  have e3 : decide ((c.toNat : Int) < 32) = false := by simp; omega
  have e4 : decide ((126 : Int) < (c.toNat : Int)) = true := by simp; omega
  have d1 : (c.toNat : Int) / 16 = (hi4 c : Int) := by unfold hi4; omega
  have d2 := bits_lo4 c
  have d3 := index_digit (hi4 c) (hi4_lt c)
  have d4 := index_digit (lo4 c) (lo4_lt c)
  clear h
  go_enter Tryz.func44, Tryz.ntmps44
  go_wp2_with fail
  have hcA : ∀ o, (w.alloc o).cell? ⟨B, 0, none⟩ = some v := fun o => by rw [World.cell?_alloc_lt _ _ _ (by simpa using hlt)]; exact hcB
  go_region_law ((refine step_append_lies _ (by rfl) _ _ 62 (by rfl) base 5 i0 (.int .u8 0) 1 1 Tryz.underlying62 hi hz0 hz1 hz2 rfl (by decide) v n xs (by rfl) (hown.alloc _) ⟨w.heap.size, 0, none⟩ 4 4 [.int .u8 92, .int .u8 120, bval (hexd (hi4 c)), bval (hexd (lo4 c))] (by rfl) rfl (news4 _ _ _ _ _) (by intro u hu; simp at hu; rcases hu with hu | hu | hu | hu <;> subst hu <;> rfl) (by decide) (by unfold maxLen; omega) (by omega) (by simp; omega) (w.heap.size + 1) (by simp) ?_; intro g cap w1 hown1 hgrow _ _; obtain ⟨hB1, hput⟩ := put_end hB hbase hown (((Below.refl _ w).alloc (Nat.le_refl _) _).drew) hown1 hgrow; have hc1 := hB1.cell; have hf1 := hB1.free))
  all_goals go_wp2
  all_goals go_end0
  all_goals exact hput

/-- A byte as a text has it. -/
def escB (c : UInt8) : List UInt8 := if c.toNat = 34 ∨ c.toNat = 92 then [92, c] else if c.toNat < 32 ∨ 126 < c.toNat then [92, 120, hexd (hi4 c), hexd (lo4 c)] else [c]
def escAll (l : List UInt8) : List UInt8 := l.flatMap escB
theorem escB_length (c : UInt8) : (escB c).length ≤ 4 := by unfold escB; split <;> (try split) <;> simp
theorem escAll_length (l : List UInt8) : (escAll l).length ≤ 4 * l.length := by
  induction l with
  | nil => simp [escAll]
  | cons a l ih => have := escB_length a; simp only [escAll, List.flatMap_cons, List.length_append, List.length_cons] at *; omega

theorem put_any (c : UInt8) (base B : Nat) (v : Value) (n : Nat) (xs : List Value) (w : World) (hB : Box w B 62 v) (hbase : base ≤ B) (hown : w.ownsRow base 5 1 v n xs) (hn : n ≤ 70368744177664) :
    Calls Tryz.prog 44 #[bval c, .pointer (some ⟨B, 0, none⟩)] w (Put base B w (n + (escB c).length) (xs ++ (escB c).map bval)) := by
  unfold escB
  by_cases h : c.toNat = 34 ∨ c.toNat = 92
  · rw [if_pos h]; exact put_marked c base B v n xs w hB hbase hown hn h
  rw [if_neg h]
  by_cases h2 : c.toNat < 32 ∨ 126 < c.toNat
  · rw [if_pos h2]
    rcases h2 with h2 | h2
    · exact put_hex_low c base B v n xs w hB hbase hown hn h2
    · exact put_hex_high c base B v n xs w hB hbase hown hn h2
  · rw [if_neg h2]; exact put_plain c base B v n xs w hB hbase hown hn (by omega) (by omega) (by omega) (by omega)
end Go.Proofs.YtgjniopcaahgfaaGreatDoor
