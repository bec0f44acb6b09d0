/- Slices of bytes in memory: read; of a call's own. -/
import Derived.Test.YtmbfhmjcphoddaaGreatDoorGm
set_option linter.unusedSimpArgs false
set_option linter.unusedVariables false
namespace Go.Proofs.YtmbfhmjcphoddaaGreatDoor.Gm
open Go Go.RowKit

/-- A byte as a cell's value; bytes as cells. -/
abbrev byteV (c : UInt8) : Value := .int .u8 (c.toNat : Int)
def cellsB (L : List UInt8) : List Value := L.map fun c => byteV c
theorem cellsB_length (L : List UInt8) : (cellsB L).length = L.length := by simp [cellsB]
theorem cellsB_append (L r : List UInt8) : cellsB (L ++ r) = cellsB L ++ cellsB r := by simp [cellsB]
theorem cellsB_one (L : List UInt8) : ∀ u ∈ cellsB L, u.oneCell' = true := by
  intro u hu
  simp only [cellsB, List.mem_map] at hu
  obtain ⟨c, _, rfl⟩ := hu
  rfl
theorem cellsB_at {L : List UInt8} {i : Nat} (h : i < L.length) : (cellsB L)[i]? = some (byteV (L.getD i 0)) := by
  simp [cellsB, List.getD_eq_getElem?_getD, List.getElem?_eq_getElem h]
theorem infoB : (Tryz.prog.info? 5).map (fun i => (i.zero, i.size, i.bytes)) = some (some (.int .u8 0), 1, 1) := by kernel_rfl

/-- Bytes that a slice's value reads as. -/
def Bs (w : World) (v : Value) (L : List UInt8) : Prop :=
  (v = .slice none 0 0 ∧ L = []) ∨ ∃ a cap, v = .slice (some a) L.length cap ∧ L.length ≤ cap ∧ (L ≠ [] → ∃ b o, a = ⟨b, o, none⟩ ∧ b < w.heap.size ∧ ∀ i, i < L.length → w.cell? ⟨b, o + i, none⟩ = some (byteV (L.getD i 0)))
/-- A row of bytes of the call's own, from base on. -/
def OwnB (w : World) (base : Nat) (v : Value) (L : List UInt8) : Prop := w.ownsRow base 5 1 v L.length (cellsB L)
/-- What a call leaves that returns bytes in new memory. -/
def MadeB (L : List UInt8) (w : World) (e : Ending) (w' : World) : Prop := ∃ v, e = .returned v ∧ OwnB w' w.heap.size v L ∧ Below w.heap.size w w'

theorem Bs.form {w : World} {v : Value} {L : List UInt8} (h : Bs w v L) : ∃ p cap, v = .slice p L.length cap := by
  rcases h with ⟨rfl, rfl⟩ | ⟨a, cap, rfl, _⟩
  · exact ⟨none, 0, rfl⟩
  · exact ⟨some a, cap, rfl⟩
theorem Bs.nil (w : World) : Bs w (.slice none 0 0) [] := .inl ⟨rfl, rfl⟩
theorem Bs.below {w w' : World} {v : Value} {L : List UInt8} (h : Bs w v L) (hb : Below w.heap.size w w') : Bs w' v L := by
  rcases h with h | ⟨a, cap, h1, h2, h3⟩
  · exact .inl h
  · refine .inr ⟨a, cap, h1, h2, fun hl => ?_⟩
    obtain ⟨b, o, rfl, hbl, hc⟩ := h3 hl
    exact ⟨b, o, rfl, Nat.lt_of_lt_of_le hbl hb.size, fun i hi => (hb.cell (p := ⟨b, o + i, none⟩) hbl).trans (hc i hi)⟩
theorem Bs.src {w : World} {v : Value} {L : List UInt8} (h : Bs w v L) : Src w v L.length 1 (cellsB L) := by
  rcases h with ⟨rfl, rfl⟩ | ⟨a, cap, rfl, h2, h3⟩
  · exact .inl ⟨rfl, rfl, rfl⟩
  · refine .inr ⟨a, cap, rfl, by rw [cellsB_length, Nat.mul_one], fun j u hu => ?_, cellsB_one L⟩
    have hj : j < L.length := by have := (List.getElem?_eq_some_iff.1 hu).1; rwa [cellsB_length] at this
    obtain ⟨b, o, rfl, _, hc⟩ := h3 (by rintro rfl; simp at hj)
    rw [cellsB_at hj] at hu
    rw [← hu, ← hc j hj]
    unfold Addr.add
    by_cases h0 : j = 0
    · subst h0; simp
    · simp [h0]
theorem OwnB.bs {w : World} {base : Nat} {v : Value} {L : List UInt8} (h : OwnB w base v L) : Bs w v L := by
  rcases h.2 with ⟨rfl, h0⟩ | ⟨g, cap, cur, rfl, hb, hh, h2, _⟩
  · exact .inl ⟨rfl, List.eq_nil_of_length_eq_zero h0⟩
  · refine .inr ⟨⟨g, 0, none⟩, cap, rfl, h2, fun hl => ⟨g, 0, rfl, lt_of_block hh, fun i hi => ?_⟩⟩
    have h3 := World.ownsRow.cellAt h i (by omega)
    rw [Nat.zero_add, h3, cellsB_at hi]
theorem OwnB.base {w : World} {base base' : Nat} {v : Value} {L : List UInt8} (h : OwnB w base v L) (hb : base' ≤ base) : OwnB w base' v L := by
  refine ⟨h.1, ?_⟩
  rcases h.2 with h0 | ⟨g, cap, cur, hv, hg, r⟩
  · exact .inl h0
  · exact .inr ⟨g, cap, cur, hv, by omega, r⟩
theorem OwnB.below {w w' : World} {base : Nat} {v : Value} {L : List UInt8} (h : OwnB w base v L) (hb : Below w.heap.size w w') : OwnB w' base v L := by
  refine ⟨h.1, ?_⟩
  rcases h.2 with h0 | ⟨g, cap, cur, hv, hg, hh, r⟩
  · exact .inl h0
  · exact .inr ⟨g, cap, cur, hv, hg, (hb.block g (lt_of_block hh)).trans hh, r⟩
theorem OwnB.nil (w : World) (base : Nat) : OwnB w base (.slice none 0 0) [] := World.ownsRow_nil _ _ _ _
theorem OwnB.form {w : World} {base : Nat} {v : Value} {L : List UInt8} (h : OwnB w base v L) : ∃ p cap, v = .slice p L.length cap := own_shape h
/-- A part of bytes, from K on. -/
theorem Bs.drop {w : World} {a : Addr} {cap : Nat} {L : List UInt8} (h : Bs w (.slice (some a) L.length cap) L) {K : Nat} (hK : K ≤ L.length) {A : Option Addr} (hA : (if cap = K then some a else some (a.add K)) = A) : Bs w (.slice A (L.length - K) (cap - K)) (L.drop K) := by
  rcases h with ⟨h, _⟩ | ⟨a', cap', h1, h2, h3⟩
  · cases h
  · simp only [Value.slice.injEq, Option.some.injEq, true_and] at h1
    obtain ⟨rfl, rfl⟩ := h1
    obtain ⟨A', rfl⟩ : ∃ A', A = some A' := by rw [← hA]; split <;> exact ⟨_, rfl⟩
    refine .inr ⟨A', cap - K, by rw [List.length_drop], by rw [List.length_drop]; omega, fun hl => ?_⟩
    have hlt : K < L.length := by
      rcases Nat.lt_or_ge K L.length with h | h
      · exact h
      · exact absurd (List.drop_eq_nil_of_le h) hl
    obtain ⟨b, o, rfl, hb, hc⟩ := h3 (by rintro rfl; simp at hlt)
    rw [if_neg (by omega)] at hA
    simp only [Option.some.injEq] at hA
    refine ⟨b, o + K, ?_, hb, fun i hi => ?_⟩
    · rw [← hA]; unfold Addr.add
      by_cases h0 : K = 0
      · subst h0; simp
      · simp [h0]
    · rw [List.length_drop] at hi
      have := hc (K + i) (by omega)
      rw [Nat.add_assoc, this, List.getD_eq_getElem?_getD, List.getD_eq_getElem?_getD, List.getElem?_drop]
/-- The first K of bytes. -/
theorem Bs.take {w : World} {a : Addr} {cap : Nat} {L : List UInt8} (h : Bs w (.slice (some a) L.length cap) L) {K : Nat} (hK : K ≤ L.length) : Bs w (.slice (some a) K cap) (L.take K) := by
  rcases h with ⟨h, _⟩ | ⟨a', cap', h1, h2, h3⟩
  · cases h
  · simp only [Value.slice.injEq, Option.some.injEq, true_and] at h1
    obtain ⟨rfl, rfl⟩ := h1
    have hlen : (L.take K).length = K := by rw [List.length_take]; omega
    refine .inr ⟨a, cap, by rw [hlen], by omega, fun hl => ?_⟩
    obtain ⟨b, o, rfl, hb, hc⟩ := h3 (by rintro rfl; simp at hl)
    refine ⟨b, o, rfl, hb, fun i hi => ?_⟩
    rw [hlen] at hi
    rw [hc i (by omega), List.getD_eq_getElem?_getD, List.getD_eq_getElem?_getD, List.getElem?_take, if_pos hi]
/-- One byte in a block of its own, as a source. -/
theorem news_b (w : World) (c : UInt8) : ∀ (j : Nat) (u : Value), (cellsB [c])[j]? = some u → (w.alloc (.cells #[byteV c] 5)).cell? ((⟨w.heap.size, 0, none⟩ : Addr).add j) = some u := World.news_of_block (cs := #[byteV c]) (heap_alloc_new w _)
theorem src_b {w : World} {H : Nat} (hH : w.heap.size = H) (c : UInt8) (x : Int) (hx : x = (c.toNat : Int)) : Src (w.alloc (.cells #[.int .u8 x] 5)) (.slice (some ⟨H, 0, none⟩) 1 1) 1 1 (cellsB [c]) := by
  subst hH hx
  exact .inr ⟨⟨w.heap.size, 0, none⟩, 1, rfl, rfl, news_b w c, cellsB_one _⟩
theorem OwnB.setOther {w : World} {base g i : Nat} {t : TypeId} {cs : Array Value} {v : Value} {L : List UInt8} (h : OwnB w base v L) (hb : Blk w g t cs) (ht : 5 ≠ t) (u : Value) : OwnB (w.setCell ⟨g, i, none⟩ u) base v L := ownsRow_setCell_other h (hb.apart h ht) u
/-- Bytes that a block of one slice reads as do not lie in that block. -/
theorem Bs.grownR {w w' : World} {R : Nat} {t : TypeId} {v : Value} {L : List UInt8} (h : Bs w v L) (hR : Blk w R t #[v]) (hg : w.grownBy w' (some R)) : Bs w' v L := by
  rcases h with h | ⟨a, cap, h1, h2, h3⟩
  · exact .inl h
  · refine .inr ⟨a, cap, h1, h2, fun hl => ?_⟩
    obtain ⟨b, o, rfl, hbl, hc⟩ := h3 hl
    have hne : b ≠ R := by
      rintro rfl
      have hpos : 0 < L.length := by
        cases L with
        | nil => exact absurd rfl hl
        | cons c r => simp
      have h0 := hc 0 hpos
      unfold Blk at hR
      simp only [World.cell?, hR, Nat.add_zero] at h0
      rcases Nat.eq_zero_or_pos o with ho | ho
      · subst ho; subst h1; simp at h0
      · rw [h1] at h0
        simp [show o ≠ 0 by omega] at h0
    refine ⟨b, o, rfl, Nat.lt_of_lt_of_le hbl hg.size, fun i hi => ?_⟩
    rw [World.cell?_of_block (a := ⟨b, o + i, none⟩) (hg.block b hbl (by rintro h; exact hne (Option.some.inj h)))]
    exact hc i hi
/-- A literal's bytes. -/
theorem ownB_lit (w : World) (L : List UInt8) (cs : Array Value) (n : Nat) (hc : cs = (cellsB L).toArray) (hn : L.length = n) (hl : L.length ≤ 100000) : OwnB (w.alloc (.cells cs 5)) w.heap.size (.slice (some ⟨w.heap.size, 0, none⟩) n n) L := by
  subst hc hn
  have := World.ownsRow_lit (base := w.heap.size) (e := 5) (size := 1) w (cellsB L).toArray L.length (Nat.le_refl _) (by unfold maxLen; omega) (by simp [cellsB_length])
  simpa [OwnB] using this
theorem bs_lit (w : World) (L : List UInt8) (cs : Array Value) (n : Nat) (hc : cs = (cellsB L).toArray) (hn : L.length = n) (hl : L.length ≤ 100000) : Bs (w.alloc (.cells cs 5)) (.slice (some ⟨w.heap.size, 0, none⟩) n n) L := (ownB_lit w L cs n hc hn hl).bs
/-- Bytes that may be written, whatever they are. -/
def Wr8 (w : World) (g n : Nat) : Prop := ∀ i, i < n → ∃ c : UInt8, w.cell? ⟨g, i, none⟩ = some (byteV c) ∧ w.frozen? ⟨g, i, none⟩ = false
theorem Wr8.set {w : World} {g n : Nat} (h : Wr8 w g n) (b j : Nat) (c : UInt8) : Wr8 (w.setCell ⟨b, j, none⟩ (byteV c)) g n := fun i hi => by
  obtain ⟨u, h1, h2⟩ := h i hi
  have hf : (w.setCell ⟨b, j, none⟩ (byteV c)).frozen? ⟨g, i, none⟩ = false := by rw [World.frozen?_setCell]; exact h2
  by_cases e : (⟨b, j, none⟩ : Addr) = ⟨g, i, none⟩
  · exact ⟨c, by rw [← e] at h1 ⊢; exact World.cell?_setCell_same w _ _ h1, hf⟩
  · exact ⟨u, (World.cell?_setCell_other w _ _ _ e).trans h1, hf⟩
theorem Wr8.below {w w' : World} {g n : Nat} (h : Wr8 w g n) (hg : g < w.heap.size) (b : Below w.heap.size w w') : Wr8 w' g n := fun i hi => by
  obtain ⟨u, h1, h2⟩ := h i hi
  exact ⟨u, (b.cell (p := ⟨g, i, none⟩) hg).trans h1, (b.frozen (p := ⟨g, i, none⟩) hg).trans h2⟩
/-- A row that is not empty, as a slice in memory that may be written. -/
theorem OwnB.row {w : World} {base : Nat} {v : Value} {L : List UInt8} (h : OwnB w base v L) (hl : L ≠ []) : ∃ g cap, v = .slice (some ⟨g, 0, none⟩) L.length cap ∧ base ≤ g ∧ g < w.heap.size ∧ Wr8 w g L.length := by
  have h0 := h
  rcases h.2 with ⟨_, hz⟩ | ⟨g, cap, cur, rfl, hb, hh, h2, _⟩
  · exact absurd (List.eq_nil_of_length_eq_zero hz) hl
  · refine ⟨g, cap, rfl, hb, lt_of_block hh, fun i hi => ⟨L.getD i 0, ?_, ?_⟩⟩
    · have h3 := World.ownsRow.cellAt h0 i (by omega)
      rw [h3, cellsB_at hi]
    · exact World.ownsRow.frozenAt h0 i
/-- A byte turned round. -/
theorem xor_byte (c : UInt8) : ∃ d : UInt8, bits BinOp.xor IntKind.u8 (c.toNat : Int) 255 = (d.toNat : Int) := by
  have h : ∀ n : Fin 256, bits BinOp.xor IntKind.u8 ((n.val : Nat) : Int) 255 = ((255 - n.val : Nat) : Int) := by decide +kernel
  refine ⟨UInt8.ofNat (255 - c.toNat), ?_⟩
  have := h ⟨c.toNat, c.toNat_lt⟩
  rw [UInt8.toNat_ofNat']
  simp only at this
  rw [this]
  omega
theorem ownB_app {w : World} {base n : Nat} {v : Value} {L r : List UInt8} (h : w.ownsRow base 5 1 v n (cellsB L ++ cellsB r)) (hn : n = L.length + r.length) : OwnB w base v (L ++ r) := by
  subst hn
  unfold OwnB
  rw [cellsB_append, List.length_append]
  exact h
end Go.Proofs.YtmbfhmjcphoddaaGreatDoor.Gm
