/- Frames: package crc's seal and Put; the document's Put. -/
import Derived.Test.YtelocbohiddpgaaGreatDoorYe
import Derived.Test.YtelocbohiddpgaaGreatDoorYf
set_option linter.unusedSimpArgs false
set_option linter.unusedVariables false
namespace Go.Proofs.YtelocbohiddpgaaGreatDoor.Crc
open Go Go.RowKit Gm
attribute [local go_sem ↓] Go.wp_at_zero Go.wp_at_succ

/-- A number's lowest byte. -/
theorem low_byte (n : Nat) : IntKind.u8.wrap (n : Int) = ((UInt8.ofNat n).toNat : Int) := by
  rw [IntKind.wrap_u8', UInt8.toNat_ofNat']
  omega
theorem low_byte_1 (n : Nat) : (n : Int) / 256 % 256 = ((UInt8.ofNat (n / 256)).toNat : Int) := by
  rw [UInt8.toNat_ofNat']; omega
theorem low_byte_2 (n : Nat) : (n : Int) / 65536 % 256 = ((UInt8.ofNat (n / 65536)).toNat : Int) := by
  rw [UInt8.toNat_ofNat']; omega
theorem low_byte_3 (n : Nat) : (n : Int) / 16777216 % 256 = ((UInt8.ofNat (n / 16777216)).toNat : Int) := by
  rw [UInt8.toNat_ofNat']; omega
theorem blk_set {w : World} {g i : Nat} {t : TypeId} {cs : Array Value} (h : Blk w g t cs) (u : Value) : Blk (w.setCell ⟨g, i, none⟩ u) g t (cs.setIfInBounds i u) := Joins.block_setCell h u
theorem le4_eq (s : BitVec 32) : le4 s = [UInt8.ofNat s.toNat, UInt8.ofNat (s.toNat / 256), UInt8.ofNat (s.toNat / 65536), UInt8.ofNat (s.toNat / 16777216)] := rfl
/-- Four bytes as an array's value. -/
abbrev arr4 (a b c d : UInt8) : Value := .agg #[byteV a, byteV b, byteV c, byteV d]
set_option maxHeartbeats 1000000 in
theorem seal_at (v : Value) (L : List UInt8) (a b c d : UInt8) (h4 : le4 (sumL L) = [a, b, c, d]) (w : World) (hE : Env w) (hB : Bs w v L) (hl : L.length ≤ maxB) : Calls Tryz.prog 78 #[v] w (Gives (arr4 a b c d) w) := by
  rw [le4_eq] at h4
  simp only [List.cons.injEq, and_true] at h4
  obtain ⟨e0, e1, e2, e3⟩ := h4
  have HC := Lib.hid (sum_any v L _ (hE.alloc (.cells #[.int .u8 0, .int .u8 0, .int .u8 0, .int .u8 0] 134)) (hB.below (below_one w _)) hl)
  generalize sumL L = s at *
  have k0 := low_byte s.toNat
  have k1 := low_byte_1 s.toNat
  have k2 := low_byte_2 s.toNat
  have k3 := low_byte_3 s.toNat
  rw [e0] at k0
  rw [e1] at k1
  rw [e2] at k2
  rw [e3] at k3
  clear e0 e1 e2 e3 hE hB hl
  unfold u32V at *
  generalize s.toNat = n at *
  have HB := Lib.hid (below_one w (.cells #[.int .u8 0, .int .u8 0, .int .u8 0, .int .u8 0] 134))
  have HK := Lib.hid (Blk.new w 134 #[.int .u8 0, .int .u8 0, .int .u8 0, .int .u8 0])
  obtain ⟨W1, hW1⟩ : ∃ W1, w.alloc (.cells #[.int .u8 0, .int .u8 0, .int .u8 0, .int .u8 0] 134) = W1 := ⟨_, rfl⟩
  go_enter Tryz.func78, Tryz.ntmps78
  go_wp2_with fail
  rw [hW1] at HC HB HK
  clear hW1
  refine HC.out.mono ?_; rintro e w1 ⟨rfl, b1⟩
  have hk := HK.out.later b1
  have c0 := hk.cell 0 rfl
  have c1 := hk.cell 1 rfl
  have c2 := hk.cell 2 rfl
  have c3 := hk.cell 3 rfl
  have f0 := hk.free 0
  have f1 := hk.free 1
  have f2 := hk.free 2
  have f3 := hk.free 3
  have HK1 := Lib.hid hk
  have HB1 := Lib.hid (then_ HB.out b1)
  clear hk b1 HC
  go_wp2_with fail
  have hk4 := blk_set (i := 3) (blk_set (i := 2) (blk_set (i := 1) (blk_set (i := 0) HK1.out (byteV a)) (byteV b)) (byteV c)) (byteV d)
  have hb4 : Below w.heap.size w ((((w1.setCell ⟨w.heap.size, 0, none⟩ (byteV a)).setCell ⟨w.heap.size, 1, none⟩ (byteV b)).setCell ⟨w.heap.size, 2, none⟩ (byteV c)).setCell ⟨w.heap.size, 3, none⟩ (byteV d)) :=
    (only_grown (grown_set (grown_set (grown_set (grown_set (World.grownBy.refl w1 (some w.heap.size)) _) _) _) _)).below HB1.out (by intro j hj; rw [List.mem_singleton.1 hj]; omega) HB1.out.size
  obtain ⟨W4, hW4⟩ : ∃ W4, (((w1.setCell ⟨w.heap.size, 0, none⟩ (byteV a)).setCell ⟨w.heap.size, 1, none⟩ (byteV b)).setCell ⟨w.heap.size, 2, none⟩ (byteV c)).setCell ⟨w.heap.size, 3, none⟩ (byteV d) = W4 := ⟨_, rfl⟩
  rw [hW4] at hk4 hb4 ⊢
  have r0 := hk4.cell 0 rfl
  have r1 := hk4.cell 1 rfl
  have r2 := hk4.cell 2 rfl
  have r3 := hk4.cell 3 rfl
  refine bodyPost_ret (v := arr4 a b c d) (by simp [results, Tryz.results78, go_sem, r0, r1, r2, r3]) rfl ⟨rfl, hb4⟩
/-- Bytes in a block of an array, as a slice. -/
theorem bs_blk {w : World} {g : Nat} {t : TypeId} {cs : Array Value} (h : Blk w g t cs) (L : List UInt8) (n : Nat) (hn : L.length = n) (hc : ∀ i, i < L.length → cs[i]? = some (byteV (L.getD i 0))) : Bs w (.slice (some ⟨g, 0, none⟩) n n) L := by
  subst hn
  refine .inr ⟨⟨g, 0, none⟩, L.length, rfl, Nat.le_refl _, fun _ => ⟨g, 0, rfl, h.lt, fun i hi => ?_⟩⟩
  rw [Nat.zero_add]
  exact h.cell i (hc i hi)
/-- Bytes that come in are at most so many. -/
def maxIn : Nat := 140737488351232
theorem four_le (l : List UInt8) (h : l.length = 4) : ∃ a b c d, l = [a, b, c, d] := by
  match l, h with
  | [a, b, c, d], _ => exact ⟨a, b, c, d, rfl⟩
set_option maxHeartbeats 1000000 in
theorem put_any (v : Value) (L : List UInt8) (w : World) (hE : Env w) (hB : Bs w v L) (hl : L.length ≤ maxIn) : Calls Tryz.prog 48 #[v] w (MadeB (putL L) w) := by
  obtain ⟨a, b, c, d, h4⟩ := four_le (le4 (sumL L)) rfl
  obtain ⟨p, cp, rfl⟩ := hB.form
  have hl1 : L.length ≤ maxB := Nat.le_trans hl (by decide)
  have HC := Lib.hid (seal_at _ L a b c d h4 w hE hB hl1)
  have HB := Lib.hid hB
  have HL : Hid (L.length + [a, b, c, d].length ≤ 140737488355328) := Lib.hid (by simp only [List.length_cons, List.length_nil]; unfold maxIn at hl; omega)
  have HP : Hid (putL L = L ++ [a, b, c, d]) := Lib.hid (by unfold putL; rw [h4])
  clear h4 hE hB hl hl1
  go_enter Tryz.func48, Tryz.ntmps48
  go_wp2_with fail
  refine HC.out.mono ?_; rintro e w1 ⟨rfl, b1⟩
  have HB1 := Lib.hid b1
  obtain ⟨W2, hW2⟩ : ∃ W2, w1.alloc (.cells #[byteV a, byteV b, byteV c, byteV d] 134) = W2 := ⟨_, rfl⟩
  obtain ⟨g, hg⟩ : ∃ g, w1.heap.size = g := ⟨_, rfl⟩
  have HK2 : Hid (Blk W2 g 134 #[byteV a, byteV b, byteV c, byteV d]) := Lib.hid (by rw [← hW2, ← hg]; exact Blk.new w1 _ _)
  have HB2 : Hid (Below w.heap.size w W2) := Lib.hid (by rw [← hW2]; exact then_ b1 (below_one w1 _))
  clear b1 HC
  go_wp2_with fail
  have HB3 := Lib.hid (then_ HB2.out (below_one W2 (.cells #[.slice p L.length cp, .slice (some ⟨g, 0, none⟩) 4 4] 23)))
  have HQ := Lib.hid ((bs_blk HK2.out [a, b, c, d] 4 rfl (by intro i hi; match i, hi with | 0, _ => rfl | 1, _ => rfl | 2, _ => rfl | 3, _ => rfl)).below (below_one W2 (.cells #[.slice p L.length cp, .slice (some ⟨g, 0, none⟩) 4 4] 23)))
  have HC := Lib.hid (concatB_any W2.heap.size _ _ L [a, b, c, d] _ (Blk.new W2 23 #[.slice p L.length cp, .slice (some ⟨g, 0, none⟩) 4 4]) (HB.out.below HB3.out) HQ.out HL.out)
  refine HC.out.mono ?_; rintro e w4 ⟨vr, rfl, ho, b4⟩
  have HO4 := Lib.hid (ho.base (Below.size HB3.out))
  have HB4 := Lib.hid (then_ HB3.out b4)
  obtain ⟨pr, cr, rfl⟩ := ho.form
  clear ho b4 HC
  go_wp2_with fail
  go_ret
  refine ⟨Value.slice pr (L.length + 4) cr, rfl, ?_, HB4.out⟩
  have h := HO4.out
  rw [List.length_append] at h
  rw [HP.out]
  exact h
/-- What is left of a sum, byte by byte. -/
theorem quo_256 (s k : Nat) : s / 256 ^ k / 256 = s / 256 ^ (k + 1) := by rw [Nat.div_div_eq_div_mul, Nat.pow_succ]
theorem rem_byte (n : Nat) : IntKind.u8.wrap ((n : Int) % 256) = ((UInt8.ofNat n).toNat : Int) := by
  rw [IntKind.wrap_u8', UInt8.toNat_ofNat']
  omega
theorem rem_byte' (n : Nat) : (n : Int) % 256 = ((UInt8.ofNat n).toNat : Int) := by
  rw [UInt8.toNat_ofNat']
  omega
def le4k (s : Nat) (k : Nat) : List UInt8 := (List.range k).map fun i => UInt8.ofNat (s / 256 ^ i)
theorem le4k_snoc (s k : Nat) : le4k s k ++ [UInt8.ofNat (s / 256 ^ k)] = le4k s (k + 1) := by
  unfold le4k; rw [List.range_succ, List.map_append]; rfl
theorem le4k_length (s k : Nat) : (le4k s k).length = k := by unfold le4k; rw [List.length_map, List.length_range]
theorem le4k_four (s : BitVec 32) : le4k s.toNat 4 = le4 s := by
  simp [le4k, le4, List.range_succ]
set_option maxHeartbeats 2000000 in
set_option maxRecDepth 100000 in
theorem rput_any (v : Value) (L : List UInt8) (w : World) (hB : Bs w v L) (hl : L.length ≤ maxIn) : Calls Tryz.prog 65 #[v] w (MadeB (putL L) w) := by
  obtain ⟨i0, ii, iz0, iz1, iz2⟩ := info_parts infoB
  have HC := Lib.hid (rsum_any v L w hB (Nat.le_trans hl (by decide)))
  obtain ⟨p, cp, rfl⟩ := hB.form
  have HS := Lib.hid hB.src
  have HL4 := Lib.hid (le4k_four (sumL L))
  have HP : Hid (putL L = L ++ le4 (sumL L)) := Lib.hid rfl
  unfold u32V at HC
  generalize le4 (sumL L) = F at HL4 HP
  have hs32 : (sumL L).toNat < 4294967296 := (sumL L).isLt
  obtain ⟨s, hs⟩ : ∃ s, (sumL L).toNat = s := ⟨_, rfl⟩
  rw [hs] at hs32
  have HS32 : Hid (∀ j, ((s / 256 ^ j : Nat) : Int) % 4294967296 = ((s / 256 ^ j : Nat) : Int)) := Lib.hid (fun j => by have := Nat.div_le_self s (256 ^ j); generalize s / 256 ^ j = q at *; omega)
  clear hs32
  rw [hs] at HC HL4
  obtain ⟨m, hm⟩ : ∃ m, L.length = m := ⟨_, rfl⟩
  have HM := Lib.hid hm
  have hm7 : m ≤ 140737488351232 := by rw [← hm]; exact hl
  rw [hm] at HC HS ⊢
  have HN := Lib.hid (World.ownsRow_nil w w.heap.size 5 1)
  clear hs hm hB hl
  go_enter Tryz.func65, Tryz.ntmps65
  go_wp2_with fail
  refine HC.out.mono ?_; rintro e w1 ⟨rfl, rfl⟩
  clear HC
  go_wp2_with (at_builtin; refine wpList_append_src rfl _ _ 23 (by rfl) w1.heap.size 5 i0 (.int .u8 0) 1 1 Tryz.underlying23 ii iz0 iz1 iz2 rfl (by decide) _ _ _ (by rfl) HN.out _ m (cellsB L) (by rfl) HS.out m (by simp) (by unfold maxLen; omega) (by omega) (Nat.le_refl _) ?_; intro pA capA w3 hown3 hgrow3; have HO3 := Lib.hid hown3; have HB3 := Lib.hid ((Below.refl w1.heap.size w1).grown hgrow3 (Nat.le_refl _) (fun j hj => (World.ownsRow.lt HN.out j hj).1)); clear hown3 hgrow3)
  go_loopw [4, 3, 5] (fun u r i wr => ∃ (k : Nat) (pU : Option Addr) (cU : Nat), k ≤ 4 ∧ i = .int .i64 k ∧ r = .int .u32 ((s / 256 ^ k : Nat) : Int) ∧ u = .slice pU (m + k) cU ∧ Hid (OwnB wr w1.heap.size (.slice pU (m + k) cU) (L ++ le4k s k)) ∧ Hid (Below w1.heap.size w1 wr)) (fun _ _ i _ => 4 - (intOf i).toNat)
  case atStart => exact ⟨0, pA, capA, by omega, rfl, by simp, rfl, Lib.hid (by have h := HO3.out; have := ownB_app (r := []) (L := L) (by simpa [cellsB] using h) (by rw [HM.out]; simp); simpa [le4k] using this), HB3⟩
  case round =>
    obtain ⟨k, pU, cU, hk, rfl, rfl, rfl, HO, HBel⟩ := hrel
    by_cases hk4 : k < 4
    · have e1 := rem_byte' (s / 256 ^ k)
      have e2 := rem_byte (s / 256 ^ k)
      have e3 : ((s / 256 ^ k : Nat) : Int) / 256 = ((s / 256 ^ (k + 1) : Nat) : Int) := by rw [← quo_256]; rfl
      have HA : Hid ((L ++ le4k s k) ++ [UInt8.ofNat (s / 256 ^ k)] = L ++ le4k s (k + 1)) := Lib.hid (by rw [List.append_assoc, le4k_snoc])
      have HLk : Hid ((L ++ le4k s k).length = m + k) := Lib.hid (by rw [List.length_append, HM.out, le4k_length])
      obtain ⟨q, hq⟩ : ∃ q, s / 256 ^ k = q := ⟨_, rfl⟩
      obtain ⟨q1, hq1⟩ : ∃ q, s / 256 ^ (k + 1) = q := ⟨_, rfl⟩
      rw [hq] at e1 e2 e3 HA ⊢
      rw [hq1] at e3
      have HQ1 := Lib.hid hq1
      obtain ⟨cb, hcb⟩ : ∃ c, UInt8.ofNat q = c := ⟨_, rfl⟩
      rw [hcb] at e1 e2 HA
      clear hq hq1 hcb HO3 HB3
      have hzr := HBel.out.size
      have HZ := Lib.hid hzr
      generalize L ++ le4k s k = M at HA HLk HO
      have HOw : Hid ((wr.alloc (.cells #[byteV cb] 5)).ownsRow w1.heap.size 5 1 (.slice pU (m + k) cU) (m + k) (cellsB M)) := Lib.hid (by have h := HO.out.below (below_one wr (.cells #[byteV cb] 5)); unfold OwnB at h; rwa [HLk.out] at h)
      have HBa := Lib.hid (then_ HBel.out (below_one wr (.cells #[byteV cb] 5)))
      go_wp2_with (at_builtin; refine wpList_append_src rfl _ _ 23 (by rfl) w1.heap.size 5 i0 (.int .u8 0) 1 1 Tryz.underlying23 ii iz0 iz1 iz2 rfl (by decide) _ _ _ (by rfl) HOw.out _ 1 (cellsB [cb]) (by rfl) (src_b rfl cb _ rfl) (m + (k + 1)) (by omega) (by unfold maxLen; omega) (by omega) HBa.out.size ?_; intro pA capA w3 hown3 hgrow3; have HO3 := Lib.hid hown3; have HB3 := Lib.hid (HBa.out.grown hgrow3 HBa.out.size (fun j hj => (World.ownsRow.lt HOw.out j hj).1)); clear hown3 hgrow3)
      go_roundw
      case rel => exact ⟨k + 1, pA, capA, by omega, by go_num, by rw [← HQ1.out]; first | rfl | rw [HS32.out], rfl, Lib.hid (by rw [← HA.out]; exact ownB_app HO3.out (by rw [HLk.out, List.length_singleton]; omega)), HB3⟩
      case measure => simp [intOf]; omega
    · obtain rfl : k = 4 := by omega
      have HF : Hid (OwnB wr w1.heap.size (.slice pU (m + 4) cU) (L ++ F)) := Lib.hid (by have h := HO.out; rwa [HL4.out] at h)
      go_wp2_with fail
      go_ret
      exact ⟨_, rfl, by rw [HP.out]; exact HF.out, HBel.out⟩
end Go.Proofs.YtelocbohiddpgaaGreatDoor.Crc
