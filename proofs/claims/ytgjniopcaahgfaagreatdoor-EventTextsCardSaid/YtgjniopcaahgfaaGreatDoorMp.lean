/- The contract of the statements' helper that makes attributes by turns: names, and numbers. -/
import Derived.Test.YtgjniopcaahgfaaGreatDoorMn
set_option linter.unusedSimpArgs false
set_option linter.unusedVariables false
namespace Go.Proofs.YtgjniopcaahgfaaGreatDoor
open Go.RowKit
attribute [local go_sem ↓] Go.wp_at_zero Go.wp_at_succ

def ofK (ss : List ByteArray) (k : Nat) : List Attr := (List.range k).map fun i => ⟨ss.getD i default, 1, (i : Int), ⟨#[]⟩, false⟩
theorem ofK_succ (ss : List ByteArray) (k : Nat) : ofK ss (k + 1) = ofK ss k ++ [⟨ss.getD k default, 1, (k : Int), ⟨#[]⟩, false⟩] := by
  rw [ofK, List.range_succ, List.map_append]; rfl
theorem ofK_length (ss : List ByteArray) (k : Nat) : (ofK ss k).length = k := by simp [ofK]
/-- Texts one behind the other in memory. -/
def Strs (w : World) (b o : Nat) (ss : List ByteArray) : Prop := ∀ i, i < ss.length → w.cell? ⟨b, o + i, none⟩ = some (.string (ss.getD i default))
theorem index_str (b o n cap k : Nat) (hk : k < n) (W : World) :
    (Instr.indexAt 75 (.slice (some ⟨b, o, none⟩) n cap) (.int .i64 (k : Int))).run Tryz.prog W = .ok (.pointer (some ⟨b, o + k, none⟩)) W := by
  go_simp

set_option maxHeartbeats 4000000 in
set_option maxRecDepth 100000 in
theorem of_any (b o cap : Nat) (ss : List ByteArray) (w : World) (hb : b < w.heap.size) (hC : Strs w b o ss) (hn : ss.length ≤ 1000) :
    Calls Tryz.prog 20 #[.slice (some ⟨b, o, none⟩) ss.length cap] w fun e w' => ∃ v, e = .returned v ∧ Own w' w.heap.size v (ofK ss ss.length) ∧ Below w.heap.size w w' := by
  obtain ⟨i0, ii, iz0, iz1, iz2⟩ := info_parts info34
  have HC := Lib.hid hC
  clear hC
  go_enter Tryz.func20, Tryz.ntmps20
  go_wp2
  go_loopw [3, 4] (fun v i wr => ∃ k : Nat, k ≤ ss.length ∧ i = .int .i64 k ∧ Own wr w.heap.size v (ofK ss k) ∧ Below w.heap.size w wr) (fun _ i _ => ss.length - (intOf i).toNat)
  case atStart => exact ⟨0, Nat.zero_le _, rfl, Own.nil _ _, Below.refl _ _⟩
  case round =>
    obtain ⟨k, hk, rfl, hO, hbel⟩ := hrel
    by_cases hkl : k < ss.length
    · have hidx := index_str b o ss.length cap k hkl
      have hc0 : wr.cell? ⟨b, o + k, none⟩ = some (.string (ss.getD k default)) := by rw [hbel.cell (p := ⟨b, o + k, none⟩) hb]; exact HC.out k hkl
      have HO := Lib.hid hO
      have HBel := Lib.hid hbel
      have HL := Lib.hid (ofK_length ss k)
      have hbase := hbel.size
      have hb2 : b < wr.heap.size := by omega
      obtain ⟨nm, hnm⟩ : ∃ nm, ss.getD k default = nm := ⟨_, rfl⟩
      rw [hnm] at hc0
      have HNm := Lib.hid hnm
      clear hnm hO hbel
      go_wp2_with fail
      go_region_law (first | (refine step_append_lies _ (by rfl) _ _ 22 (by rfl) w.heap.size 43 i0 (.agg #[.string ⟨#[]⟩, .int .i64 0, .int .i64 0, .string ⟨#[]⟩, .bool false]) 5 56 Tryz.underlying22 ii iz0 iz1 iz2 rfl (by decide) _ _ _ (by rfl) (World.ownsRow.alloc HO1.out _) ⟨w1.heap.size, 0, none⟩ 1 1 (encA ⟨nm, 1, (k : Int), ⟨#[]⟩, false⟩) (by rfl) rfl (news5 _ 43 w1.heap.size rfl ⟨nm, 1, (k : Int), ⟨#[]⟩, false⟩) (encA_one _) (by decide) (by unfold maxLen; have := HL.out; omega) (by have := HL.out; omega) (by simp; omega) (w1.heap.size + 1) (by simp) ?_; intro g cap2 w2 hown2 hgrow2 _ _) | (go_simp; go_at_call 19; refine (number_any (k : Int) _).mono ?_; rintro e w1 ⟨rfl, hb1⟩; have HO1 := Lib.hid ((HO.out.below ((Below.refl _ wr).drew)).below hb1); have HB1 := Lib.hid (then_ (HBel.out.drew) hb1); have hz1 : wr.heap.size ≤ w1.heap.size := hb1.size; have hc1 : w1.cell? ⟨b, o + k, none⟩ = some (.string nm) := (hb1.cell (p := ⟨b, o + k, none⟩) hb2).trans hc0; try go_wp2_with fail))
      all_goals go_wp2_with fail
      all_goals
        refine ⟨⟨k + 1, by omega, by simp, ?_, ?_⟩, by simp [intOf]; omega⟩
        · rw [ofK_succ, HNm.out]
          unfold Own
          rw [cellsA_append, List.length_append]
          exact hown2
        · exact (HB1.out.alloc HB1.out.size _).grown hgrow2 (by have := hbase; simp; omega) (fun j hj => (World.ownsRow.lt HO1.out j hj).1)
    · have hke : k = ss.length := by omega
      subst hke
      go_wp2_with fail
      go_ret
      exact ⟨_, rfl, hO, hbel⟩
end Go.Proofs.YtgjniopcaahgfaaGreatDoor
