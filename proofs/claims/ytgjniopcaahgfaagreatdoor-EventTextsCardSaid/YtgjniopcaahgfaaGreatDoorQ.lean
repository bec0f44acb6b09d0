/- The contract of package value's quote: a text's bytes between two marks. -/
import Derived.Test.YtgjniopcaahgfaaGreatDoorW
import Derived.Laws.IdiomStrings
import Derived.Lib.BufferRead
import Derived.Lib.Hide
set_option linter.unusedSimpArgs false
set_option linter.unusedVariables false
namespace Go.Proofs.YtgjniopcaahgfaaGreatDoor
open Go.RowKit

/-- A row of bytes that the call owns, turned into a string. -/
theorem conv_owned {w : World} {base n : Nat} {v : Value} {l : List UInt8} (h : w.ownsRow base 5 1 v n (l.map bval)) : (convert 62 9 v).run Tryz.prog w = .ok (.string ⟨l.toArray⟩) w := by
  have hlen : l.length = n := by have := h.1; simpa using this
  rcases h.2 with ⟨rfl, h0⟩ | ⟨g, cap, cur, rfl, _, _, _, _, _, _⟩
  · have : l = [] := List.eq_nil_of_length_eq_zero (by omega)
    subst this
    exact Lib.run_convert_nil_bytes w 62 9 5 0 Tryz.underlying62 Tryz.underlying5 Tryz.underlying9
  · subst hlen
    refine run_convert_bytes_back w 62 9 5 ⟨g, 0, none⟩ cap l Tryz.underlying62 Tryz.underlying5 Tryz.underlying9 (fun j hj => h.cells (g := g) rfl j _ ?_)
    simp [List.getElem?_eq_getElem hj]

/-- What quote's loop keeps: its box holds a row of the call's own with the bytes l; nothing that was there has changed. -/
def QInv (w : World) (l : List UInt8) (wr : World) : Prop := ∃ v, Box wr (w.heap.size + 1) 62 v ∧ wr.ownsRow w.heap.size 5 1 v l.length (l.map bval) ∧ Below w.heap.size w wr

theorem escAll_take (s : ByteArray) (k : Nat) (h : k < s.size) : escAll (s.data.toList.take (k + 1)) = escAll (s.data.toList.take k) ++ escB s[k] := by
  rw [List.take_succ_eq_append_getElem (by simpa using h)]
  unfold escAll
  rw [List.flatMap_append]
  simp
  rfl

set_option maxHeartbeats 400000 in
set_option maxRecDepth 20000 in
theorem quote_any (s : ByteArray) (w : World) (hs : s.size ≤ 4398046511104) :
    Calls Tryz.prog 26 #[.string s] w (Gives (.string ⟨(34 :: (escAll s.data.toList ++ [34])).toArray⟩) w) := by
  obtain ⟨i0, hi, hz0, hz1, hz2⟩ := info_parts info5
  have hmf : ∀ (fn : Fn) (first cap : Array Value) (w : World), (Instr.makeFunc fn first cap).run Tryz.prog w = .ok (.func fn first cap) w := fun _ _ _ _ => rfl
  go_enter Tryz.func26, Tryz.ntmps26
  go_wp2
  go_loopw [10] (fun i wr => ∃ k : Nat, k ≤ s.size ∧ i = .int .i64 k ∧ QInv w (34 :: escAll (s.data.toList.take k)) wr) (fun i _ => s.size - (intOf i).toNat)
  case atStart =>
    refine ⟨0, Nat.zero_le _, rfl, .slice (some ⟨w.heap.size, 0, none⟩) 1 1, ?_, ?_, ?_⟩
    · have := Box.new (w.alloc (.cells #[.int .u8 34] 5)) 62 (.slice (some ⟨w.heap.size, 0, none⟩) 1 1)
      simpa using this
    · have h1 : (w.alloc (.cells #[.int .u8 34] 5)).ownsRow w.heap.size 5 1 (.slice (some ⟨w.heap.size, 0, none⟩) 1 1) 1 [.int .u8 34] :=
        ⟨rfl, .inr ⟨w.heap.size, 1, #[.int .u8 34], rfl, Nat.le_refl _, heap_alloc_new w _, Nat.le_refl _, by unfold maxLen; decide, rfl, rfl⟩⟩
      exact h1.alloc _
    · exact ((Below.refl _ w).alloc (Nat.le_refl _) _).alloc (by simp) _
  case round =>
    obtain ⟨k, hk, rfl, v, hB, hown, hbel⟩ := hrel
    have hll : (34 :: escAll (s.data.toList.take k)).length ≤ 17592186044500 := by
      have h1 := escAll_length (s.data.toList.take k)
      have h2 : (s.data.toList.take k).length ≤ k := List.length_take_le _ _
      simp only [List.length_cons]; omega
    have hcB := hB.cell
    have hlt := hB.lt
    by_cases hkl : k < s.size
    · have HS := Lib.hid (escAll_take s k hkl)
      go_wp2_with (go_at_call 44; refine (put_any s[k] w.heap.size (w.heap.size + 1) v _ _ wr hB (by omega) hown (by omega)).mono ?_; rintro e w1 ⟨rfl, v1, hB1, hown1, hbel1, hsz1⟩)
      go_roundw
      case rel =>
        refine ⟨k + 1, by omega, by simp, v1, hB1, ?_, hbel.trans hbel1⟩
        rw [HS.out]
        simpa [List.map_append, Nat.add_assoc, Nat.add_comm, Nat.add_left_comm] using hown1
      case measure => simp [intOf]; omega
    · have hke : s.data.toList.take k = s.data.toList := List.take_of_length_le (by simp; omega)
      rw [hke] at hown hll
      clear hke
      go_wp2_with (at_builtin; refine wpList_append_lies _ rfl _ _ 62 rfl w.heap.size 5 i0 (.int .u8 0) 1 1 Tryz.underlying62 hi hz0 hz1 hz2 rfl (by decide) _ _ _ rfl (hown.alloc _) ⟨wr.heap.size, 0, none⟩ 1 1 [bval 34] rfl rfl (news1 _ _) (by intro u hu; simp at hu; subst hu; rfl) (by decide) (by unfold maxLen; omega) (by omega) (by simp; omega) (wr.heap.size + 1) (by simp) ?_; intro g cap w1 hown1 hgrow _ _; have hcv := conv_owned (l := 34 :: (escAll s.data.toList ++ [34])) (by simpa using hown1))
      go_ret
      refine ⟨rfl, (hbel.alloc hbel.size _).grown hgrow (by have := hbel.size; simp; omega) (fun j hj => (hown.lt j hj).1)⟩
end Go.Proofs.YtgjniopcaahgfaaGreatDoor
