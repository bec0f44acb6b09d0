/- Layer 8: pneumaticref08.Same of two rows of numbers. -/
import Derived.Test.YtaplgoachembdaaGreatHc
set_option linter.unusedSimpArgs false
set_option linter.unusedVariables false
namespace Go.Proofs.YtaplgoachembdaaGreat.Gm
open Go Go.RowKit
attribute [local go_sem ↓] Go.wp_at_zero Go.wp_at_succ

def encN (x : Int) : List Value := [.int .i64 x]
theorem num_at {w : World} {v : Value} {l : List Int} (h : RowIn encN 1 w v l) {i : Nat} (hi : i < l.length) : ∃ p cap b o, v = .slice p l.length cap ∧ p = some ⟨b, o, none⟩ ∧ b < w.heap.size ∧ w.cell? ⟨b, o + i, none⟩ = some (.int .i64 (l.getD i default)) := by
  obtain ⟨p, cap, b, o, h1, _, h3, _, h5⟩ := h
  have hl : l ≠ [] := by rintro rfl; simp at hi
  exact ⟨p, cap, b, o, h1, (h3 hl).1, (h3 hl).2, by simpa using h5 i hi 0 _ rfl⟩
theorem idx_n (p : Option Addr) (b o n cap k : Nat) (hp : p = some ⟨b, o, none⟩) (hk : k < n) (W : World) : (Instr.indexAt 49 (.slice p n cap) (.int .i64 (k : Int))).run Tryz.prog W = .ok (.pointer (some ⟨b, o + k, none⟩)) W := by subst hp; go_simp
theorem take_step {a b : List Int} {k : Nat} (ha : k < a.length) (hb : k < b.length) (h : a.take k = b.take k) :
    (a.getD k default = b.getD k default → a.take (k + 1) = b.take (k + 1)) ∧ (a.getD k default ≠ b.getD k default → decide (a = b) = false) := by
  constructor
  · intro he
    rw [List.take_succ_eq_append_getElem ha, List.take_succ_eq_append_getElem hb, h]
    simp only [List.getD_eq_getElem?_getD, List.getElem?_eq_getElem ha, List.getElem?_eq_getElem hb, Option.getD_some] at he
    rw [he]
  · intro hne
    simp only [decide_eq_false_iff_not]
    rintro rfl; exact hne rfl
set_option maxHeartbeats 2000000 in
set_option maxRecDepth 20000 in
theorem same_nums (va vb : Value) (a b : List Int) (w : World) (hA : RowIn encN 1 w va a) (hB : RowIn encN 1 w vb b) (hla : a.length < 1099511627776) :
    Calls Tryz.prog 13 #[va, vb] w (Gives (.bool (decide (a = b))) w) := by
  obtain ⟨pa, capa, rfl⟩ := hA.form
  obtain ⟨pb, capb, rfl⟩ := hB.form
  have HA := Lib.hid hA
  have HB := Lib.hid hB
  clear hA hB
  go_enter Tryz.func13, Tryz.ntmps13
  by_cases hl : a.length = b.length
  · have HL := Lib.hid hl
    have hli : ((a.length : Int) = (b.length : Int)) = True := by rw [hl]; simp
    go_wp2_with fail
    clear hl hli
    go_loopw [5] (fun i wr => ∃ k : Nat, k ≤ a.length ∧ i = .int .i64 k ∧ a.take k = b.take k ∧ Below w.heap.size w wr) (fun i _ => a.length - (intOf i).toNat)
    case atStart => exact ⟨0, Nat.zero_le _, rfl, rfl, Below.refl _ _⟩
    case round =>
      obtain ⟨k, hk, rfl, htk, hbel⟩ := hrel
      have HT := Lib.hid htk
      have HBel := Lib.hid hbel
      clear htk hbel
      by_cases hkl : k < a.length
      · obtain ⟨p1, cap1, ba, oa, hv, hp, hb1, c1⟩ := num_at (HA.out.later HBel.out) hkl
        simp only [Value.slice.injEq] at hv
        obtain ⟨rfl, _, rfl⟩ := hv
        have hkb : k < b.length := by have := HL.out; omega
        obtain ⟨p2, cap2, bb, ob, hv, hp2, hb2, c2⟩ := num_at (HB.out.later HBel.out) hkb
        simp only [Value.slice.injEq] at hv
        obtain ⟨rfl, _, rfl⟩ := hv
        have hidx1 := idx_n pa ba oa a.length capa k hp hkl
        have hidx2 := idx_n pb bb ob b.length capb k hp2 hkb
        have HS := Lib.hid (take_step hkl hkb HT.out)
        obtain ⟨x, hx⟩ : ∃ x, a.getD k default = x := ⟨_, rfl⟩
        obtain ⟨y, hy⟩ : ∃ y, b.getD k default = y := ⟨_, rfl⟩
        rw [hx] at c1 HS
        rw [hy] at c2 HS
        clear hx hy hp hp2
        go_wp2_with fail
        go_region
        by_cases hxy : x = y
        · have HE := Lib.hid (HS.out.1 hxy)
          go_wp2_with fail
          go_roundw
          case rel => exact ⟨k + 1, by omega, by simp, HE.out, HBel.out.drew⟩
          case measure => simp [intOf]; omega
        · have HE := Lib.hid (HS.out.2 hxy)
          go_wp2_with fail
          go_ret
          exact ⟨ret_bool (by rw [HE.out]), HBel.out.drew⟩
      · have HE : Hid (decide (a = b) = true) := Lib.hid (by
          have h1 : k = a.length := by omega
          have h2 := HT.out
          have h3 := HL.out
          rw [List.take_of_length_le (by omega), List.take_of_length_le (by omega)] at h2
          simpa using h2)
        go_wp2_with fail
        go_ret
        exact ⟨ret_bool (by rw [HE.out]), HBel.out⟩
  · have HN : Hid (decide (a = b) = false) := Lib.hid (by simp; rintro rfl; exact hl rfl)
    have hli : ¬ ((a.length : Int) = (b.length : Int)) := by omega
    go_wp2_with fail
    go_ret
    exact ⟨ret_bool (by rw [HN.out]), Below.refl _ _⟩
end Go.Proofs.YtaplgoachembdaaGreat.Gm
