/- Layer 10: slices.IndexFunc and slices.DeleteFunc of names, whose question is asked of the row's own names alone. -/
import Derived.Test.YtnhdnmlclnndoaaDku
import Derived.Lib.SliceRun
import Derived.Lib.SmallJoins
set_option linter.unusedSimpArgs false
set_option linter.unusedVariables false
namespace Go.Proofs.Ytnhdnmlclnndoaa.Gm
open Go Go.RowKit Go.Maps
attribute [local go_sem ↓] Go.wp_at_zero Go.wp_at_succ
variable {B : Nat}
abbrev Nm := List UInt8
abbrev quest (bd : Nat) : Value := .func (.func 81) #[] #[.pointer (some ⟨bd, 0, none⟩)]
/-- The question has an answer for each of the row's names, whatever has been made since. -/
def Asked (bd T : Nat) (p : Nm → Bool) (L : List Nm) (w : World) : Prop := T ≤ w.heap.size ∧ ∀ W, Below T w W → ∀ n ∈ L, Calls Try.prog 81 #[encStr n, .pointer (some ⟨bd, 0, none⟩)] W (Gives (.bool (p n)) W)
theorem below_less {T T' : Nat} {a b : World} (h : Below T' a b) (hT : T ≤ T') : Below T a b := ⟨h.os, h.tape, h.output, h.size, fun k hk => h.block k (by omega)⟩
theorem below_then {T : Nat} {a b c : World} (h : Below T a b) (k : Below T b c) : Below T a c := ⟨k.os.trans h.os, k.tape.trans h.tape, k.output.trans h.output, Nat.le_trans h.size k.size, fun i hi => (k.block i hi).trans (h.block i hi)⟩
theorem Asked.later {bd T : Nat} {p : Nm → Bool} {L : List Nm} {w W : World} (h : Asked bd T p L w) (hb : Below T w W) : Asked bd T p L W := ⟨Nat.le_trans h.1 hb.size, fun V hV n hn => h.2 V (below_then hb hV) n hn⟩
theorem idx_s (g n cap k : Nat) (hk : k < n) (W : World) : (Instr.indexAt 47 (.slice (some ⟨g, 0, none⟩) n cap) (.int .i64 (k : Int))).run Try.prog W = .ok (.pointer (some ⟨g, k, none⟩)) W := by go_simp
def firstOf (p : Nm → Bool) (L : List Nm) : Nat := L.findIdx p
def firstI (p : Nm → Bool) (L : List Nm) : Int := if firstOf p L < L.length then (firstOf p L : Int) else -1
theorem getD_at {L : List Nm} {k : Nat} (hk : k < L.length) : L.getD k [] = L[k] := by simp [List.getD_eq_getElem?_getD, List.getElem?_eq_getElem hk]
theorem getD_mem {L : List Nm} {k : Nat} (hk : k < L.length) : L.getD k [] ∈ L := by rw [getD_at hk]; exact List.getElem_mem hk
theorem own_s {w : World} {v : Value} {L : List Nm} (h : OwnS w B v L) : ∃ p c, v = .slice p L.length c := by
  rcases h.2 with ⟨e, h0⟩ | ⟨g, cap, cur, e, _⟩
  · exact ⟨none, 0, by rw [e]; simp at h0; simp [h0]⟩
  · exact ⟨_, _, e⟩
theorem own_s_later {w w' : World} {v : Value} {L : List Nm} (h : OwnS w B v L) (hb : Below w.heap.size w w') : OwnS w' B v L := by
  refine ⟨h.1, ?_⟩
  rcases h.2 with h0 | ⟨gb, cap, cur, hv, h1, hh, r⟩
  · exact .inl h0
  · exact .inr ⟨gb, cap, cur, hv, h1, (hb.block gb (lt_of_block hh)).trans hh, r⟩
set_option maxHeartbeats 4000000 in
set_option maxRecDepth 100000 in
theorem index_s (bd T : Nat) (p : Nm → Bool) (v : Value) (L : List Nm) (w : World) (hA : Asked bd T p L w) (ho : OwnS w B v L) (hlen : L.length ≤ 1000000) :
    Calls Try.prog 86 #[v, quest bd] w (Gives (.int .i64 (firstI p L)) w) := by
  by_cases h00 : L.length = 0
  · have hv : ∃ a c, v = .slice a 0 c := by obtain ⟨a, c, e⟩ := own_s ho; exact ⟨a, c, by rw [e, h00]⟩
    obtain ⟨a, c, rfl⟩ := hv
    have HE : Hid (firstI p L = -1) := Lib.hid (by unfold firstI; rw [if_neg (by omega)])
    clear hA ho hlen h00
    go_enter Try.func86, Try.ntmps86
    go_wp2_with fail
    go_loopw [8] (fun i wr => i = .int .i64 0 ∧ Hid (Below w.heap.size w wr)) (fun i _ => 0)
    case atStart => exact ⟨rfl, Lib.hid (Below.refl _ _)⟩
    case round =>
      obtain ⟨rfl, HB⟩ := hrel
      go_wp2_with fail
      go_ret
      exact ⟨by rw [HE.out]; rfl, HB.out⟩
  · obtain ⟨a, c, rfl⟩ := own_s ho
    have hfm := World.ownsRow.form ho (by omega)
    obtain ⟨g, cap, hsl⟩ : ∃ g cap, (Value.slice a L.length c) = .slice (some ⟨g, 0, none⟩) L.length cap := by
      rcases ho.2 with ⟨e, h0⟩ | ⟨g, cap, cur, e, _⟩
      · exact absurd h0 h00
      · exact ⟨g, cap, e⟩
    simp only [Value.slice.injEq, true_and] at hsl
    obtain ⟨rfl, rfl⟩ := hsl
    clear hfm
    have hcell : ∀ k, k < L.length → w.cell? ⟨g, k, none⟩ = some (.string ⟨(L.getD k []).toArray⟩) := fun k hk => by
      rw [World.ownsRow.cellAt ho k (by omega), List.getElem?_map, getD_at hk, List.getElem?_eq_getElem hk]; rfl
    have hgl : g < w.heap.size := (World.ownsRow.lt ho g rfl).2
    have HC := Lib.hid hcell
    have HL := Lib.hid hgl
    have HA := Lib.hid hA
    clear ho hcell hgl hA h00
    go_enter Try.func86, Try.ntmps86
    go_wp2_with fail
    go_loopw [8] (fun i wr => ∃ k : Nat, k ≤ L.length ∧ i = .int .i64 k ∧ Hid (∀ j, j < k → p (L.getD j []) = false) ∧ Hid (Below w.heap.size w wr)) (fun i _ => L.length - (intOf i).toNat)
    case atStart => exact ⟨0, Nat.zero_le _, rfl, Lib.hid (fun j hj => absurd hj (Nat.not_lt_zero j)), Lib.hid (Below.refl _ _)⟩
    case round =>
      obtain ⟨k, hk, rfl, HN, HB⟩ := hrel
      by_cases hkl : k < L.length
      · have e0 := cell_later HB.out (HC.out k hkl)
        have hidx := idx_s g L.length c k hkl
        have HF := Lib.hid ((HA.out.later (below_less HB.out HA.out.1)).2 wr (Below.refl _ _) (L.getD k []) (getD_mem hkl))
        unfold encStr at HF
        have HFI : Hid ((∀ j, j < k → p (L.getD j []) = false) → p (L.getD k []) = true → firstOf p L = k) := Lib.hid (fun hn hy => by
          unfold firstOf
          rw [List.findIdx_eq hkl]
          refine ⟨by rw [← getD_at hkl]; exact hy, fun j hj => ?_⟩
          rw [← getD_at (by omega)]
          exact hn j hj)
        have HKL := Lib.hid hkl
        obtain ⟨q, hq⟩ : ∃ q, L.getD k [] = q := ⟨_, rfl⟩
        rw [hq] at e0 HF HFI
        have HQ := Lib.hid hq
        clear hq
        cases hd : p q with
        | true =>
          rw [hd] at HF
          have HE := Lib.hid (HFI.out HN.out hd)
          clear hd
          go_wp2_with fail
          refine HF.out.mono ?_; rintro e w2 ⟨rfl, b2⟩
          have HB2 := Lib.hid (then_ HB.out b2)
          clear b2
          go_wp2_with fail
          go_ret
          exact ⟨by unfold firstI; rw [HE.out, if_pos HKL.out]; rfl, HB2.out⟩
        | false =>
          rw [hd] at HF
          have HN2 : Hid (∀ j, j < k + 1 → p (L.getD j []) = false) := Lib.hid (fun j hj => by
            by_cases e : j = k
            · rw [e, HQ.out]; exact hd
            · exact HN.out j (by omega))
          clear hd
          go_wp2_with fail
          refine HF.out.mono ?_; rintro e w2 ⟨rfl, b2⟩
          have HB2 := Lib.hid (then_ HB.out b2)
          clear b2
          go_wp2_with fail
          go_roundw
          case rel => exact ⟨k + 1, by omega, by go_num, HN2, HB2⟩
          case measure => simp [intOf]; omega
      · have hke : k = L.length := by omega
        have HE : Hid (firstOf p L = L.length) := Lib.hid (by
          unfold firstOf
          rw [List.findIdx_eq_length]
          intro x hx
          obtain ⟨j, hj, rfl⟩ := List.getElem_of_mem hx
          have := HN.out j (by omega)
          rw [getD_at hj] at this
          simpa using this)
        subst hke
        go_wp2_with fail
        go_ret
        exact ⟨by unfold firstI; rw [HE.out, if_neg (by omega)]; rfl, HB.out⟩
end Go.Proofs.Ytnhdnmlclnndoaa.Gm
