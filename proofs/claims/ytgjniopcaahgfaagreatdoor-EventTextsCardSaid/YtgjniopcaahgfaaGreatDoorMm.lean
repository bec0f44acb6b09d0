/- The contract of package event's Make: the walk. -/
import Derived.Test.YtgjniopcaahgfaaGreatDoorMk
set_option linter.unusedSimpArgs false
set_option linter.unusedVariables false
namespace Go.Proofs.YtgjniopcaahgfaaGreatDoor
open Go.RowKit
attribute [local go_sem ↓] Go.wp_at_zero Go.wp_at_succ

/-- What a making leaves: the event of these attributes, by rising names, in memory of the call's own; else no event, and ErrMalformed. -/
def MakeE (key : ByteArray) (l : List Attr) (w : World) (e : Ending) (w' : World) : Prop :=
  Below w.heap.size w w' ∧ ((∃ (l' : List Attr) (sl : Value), l'.Perm l ∧ mayE key l' = true ∧ Fr w' w.heap.size sl l' ∧ e = .returned (.tuple #[.agg #[.string key, sl], .int .i64 0])) ∨
    ((∀ l', l'.Perm l → mayE key l' = false) ∧ e = .returned (.tuple #[.agg #[.string ⟨#[]⟩, .slice none 0 0], .int .i64 30])))
theorem long_no {key : ByteArray} {l : List Attr} (h : 8 < l.length) : ∀ l', l'.Perm l → mayE key l' = false := by
  intro l' hp
  have := hp.length_eq
  simp [mayE]; omega
theorem sorted_no {key : ByteArray} {l l0 : List Attr} (hp : l0.Perm l) (hs : SortN l0) (hm : mayE key l0 = false) : ∀ l', l'.Perm l → mayE key l' = false := by
  intro l' hp'
  cases h : mayE key l' with
  | false => rfl
  | true =>
    have := sort_unique (hp.trans hp'.symm) hs h
    rw [this, h] at hm; exact hm
theorem Fr.other {w : World} {base : Nat} {v : Value} {l : List Attr} {g i : Nat} (h : Fr w base v l) (hg : g < base) (u : Value) : Fr (w.setCell ⟨g, i, none⟩ u) base v l := by
  obtain ⟨p, cap, b, o, h1, h2, h3, h4, h5⟩ := h
  have hblk : ∀ k, k ≠ g → (w.setCell ⟨g, i, none⟩ u).heap[k]? = w.heap[k]? := fun k hk => Below.heap_setCell _ _ _ _ hk
  refine ⟨p, cap, b, o, h1, fun hl => ⟨(h2 hl).1, (h2 hl).2.1, by simpa using (h2 hl).2.2⟩, fun i hi j u hu => ?_, fun j hj => ?_, h5⟩
  · have hl : l ≠ [] := by rintro rfl; simp at hi
    rw [World.cell?_of_block (a := ⟨b, o + i * 5 + j, none⟩) (hblk b (by have := (h2 hl).2.1; omega))]
    exact h3 i hi j u hu
  · have hl : l ≠ [] := by rintro rfl; simp at hj
    rw [World.frozen?_of_block (a := ⟨b, o + j, none⟩) (hblk b (by have := (h2 hl).2.1; omega))]
    exact h4 j hj
theorem room_perm {l l' : List Attr} (h : Room l) (hp : l'.Perm l) : Room l' := fun a ha => h a (hp.subset ha)

set_option maxHeartbeats 4000000 in
set_option maxRecDepth 20000 in
theorem emake_any (key : ByteArray) (v : Value) (l : List Attr) (w : World) (hS : Sl w v l) (hR : Room l) : Calls Tryz.prog 18 #[.string key, v] w (MakeE key l w) := by
  have HR := Lib.hid hR
  clear hR
  by_cases h8 : 8 < l.length
  · have e1 : decide ((8 : Int) < (l.length : Int)) = true := by simp; omega
    have HN := Lib.hid (long_no (key := key) h8)
    obtain ⟨p, cap, b, o, rfl, hp, hC, hbig⟩ := hS
    clear hp hC h8
    go_enter Tryz.func18, Tryz.ntmps18
    go_wp2_with fail
    exact bodyPost_ret (v := .tuple #[.agg #[.string ⟨#[]⟩, .slice none 0 0], .int .i64 30]) (by simp [results, Tryz.results18, go_sem]) rfl ⟨(Below.refl _ _).alloc (Nat.le_refl _) _, .inr ⟨HN.out, rfl⟩⟩
  · have e1 : decide ((8 : Int) < (l.length : Int)) = false := by simp; omega
    have HS := Lib.hid (hS.below ((Below.refl _ w).alloc (Nat.le_refl _) (.cells #[.string ⟨#[]⟩, .slice none 0 0] 24)))
    have hcl := fun W h => clone_any v l W h (by omega)
    have HCl := Lib.hid hcl
    obtain ⟨p, cap, b, o, rfl, hp, hC, hbig⟩ := hS
    clear hp hC hcl
    go_enter Tryz.func18, Tryz.ntmps18
    go_wp2_with fail
    refine (HCl.out _ HS.out).mono ?_; rintro e w1 ⟨v', rfl, hO, hb1⟩
    have hR0 := (Blk.new w 24 #[.string ⟨#[]⟩, .slice none 0 0]).below hb1 (by simp)
    have HB1 := Lib.hid (below_new hb1)
    have hz1 : w.heap.size < w1.heap.size := Nat.lt_of_lt_of_le (by simp) hb1.size
    obtain ⟨p', cap', rfl⟩ := own_form hO
    have HO2 := Lib.hid ((hO.base (base' := w.heap.size + 1) (by simp)).below ((Below.refl _ w1).alloc (Nat.le_refl _) (.cells #[.string key, .slice p' l.length cap'] 24)))
    have HR2 := Lib.hid (hR0.alloc (.cells #[.string key, .slice p' l.length cap'] 24))
    have HG2 := Lib.hid (Blk.new w1 24 #[.string key, .slice p' l.length cap'])
    have HB2 := Lib.hid (HB1.out.alloc HB1.out.size (.cells #[.string key, .slice p' l.length cap'] 24))
    clear hO hb1 hR0
    go_wp2_with fail
    refine (sort_own (w.heap.size + 1) _ l _ HO2.out (by simp; omega) (by omega)).mono ?_; rintro e w3 ⟨rfl, l', hperm, hsort, hfr, hb3, hother⟩
    have hzz : w.heap.size < w1.heap.size + 1 := by omega
    have aG : ∀ i, (⟨w1.heap.size, i, none⟩ : Addr).block = w1.heap.size := fun _ => rfl
    have apG := HG2.out.apart HO2.out (by decide)
    have apR := HR2.out.apart HO2.out (by decide)
    have g0 : w3.cell? ⟨w1.heap.size, 0, none⟩ = some (.string key) := by rw [(hother ⟨w1.heap.size, 0, none⟩ apG (by simp)).1]; exact HG2.out.cell 0 rfl
    have g1 : w3.cell? ⟨w1.heap.size, 1, none⟩ = some (.slice p' l.length cap') := by rw [(hother ⟨w1.heap.size, 1, none⟩ apG (by simp)).1]; exact HG2.out.cell 1 rfl
    have r0 : w3.cell? ⟨w.heap.size, 0, none⟩ = some (.string ⟨#[]⟩) := by rw [(hother ⟨w.heap.size, 0, none⟩ apR (by simpa using hzz)).1]; exact HR2.out.cell 0 rfl
    have r1 : w3.cell? ⟨w.heap.size, 1, none⟩ = some (.slice none 0 0) := by rw [(hother ⟨w.heap.size, 1, none⟩ apR (by simpa using hzz)).1]; exact HR2.out.cell 1 rfl
    have f0 : w3.frozen? ⟨w.heap.size, 0, none⟩ = false := by rw [(hother ⟨w.heap.size, 0, none⟩ apR (by simpa using hzz)).2]; exact HR2.out.free 0
    have f1 : w3.frozen? ⟨w.heap.size, 1, none⟩ = false := by rw [(hother ⟨w.heap.size, 1, none⟩ apR (by simpa using hzz)).2]; exact HR2.out.free 1
    have HB3 := Lib.hid (HB2.out.trans (hb3.mono (by omega)))
    have hz3 : w1.heap.size + 1 ≤ w3.heap.size := by have := hb3.size; simpa using this
    have HFr := Lib.hid hfr
    have HP := Lib.hid hperm
    have HSo := Lib.hid hsort
    have HRp := Lib.hid (room_perm HR.out hperm)
    clear hother hb3 hfr hperm hsort aG apG apR
    have hM := emay_any key (.slice p' l.length cap') l' w3 HFr.out.sl HRp.out
    cases hm : mayE key l' with
    | true =>
      rw [hm] at hM
      have HM := Lib.hid hM
      have HMay := Lib.hid hm
      clear hM hm
      go_wp2_with fail
      refine (HM.out).mono ?_; rintro e w4 ⟨rfl, hb4⟩
      have g0' : w4.cell? ⟨w1.heap.size, 0, none⟩ = some (.string key) := by rw [hb4.cell (p := ⟨w1.heap.size, 0, none⟩) (by show w1.heap.size < _; omega)]; exact g0
      have g1' : w4.cell? ⟨w1.heap.size, 1, none⟩ = some (.slice p' l.length cap') := by rw [hb4.cell (p := ⟨w1.heap.size, 1, none⟩) (by show w1.heap.size < _; omega)]; exact g1
      have r0' : w4.cell? ⟨w.heap.size, 0, none⟩ = some (.string ⟨#[]⟩) := by rw [hb4.cell (p := ⟨w.heap.size, 0, none⟩) (by show w.heap.size < _; omega)]; exact r0
      have r1' : w4.cell? ⟨w.heap.size, 1, none⟩ = some (.slice none 0 0) := by rw [hb4.cell (p := ⟨w.heap.size, 1, none⟩) (by show w.heap.size < _; omega)]; exact r1
      have f0' : w4.frozen? ⟨w.heap.size, 0, none⟩ = false := by rw [hb4.frozen (p := ⟨w.heap.size, 0, none⟩) (by show w.heap.size < _; omega)]; exact f0
      have f1' : w4.frozen? ⟨w.heap.size, 1, none⟩ = false := by rw [hb4.frozen (p := ⟨w.heap.size, 1, none⟩) (by show w.heap.size < _; omega)]; exact f1
      have HB4 := Lib.hid (then_ HB3.out hb4)
      have HFr4 := Lib.hid (HFr.out.below hb4)
      clear g0 g1 r0 r1 f0 f1 hb4
      go_wp2_with fail
      refine bodyPost_ret (v := .tuple #[.agg #[.string key, .slice p' l.length cap'], .int .i64 0]) (by simp [results, Tryz.results18, go_sem, r0', r1']) rfl ⟨?_, .inl ⟨l', .slice p' l.length cap', HP.out, HMay.out, ?_, rfl⟩⟩
      · exact (HB4.out.setCell (p := ⟨w.heap.size, 0, none⟩) (Nat.le_refl _) _).setCell (p := ⟨w.heap.size, 1, none⟩) (Nat.le_refl _) _
      · exact ((HFr4.out.other (Nat.lt_succ_self _) _).other (Nat.lt_succ_self _) _).base (Nat.le_succ _)
    | false =>
      rw [hm] at hM
      have HM := Lib.hid hM
      have HNo := Lib.hid (sorted_no HP.out HSo.out hm)
      clear hM hm
      go_wp2_with fail
      refine (HM.out).mono ?_; rintro e w4 ⟨rfl, hb4⟩
      have r0' : w4.cell? ⟨w.heap.size, 0, none⟩ = some (.string ⟨#[]⟩) := by rw [hb4.cell (p := ⟨w.heap.size, 0, none⟩) (by show w.heap.size < _; omega)]; exact r0
      have r1' : w4.cell? ⟨w.heap.size, 1, none⟩ = some (.slice none 0 0) := by rw [hb4.cell (p := ⟨w.heap.size, 1, none⟩) (by show w.heap.size < _; omega)]; exact r1
      have f0' : w4.frozen? ⟨w.heap.size, 0, none⟩ = false := by rw [hb4.frozen (p := ⟨w.heap.size, 0, none⟩) (by show w.heap.size < _; omega)]; exact f0
      have f1' : w4.frozen? ⟨w.heap.size, 1, none⟩ = false := by rw [hb4.frozen (p := ⟨w.heap.size, 1, none⟩) (by show w.heap.size < _; omega)]; exact f1
      have HB4 := Lib.hid (then_ HB3.out hb4)
      clear g0 g1 r0 r1 f0 f1 hb4
      go_wp2_with fail
      refine bodyPost_ret (v := .tuple #[.agg #[.string ⟨#[]⟩, .slice none 0 0], .int .i64 30]) (by simp [results, Tryz.results18, go_sem, r0', r1']) rfl ⟨?_, .inr ⟨HNo.out, rfl⟩⟩
      exact (HB4.out.setCell (p := ⟨w.heap.size, 0, none⟩) (Nat.le_refl _) _).setCell (p := ⟨w.heap.size, 1, none⟩) (Nat.le_refl _) _
end Go.Proofs.YtgjniopcaahgfaaGreatDoor
