/- Attributes in memory; the contract of package event's May. -/
import Derived.Test.YtgjniopcaahgfaaGreatDoorMb
import Derived.Test.YtgjniopcaahgfaaGreatDoorF
set_option linter.unusedSimpArgs false
set_option linter.unusedVariables false
namespace Go.Proofs.YtgjniopcaahgfaaGreatDoor
open Go.RowKit
attribute [local go_sem ↓] Go.wp_at_zero Go.wp_at_succ

/-- Attributes lie one behind the other from a place on. -/
def Cells5 (w : World) (b o : Nat) (l : List Attr) : Prop := ∀ i, i < l.length → ∀ j u, (encA (l.getD i default))[j]? = some u → w.cell? ⟨b, o + i * 5 + j, none⟩ = some u
/-- A slice of attributes. -/
def Sl (w : World) (v : Value) (l : List Attr) : Prop :=
  ∃ (p : Option Addr) (cap b o : Nat), v = .slice p l.length cap ∧ (l ≠ [] → p = some ⟨b, o, none⟩ ∧ b < w.heap.size) ∧ Cells5 w b o l ∧ l.length ≤ 140737488355328
theorem Sl.below {w w' : World} {v : Value} {l : List Attr} (h : Sl w v l) (hb : Below w.heap.size w w') : Sl w' v l := by
  obtain ⟨p, cap, b, o, h1, h2, h3, h4⟩ := h
  refine ⟨p, cap, b, o, h1, fun hl => ⟨(h2 hl).1, Nat.lt_of_lt_of_le (h2 hl).2 hb.size⟩, fun i hi j u hu => ?_, h4⟩
  have hl : l ≠ [] := by rintro rfl; simp at hi
  rw [hb.cell (p := ⟨b, o + i * 5 + j, none⟩) (h2 hl).2]
  exact h3 i hi j u hu
/-- What holds of attributes that come in: numbers of 64 bits, names that fit. -/
def Room (l : List Attr) : Prop := ∀ a ∈ l, Fits a.n ∧ a.nm.size ≤ 140737488351232
theorem Room.fits {l : List Attr} (h : Room l) : FitsA l := fun a ha => (h a ha).1
theorem Room.at {l : List Attr} (h : Room l) {i : Nat} (hi : i < l.length) : Fits (l.getD i default).n ∧ (l.getD i default).nm.size ≤ 140737488351232 := by
  rw [List.getD_eq_getElem?_getD, List.getElem?_eq_getElem hi]
  exact h _ (List.getElem_mem hi)

/-- The place of element i. -/
theorem index_attr (p : Option Addr) (b o n cap k : Nat) (hp : p = some ⟨b, o, none⟩) (hk : k < n) (W : World) :
    (Instr.indexAt 22 (.slice p n cap) (.int .i64 (k : Int))).run Tryz.prog W = .ok (.pointer (some ⟨b, o + k * 5, none⟩)) W := by
  subst hp
  go_simp
/-- The five cells of element i. -/
theorem five {w : World} {b o : Nat} {l : List Attr} (h : Cells5 w b o l) {i : Nat} (hi : i < l.length) :
    w.cell? ⟨b, o + i * 5, none⟩ = some (.string (l.getD i default).nm) ∧ w.cell? ⟨b, o + i * 5 + 1, none⟩ = some (.int .i64 (l.getD i default).k) ∧ w.cell? ⟨b, o + i * 5 + 2, none⟩ = some (.int .i64 (l.getD i default).n) ∧
    w.cell? ⟨b, o + i * 5 + 3, none⟩ = some (.string (l.getD i default).s) ∧ w.cell? ⟨b, o + i * 5 + 4, none⟩ = some (.bool (l.getD i default).b) :=
  ⟨h i hi 0 _ rfl, h i hi 1 _ rfl, h i hi 2 _ rfl, h i hi 3 _ rfl, h i hi 4 _ rfl⟩

theorem okUp {l : List Attr} {k : Nat} : (List.range (k + 1)).all (okAt l) = ((List.range k).all (okAt l) && okAt l k) := by
  rw [List.range_succ, List.all_append]; simp
theorem may_false_at {key : ByteArray} {l : List Attr} {k : Nat} (hk : k < l.length) (h : okAt l k = false) : mayE key l = false := by
  have : (List.range l.length).all (okAt l) = false := by
    rw [List.all_eq_false]; exact ⟨k, by simpa using hk, by simp [h]⟩
  simp [mayE, this]

/-- What a call leaves that returns v and writes nothing that was there, said with a Bool. -/
theorem ret_bool {a b : Bool} (h : a = b) : Ending.returned (.bool a) = Ending.returned (.bool b) := by rw [h]

set_option maxHeartbeats 2000000 in
set_option maxRecDepth 20000 in
theorem emay_any (key : ByteArray) (v : Value) (l : List Attr) (w : World) (hS : Sl w v l) (hR : Room l) : Calls Tryz.prog 10 #[.agg #[.string key, v]] w (Gives (.bool (mayE key l)) w) := by
  obtain ⟨p, cap, b, o, rfl, hp, hC, hbig⟩ := hS
  have HR := Lib.hid hR
  have HP := Lib.hid hp
  have HC := Lib.hid hC
  clear hR hp hC
  by_cases hk : 16 < key.size
  · have HM : Hid (mayE key l = false) := Lib.hid (by simp [mayE]; omega)
    have e1 : decide ((16 : Int) < (key.size : Int)) = true := by simp; omega
    go_enter Tryz.func10, Tryz.ntmps10
    go_wp2
    go_ret
    exact ⟨ret_bool HM.out.symm, (Below.refl _ _).alloc (Nat.le_refl _) _⟩
  have e1 : decide ((16 : Int) < (key.size : Int)) = false := by simp; omega
  by_cases hl : 8 < l.length
  · have HM : Hid (mayE key l = false) := Lib.hid (by simp [mayE]; omega)
    have e2 : decide ((8 : Int) < (l.length : Int)) = true := by simp; omega
    go_enter Tryz.func10, Tryz.ntmps10
    go_wp2
    go_ret
    exact ⟨ret_bool HM.out.symm, (Below.refl _ _).alloc (Nat.le_refl _) _⟩
  have e2 : decide ((8 : Int) < (l.length : Int)) = false := by simp; omega
  have HK := Lib.hid hk
  have HL := Lib.hid hl
  clear hk hl
  go_enter Tryz.func10, Tryz.ntmps10
  go_wp2
  go_loopw [18] (fun i wr => ∃ k : Nat, k ≤ l.length ∧ i = .int .i64 k ∧ (List.range k).all (okAt l) = true ∧ Below w.heap.size w wr ∧ w.heap.size < wr.heap.size ∧ wr.cell? ⟨w.heap.size, 1, none⟩ = some (.slice p l.length cap)) (fun i _ => l.length - (intOf i).toNat)
  case atStart => exact ⟨0, Nat.zero_le _, rfl, rfl, (Below.refl _ _).alloc (Nat.le_refl _) _, by simp, by simp⟩
  case round =>
    obtain ⟨k, hk, rfl, hall, hbel, hsz, hc1⟩ := hrel
    have HA := Lib.hid hall
    clear hall
    by_cases hkl : k < l.length
    · have hne : l ≠ [] := by rintro rfl; simp at hkl
      obtain ⟨hp', hb'⟩ := HP.out hne
      have hidx := index_attr p b o l.length cap k hp' hkl
      have HPp := Lib.hid hp'
      clear hp' hne
      obtain ⟨c0, c1, c2, c3, c4⟩ := five HC.out hkl
      have hcl := fun (j : Nat) => hbel.cell (p := ⟨b, j, none⟩) hb'
      have hro := (HR.out).at hkl
      have HT := Lib.hid (okUp (l := l) (k := k))
      have HF := fun h => may_false_at (key := key) hkl h
      have HF2 := Lib.hid HF
      clear HF
      have hok : Hid (okAt l k = (okA (l.getD k default) && (k == 0 || lessN (l.getD (k - 1) default).nm (l.getD k default).nm))) := Lib.hid rfl
      obtain ⟨x, hx⟩ : ∃ x, l.getD k default = x := ⟨_, rfl⟩
      rw [hx] at c0 c1 c2 c3 c4 hro hok
      have HX := Lib.hid hx
      have HRo := Lib.hid hro
      clear hx hro
      cases hn : nameB x.nm with
      | false =>
        go_wp2_with (go_at_call 23; refine (name_any x.nm HRo.out.2 _).mono ?_; rw [hn]; rintro e w1 ⟨rfl, rfl⟩)
        go_ret
        refine ⟨ret_bool (HF2.out ?_).symm, (hbel.alloc hbel.size _)⟩
        rw [hok.out, okA, hn]; rfl
      | true =>
        have M := may_any x.k x.n x.s x.b
        cases hm : mayB x.k x.n x.s x.b with
        | false =>
          rw [hm] at M
          have HM := Lib.hid M
          clear M
          go_wp2_with (first | (go_at_call 23; refine (name_any x.nm HRo.out.2 _).mono ?_; rw [hn]; rintro e w1 ⟨rfl, rfl⟩) | (go_at_call 24; refine (HM.out _).mono ?_; rintro e w2 ⟨rfl, hb2⟩))
          go_ret
          refine ⟨ret_bool (HF2.out ?_).symm, then_ (hbel.alloc hbel.size _) hb2⟩
          rw [hok.out, okA, hn, hm]; rfl
        | true =>
          rw [hm] at M
          have HM := Lib.hid M
          clear M
          have hokk : Hid (okAt l k = (k == 0 || lessN (l.getD (k - 1) default).nm x.nm)) := Lib.hid (by rw [hok.out, okA, hn, hm]; simp)
          go_wp2_with (first | (go_at_call 23; refine (name_any x.nm HRo.out.2 _).mono ?_; rw [hn]; rintro e w1 ⟨rfl, rfl⟩) | (go_at_call 24; refine (HM.out _).mono ?_; rintro e w2 ⟨rfl, hb2⟩))
          have hB2 : Below w.heap.size w w2 := then_ (hbel.alloc hbel.size _) hb2
          have hz2 : wr.heap.size < w2.heap.size := Nat.lt_of_lt_of_le (by simp) hb2.size
          have hd1 : w2.cell? ⟨w.heap.size, 1, none⟩ = some (.slice p l.length cap) := by
            rw [hb2.cell (p := ⟨w.heap.size, 1, none⟩) (by simp; omega), World.cell?_alloc_lt _ _ _ (by simpa using hsz)]; exact hc1
          have hd2 : w2.cell? ⟨wr.heap.size, 0, none⟩ = some (.string x.nm) := by
            rw [hb2.cell (p := ⟨wr.heap.size, 0, none⟩) (by simp)]; simp
          have HB2 := Lib.hid hB2
          clear hb2 hB2
          by_cases hk0 : k = 0
          · subst hk0
            go_quiet (fail)
            go_wp2
            go_roundw
            case rel => exact ⟨1, by omega, by simp, by rw [HT.out, HA.out, hokk.out]; rfl, below_drewN HB2.out _, by simpa using Nat.lt_trans hsz hz2, hd1⟩
            case measure => simp [intOf]; omega
          · have hkm : k - 1 < l.length := by omega
            have hidx2 := index_attr p b o l.length cap (k - 1) HPp.out hkm
            obtain ⟨q0, _, _, _, _⟩ := five HC.out hkm
            have q0' : w2.cell? ⟨b, o + (k - 1) * 5, none⟩ = some (.string (l.getD (k - 1) default).nm) := by
              rw [HB2.out.cell (p := ⟨b, o + (k - 1) * 5, none⟩) hb']; exact q0
            obtain ⟨y, hy⟩ : ∃ y, l.getD (k - 1) default = y := ⟨_, rfl⟩
            rw [hy] at q0' hokk
            have hw : IntKind.i64.wrap ((k : Int) - 1) = ((k - 1 : Nat) : Int) := by rw [IntKind.wrap_i64]; omega
            have hk1 : decide (0 < k) = true := by simp; omega
            have HK0 := Lib.hid hk0
            clear q0 hy hk0 hcl c0 c1 c2 c3 c4
            cases hle : Op.bytesLess y.nm.toList x.nm.toList with
            | true =>
              have hok2 : Hid (okAt l k = true) := Lib.hid (by rw [hokk.out, lessN, hle]; simp)
              go_quiet (fail)
              go_wp2
              go_roundw
              case rel => exact ⟨k + 1, by omega, by simp, by rw [HT.out, HA.out, hok2.out]; rfl, below_drewN HB2.out _, by simpa using Nat.lt_trans hsz hz2, hd1⟩
              case measure => simp [intOf]; omega
            | false =>
              have hok2 : Hid (okAt l k = false) := Lib.hid (by rw [hokk.out, lessN, hle]; simpa using HK0.out)
              go_quiet (fail)
              go_wp2
              go_ret
              exact ⟨ret_bool (HF2.out hok2.out).symm, below_drewN HB2.out _⟩
    · have hke : k = l.length := by omega
      subst hke
      have HM : Hid (mayE key l = true) := Lib.hid (by have h1 := HK.out; have h2 := HL.out; simp only [mayE, HA.out, Bool.and_true, Bool.and_eq_true, decide_eq_true_eq]; omega)
      go_wp2
      go_ret
      exact ⟨ret_bool HM.out.symm, hbel⟩
end Go.Proofs.YtgjniopcaahgfaaGreatDoor
