/- The contract of the reader's next: what stands ahead of the first end that is not between marks. -/
import Derived.Test.YtgjniopcaahgfaaGreatDoorMf
set_option linter.unusedSimpArgs false
set_option linter.unusedVariables false
namespace Go.Proofs.YtgjniopcaahgfaaGreatDoor
open Go.RowKit
attribute [local go_sem ↓] Go.wp_at_zero Go.wp_at_succ

/-- What next's loop keeps at place i. -/
def NInv (e : UInt8) (l : List UInt8) (i : Nat) (q : Bool) : Prop := nextF e false l = (l.take i ++ (nextF e q (l.drop i)).1, (nextF e q (l.drop i)).2)
section
variable {e : UInt8} {s : ByteArray} {i : Nat} {q : Bool}
theorem take_at (h : i < s.size) : s.data.toList.take (i + 1) = s.data.toList.take i ++ [s[i]] := by
  rw [List.take_succ_eq_append_getElem (by simpa using h)]; rfl
theorem drop_at (h : i < s.size) : s.data.toList.drop i = s[i] :: s.data.toList.drop (i + 1) := by
  rw [List.drop_eq_getElem_cons (by simpa using h)]; rfl
theorem ninv_mark (h : i < s.size) (hI : NInv e s.data.toList i q) (hc : s[i].toNat = 34) : NInv e s.data.toList (i + 1) (!q) := by
  have hc' : s[i] = 34 := UInt8.toNat_inj.1 hc
  unfold NInv at *
  rw [hI, drop_at h, hc', nextF_mark, take_at h, hc']; simp
theorem ninv_go (h : i < s.size) (hI : NInv e s.data.toList i q) (h1 : ¬ s[i].toNat = 34) (h2 : ¬ (s[i].toNat = 92 ∧ q = true)) (h3 : ¬ (s[i].toNat = e.toNat ∧ q = false)) : NInv e s.data.toList (i + 1) q := by
  unfold NInv at *
  rw [hI, drop_at h, nextF_go e _ q _ (fun x => h1 (by rw [x]; rfl)) (fun x => h2 ⟨by rw [x.1]; rfl, x.2⟩) (fun x => h3 ⟨by rw [x.1], x.2⟩), take_at h]; simp
theorem ninv_esc (h : i < s.size) (hI : NInv e s.data.toList i true) (hc : s[i].toNat = 92) : NInv e s.data.toList (i + 2) true := by
  have hc' : s[i] = 92 := UInt8.toNat_inj.1 hc
  unfold NInv at *
  by_cases h2 : i + 1 < s.size
  · rw [hI, drop_at h, hc', drop_at h2, nextF_esc, take_at h2, take_at h, hc']; simp
  · have e1 : s.data.toList.drop (i + 1) = [] := List.drop_eq_nil_of_le (by simp; omega)
    have e2 : s.data.toList.drop (i + 2) = [] := List.drop_eq_nil_of_le (by simp; omega)
    have e3 : s.data.toList.take (i + 2) = s.data.toList.take (i + 1) := by rw [List.take_of_length_le (by simp; omega), List.take_of_length_le (by simp; omega)]
    rw [hI, drop_at h, hc', e1, e2, nextF_esc0, nextF_nil, e3, take_at h, hc']; simp
theorem ninv_hit (h : i < s.size) (hI : NInv e s.data.toList i false) (h1 : ¬ s[i].toNat = 34) (hc : s[i].toNat = e.toNat) : nextF e false s.data.toList = (s.data.toList.take i, s.data.toList.drop (i + 1)) := by
  have hc' : s[i] = e := UInt8.toNat_inj.1 hc
  unfold NInv at hI
  rw [hI, drop_at h, hc', next_end e _ (fun x => h1 (by rw [hc, x]; rfl))]; simp
theorem ninv_end (h : ¬ i < s.size) (hI : NInv e s.data.toList i q) : nextF e false s.data.toList = (s.data.toList, []) := by
  unfold NInv at hI
  rw [hI, List.drop_eq_nil_of_le (by simp; omega), List.take_of_length_le (by simp; omega), nextF_nil]; simp
end

/-- What a call of next leaves. -/
def Nxt (R : Nat) (e : UInt8) (s : ByteArray) (w : World) (en : Ending) (w' : World) : Prop :=
  en = .returned (.string ⟨(nextF e false s.data.toList).1.toArray⟩) ∧ w' = w.setCell ⟨R, 0, none⟩ (.string ⟨(nextF e false s.data.toList).2.toArray⟩)

set_option maxHeartbeats 4000000 in
set_option maxRecDepth 20000 in
theorem next_any (R : Nat) (e : UInt8) (s : ByteArray) (w : World) (hB : Box w R 65 (.string s)) (hs : s.size ≤ 140737488351232) :
    Calls Tryz.prog 32 #[.pointer (some ⟨R, 0, none⟩), bval e] w (Nxt R e s w) := by
  have hcB := hB.cell
  have hfB := hB.free
  clear hB
  go_enter Tryz.func32, Tryz.ntmps32
  go_wp2
  go_loopw [5, 6] (fun qv iv wr => ∃ (i : Nat) (q : Bool), iv = .int .i64 i ∧ qv = .bool q ∧ i ≤ s.size + 1 ∧ NInv e s.data.toList i q ∧ wr = w) (fun _ iv _ => s.size + 1 - (intOf iv).toNat)
  case atStart => exact ⟨0, false, rfl, rfl, by omega, by simp [NInv], rfl⟩
  case round =>
    obtain ⟨i, q, rfl, rfl, hi, hI, rfl⟩ := hrel
    have HI := Lib.hid hI
    clear hI
    by_cases hlt : i < s.size
    · have hlt' : (i : Int) < (s.size : Int) := by omega
      by_cases h34 : s[i].toNat = 34
      · have e1 : ((s[i].toNat : Int) == 34) = true := by rw [beq_iff_eq]; omega
        have HN := Lib.hid (ninv_mark hlt HI.out h34)
        clear h34
        go_wp2_with fail
        go_roundw
        case rel => exact ⟨i + 1, !q, by simp, rfl, by omega, HN.out, trivial⟩
        case measure => simp [intOf]; omega
      · have e1 : ((s[i].toNat : Int) == 34) = false := by rw [beq_eq_false_iff_ne]; omega
        have H34 := Lib.hid h34
        clear h34
        cases q with
        | true =>
          by_cases h92 : s[i].toNat = 92
          · have e2 : ((s[i].toNat : Int) == 92) = true := by rw [beq_iff_eq]; omega
            have HN := Lib.hid (ninv_esc hlt HI.out h92)
            clear h92
            go_wp2_with fail
            go_roundw
            case rel => exact ⟨i + 2, true, by simp; omega, rfl, by omega, HN.out, trivial⟩
            case measure => simp [intOf]; omega
          · have e2 : ((s[i].toNat : Int) == 92) = false := by rw [beq_eq_false_iff_ne]; omega
            have HN := Lib.hid (ninv_go hlt HI.out H34.out (fun h => h92 h.1) (fun h => by simp at h))
            clear h92
            cases e3 : ((s[i].toNat : Int) == (e.toNat : Int)) with
            | true =>
              go_wp2_with fail
              go_roundw
              case rel => exact ⟨i + 1, true, by simp, rfl, by omega, HN.out, trivial⟩
              case measure => simp [intOf]; omega
            | false =>
              go_wp2_with fail
              go_roundw
              case rel => exact ⟨i + 1, true, by simp, rfl, by omega, HN.out, trivial⟩
              case measure => simp [intOf]; omega
        | false =>
          by_cases hhit : s[i].toNat = e.toNat
          · have HN := Lib.hid (ninv_hit hlt HI.out H34.out hhit)
            have e3 : ((s[i].toNat : Int) == (e.toNat : Int)) = true := by rw [beq_iff_eq]; omega
            clear hhit
            have x1 : (⟨(s.data.toList.take i).toArray⟩ : ByteArray) = s.extract 0 i := bytes_eq (by simp [ByteArray.data_extract])
            have x2 : (⟨(s.data.toList.drop (i + 1)).toArray⟩ : ByteArray) = s.extract (i + 1) s.size := bytes_eq (by simp [ByteArray.data_extract]; rw [List.take_of_length_le (by simp)])
            have HX := Lib.hid (And.intro x1 x2)
            clear x1 x2
            cases e2 : ((s[i].toNat : Int) == 92) with
            | true =>
              go_wp2_with fail
              go_ret
              exact ⟨by rw [HN.out, HX.out.1]; rfl, by rw [HN.out, HX.out.2]⟩
            | false =>
              go_wp2_with fail
              go_ret
              exact ⟨by rw [HN.out, HX.out.1]; rfl, by rw [HN.out, HX.out.2]⟩
          · have HN := Lib.hid (ninv_go hlt HI.out H34.out (fun h => by simp at h) (fun h => hhit h.1))
            have e3 : ((s[i].toNat : Int) == (e.toNat : Int)) = false := by rw [beq_eq_false_iff_ne]; omega
            clear hhit
            cases e2 : ((s[i].toNat : Int) == 92) with
            | true =>
              go_wp2_with fail
              go_roundw
              case rel => exact ⟨i + 1, false, by simp, rfl, by omega, HN.out, trivial⟩
              case measure => simp [intOf]; omega
            | false =>
              go_wp2_with fail
              go_roundw
              case rel => exact ⟨i + 1, false, by simp, rfl, by omega, HN.out, trivial⟩
              case measure => simp [intOf]; omega
    · have HN := Lib.hid (ninv_end hlt HI.out)
      have e1 : decide ((i : Int) < (s.size : Int)) = false := by simp; omega
      go_wp2_with fail
      go_ret
      exact ⟨by rw [HN.out]; rfl, by rw [HN.out]⟩
end Go.Proofs.YtgjniopcaahgfaaGreatDoor
