/- OverlapApart's closure: the constraints of one name, walked. -/
import Derived.Test.YtggcboejdihdiaaOi
set_option linter.unusedSimpArgs false
set_option linter.unusedVariables false
namespace Go.Proofs.Ytggcboejdihdiaa.Gm
open Go Go.RowKit
attribute [local go_sem ↓] Go.wp_at_zero Go.wp_at_succ

theorem only_step {l : List Cn} {n : List UInt8} {k : Nat} (h : k < l.length) : onlyP (l.take (k + 1)) n = onlyP (l.take k) n ++ if ((l.getD k default).nm.data.toList == n) = true then [l.getD k default] else [] := by
  unfold onlyP
  rw [List.take_succ_eq_append_getElem h, List.filter_append]
  have : l.getD k default = l[k] := by simp [List.getD_eq_getElem?_getD, h]
  rw [this]
  congr 1
  cases hv : (l[k].nm.data.toList == n)
  · rw [List.filter_cons, hv]; rfl
  · rw [List.filter_cons, hv]; rfl
theorem only_le (l : List Cn) (n : List UInt8) (k : Nat) : (onlyP (l.take k) n).length ≤ k := Nat.le_trans (List.length_filter_le _ _) (List.length_take_le _ _)
def OwnO (w : World) (base : Nat) (v : Value) (l : List Cn) : Prop := w.ownsRow base 34 7 v l.length (l.flatMap encC)
set_option maxHeartbeats 8000000 in
set_option maxRecDepth 100000 in
theorem only1_any (v : Value) (l : List Cn) (b : Nat) (nm : ByteArray) (w : World) (hA : Cs w v l) (hl : l.length ≤ 6) (hb : Blk w b 9 #[.string nm]) : Calls Try.prog 12 #[v, .pointer (some ⟨b, 0, none⟩)] w fun e w' => ∃ pU cU, e = .returned (.slice pU (onlyP l nm.data.toList).length cU) ∧ Cs w' (.slice pU (onlyP l nm.data.toList).length cU) (onlyP l nm.data.toList) ∧ Below w.heap.size w w' := by
  obtain ⟨i0, ii, iz0, iz1, iz2⟩ := info_parts infoC
  obtain ⟨p0, c0, rfl⟩ := hA.1.form
  have HA := Lib.hid hA
  have HK := Lib.hid hb
  have hbz := hb.lt
  clear hA hb
  go_enter Try.func12, Try.ntmps12
  go_wp2_with fail
  go_loopw [4, 5] (fun u i wr => ∃ (k : Nat), k ≤ l.length ∧ i = .int .i64 k ∧ Hid (OwnO wr w.heap.size u (onlyP (l.take k) nm.data.toList)) ∧ Hid (Below w.heap.size w wr)) (fun _ i _ => l.length - (intOf i).toNat)
  case atStart => exact ⟨0, Nat.zero_le _, rfl, Lib.hid (World.ownsRow_nil _ _ _ _), Lib.hid (Below.refl _ _)⟩
  case round =>
    obtain ⟨k, hk, rfl, HO, HBel⟩ := hrel
    obtain ⟨pU, cU, rfl⟩ := own_shape HO.out
    have HO : Hid (wr.ownsRow w.heap.size 34 7 (.slice pU (onlyP (l.take k) nm.data.toList).length cU) (onlyP (l.take k) nm.data.toList).length ((onlyP (l.take k) nm.data.toList).flatMap encC)) := HO
    by_cases hkl : k < l.length
    · obtain ⟨p1, cap1, g, o, hv, hp, hg, h7⟩ := seven_at (HA.out.later HBel.out).1 hkl
      simp only [Value.slice.injEq] at hv
      obtain ⟨rfl, _, rfl⟩ := hv
      have hidx := idx_c3 p0 g o l.length c0 k hp hkl
      have HSt := Lib.hid (only_step (n := nm.data.toList) hkl)
      have HLe := Lib.hid (only_le l nm.data.toList k)
      obtain ⟨c, hx⟩ : ∃ c, l.getD k default = c := ⟨_, rfl⟩
      rw [hx] at h7 HSt
      obtain ⟨L, hL⟩ : ∃ L, onlyP (l.take k) nm.data.toList = L := ⟨_, rfl⟩
      rw [hL] at HO HSt HLe ⊢
      obtain ⟨m, hm⟩ : ∃ m, L.length = m := ⟨_, rfl⟩
      rw [hm] at HO HLe ⊢
      have HM := Lib.hid hm
      have hm6 := HLe.out
      obtain ⟨q0, q1, q2, q3, q4, q5, q6⟩ := h7
      have kb := (HK.out.later HBel.out).cell 0 (u := .string nm) rfl
      have hz := HBel.out.size
      clear hx hp hg hL hm HLe
      cases hn : c.nm.data.toList == nm.data.toList
      · rw [hn] at HSt
        have hn2 : (c.nm.toList == nm.toList) = false := by rw [toList_data, toList_data]; exact hn
        clear hn
        go_wp2_with fail
        go_quiet (fail)
        have HBd := Lib.hid (bel_drewN (Below.refl wr.heap.size wr) nq)
        obtain ⟨wz, hwz⟩ : ∃ wz, wz = wr.drewN nq := ⟨_, rfl⟩
        rw [← hwz] at HBd ⊢
        have HO2 := Lib.hid (own_later HO.out HBd.out)
        have HB2 := Lib.hid (then_ HBel.out HBd.out)
        clear hwz HBd
        go_wp2_with fail
        go_roundw
        case rel => exact ⟨k + 1, by omega, by simp, Lib.hid (by rw [HSt.out]; unfold OwnO; simp only [Bool.false_eq_true, if_false, List.append_nil, HM.out]; exact HO2.out), HB2⟩
        case measure => simp [intOf]; omega
      · rw [hn] at HSt
        have hn2 : (c.nm.toList == nm.toList) = true := by rw [toList_data, toList_data]; exact hn
        have H7 : Hid (Seven wr g (o + k * 7) c) := Lib.hid ⟨q0, q1, q2, q3, q4, q5, q6⟩
        clear hn
        go_wp2_with fail
        go_quiet (fail)
        have HBd := Lib.hid (bel_drewN (Below.refl wr.heap.size wr) nq)
        obtain ⟨wz, hwz⟩ : ∃ wz, wz = wr.drewN nq := ⟨_, rfl⟩
        rw [← hwz] at HBd ⊢
        have HO2 := Lib.hid (own_later HO.out HBd.out)
        have HB2 := Lib.hid (then_ HBel.out HBd.out)
        obtain ⟨e0, e1, e2, e3, e4, e5, e6⟩ := H7.out.later HBd.out
        have hz2 := HB2.out.size
        clear hwz HBd q0 q1 q2 q3 q4 q5 q6 kb
        have HO3 : Hid ((wz.alloc (.cells (cnc c) 34)).ownsRow w.heap.size 34 7 (.slice pU m cU) m (L.flatMap encC)) := Lib.hid (own_later HO2.out (below_one _ _))
        have HB3 : Hid (Below w.heap.size w (wz.alloc (.cells (cnc c) 34))) := Lib.hid (HB2.out.alloc hz2 _)
        have HS3 : Hid (Src (wz.alloc (.cells (cnc c) 34)) (.slice (some ⟨wz.heap.size, 0, none⟩) 1 1) 1 7 (encC c)) := Lib.hid (.inr ⟨_, 1, rfl, rfl, fun j u hu => by rw [add_lit, Nat.zero_add]; exact (Blk.new wz 34 (cnc c)).cell j (by rw [show cnc c = (encC c).toArray from rfl, List.getElem?_toArray]; exact hu), encC_one c⟩)
        go_wp2_with (at_builtin; refine wpList_append_src rfl _ _ 23 (by rfl) w.heap.size 34 i0 (.agg #[.string ⟨#[]⟩, .int .i64 0, .int .i64 0, .int .i64 0, .string ⟨#[]⟩, .bool false, .slice none 0 0]) 7 88 Try.underlying23 ii iz0 iz1 iz2 rfl (by decide) _ _ _ (by rfl) HO3.out _ 1 (encC c) (by rfl) HS3.out (m + 1) rfl (by unfold maxLen; omega) (by omega) (by simp; omega) ?_; intro pA capA w3 hown3 hgrow3; have HO4 := Lib.hid hown3; have HB4 := Lib.hid (HB3.out.grown hgrow3 (by simp; omega) (fun j hj => (World.ownsRow.lt HO3.out j hj).1)); clear hown3 hgrow3)
        go_roundw
        case rel => exact ⟨k + 1, by omega, by simp, Lib.hid (by rw [HSt.out]; unfold OwnO; simp only [if_true]; rw [List.length_append, HM.out, List.flatMap_append, List.flatMap_singleton]; exact HO4.out), HB4⟩
        case measure => simp [intOf]; omega
    · have hke : k = l.length := by omega
      subst hke
      rw [List.take_length] at HO ⊢
      have HC : Hid (Cs wr (.slice pU (onlyP l nm.data.toList).length cU) (onlyP l nm.data.toList)) := Lib.hid ⟨row_of_own encC_length HO.out, by have := List.length_filter_le (fun c : Cn => c.nm.data.toList == nm.data.toList) l; unfold onlyP; omega, fun c hc => ((HA.out.later HBel.out).2.2 c (only_mem hc))⟩
      go_wp2_with fail
      go_ret
      exact ⟨pU, cU, rfl, HC.out, HBel.out⟩
end Go.Proofs.Ytggcboejdihdiaa.Gm
