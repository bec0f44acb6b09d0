/- The contract of the document's Matches. -/
import Derived.Test.YtlnjmcodgdebmaaGreatRHc
import Derived.Test.YtlnjmcodgdebmaaGreatKx
set_option linter.unusedSimpArgs false
set_option linter.unusedVariables false
namespace Go.Proofs.YtlnjmcodgdebmaaGreat.Gm
open Go Go.RowKit
attribute [local go_sem ↓] Go.wp_at_zero Go.wp_at_succ

set_option maxHeartbeats 8000000 in
set_option maxRecDepth 100000 in
theorem rmatches_any (v : Value) (l : List Cn) (key : ByteArray) (sl : Value) (attrs : List At) (w : World) (hA : Cs w v l) (hE : Es w sl attrs) :
    Calls Tryz.prog 37 #[v, .agg #[.string key, sl]] w (Gives (.bool (matchesB l attrs)) w) := by
  obtain ⟨p, cap, rfl⟩ := hA.1.form
  obtain ⟨pe, cape, rfl⟩ := hE.1.form
  have hla := hA.2.1
  have hle := hE.2
  have HMa : Hid (matchesB l attrs = l.all (oneB attrs)) := Lib.hid rfl
  obtain ⟨W0, hW0⟩ : ∃ W0, W0 = w.alloc (.cells #[.string key, .slice pe attrs.length cape] 34) := ⟨_, rfl⟩
  have hB0 : Below w.heap.size w W0 := by rw [hW0]; exact below_one _ _
  have HK : Hid (Blk W0 w.heap.size 34 #[.string key, .slice pe attrs.length cape]) := Lib.hid (by rw [hW0]; exact Blk.new _ _ _)
  have HA := Lib.hid (hA.later hB0)
  have HE := Lib.hid (hE.later hB0)
  have HB0 := Lib.hid hB0
  have HW0 := Lib.hid hW0
  clear hA hE hB0 hW0
  go_enter Tryz.func37, Tryz.ntmps37
  go_wp2
  rw [← HW0.out]
  go_loopw [5, 6] (fun i j wr => ∃ k : Nat, k ≤ l.length ∧ i = .int .i64 k ∧ (l.drop k).all (oneB attrs) = l.all (oneB attrs) ∧ Hid (Below W0.heap.size W0 wr)) (fun i _ _ => l.length - (intOf i).toNat)
  case atStart => exact ⟨0, Nat.zero_le _, rfl, rfl, Lib.hid (Below.refl _ _)⟩
  case round =>
    obtain ⟨k, hk, rfl, hall, HB⟩ := hrel
    have HAl := Lib.hid hall
    clear hall
    by_cases hkl : k < l.length
    · obtain ⟨p1, cap1, b, o, hv, hp, hb, h4⟩ := seven_at (HA.out.later HB.out).1 hkl
      simp only [Value.slice.injEq] at hv
      obtain ⟨rfl, _, rfl⟩ := hv
      have hidx := idx_c3 p b o l.length cap k hp hkl
      have HS := Lib.hid (all_step (f := oneB attrs) hkl)
      have HSt := Lib.hid ((HA.out.at hkl).later HB.out)
      obtain ⟨c, hx⟩ : ∃ c, l.getD k default = c := ⟨_, rfl⟩
      rw [hx] at h4 HS HSt
      obtain ⟨wo, hwo⟩ : ∃ wo : World, wo = wr := ⟨_, rfl⟩
      rw [← hwo] at HB h4 hb HSt ⊢
      clear hwo wr
      have H7 := Lib.hid h4
      clear hx hp h4 hb
      go_wp2_with fail
      go_loopw [6] (fun i wr => ∃ j : Nat, j ≤ attrs.length ∧ i = .int .i64 j ∧ Hid (getE (attrs.drop j) c.nm = getE attrs c.nm) ∧ Hid (Below wo.heap.size wo wr)) (fun i _ => attrs.length - (intOf i).toNat)
      case atStart => exact ⟨0, Nat.zero_le _, rfl, Lib.hid rfl, Lib.hid (Below.refl _ _)⟩
      case round =>
        obtain ⟨j, hj, rfl, HG, HB1⟩ := hrel
        have y1 := (HK.out.later (then_ HB.out HB1.out)).cell 1 rfl
        have h7 := H7.out.later HB1.out
        have c0 := h7.1
        by_cases hjl : j < attrs.length
        · obtain ⟨p2, cap2, b2, o2, hv2, hp2, hb2, h5⟩ := five_at (HE.out.later (then_ HB.out HB1.out)).1 hjl
          simp only [Value.slice.injEq] at hv2
          obtain ⟨rfl, _, rfl⟩ := hv2
          have hidx2 := idx_a pe b2 o2 attrs.length cape j hp2 hjl
          have HT := Lib.hid (get_step (name := c.nm) hjl HG.out)
          obtain ⟨x, hx⟩ : ∃ x, attrs.getD j default = x := ⟨_, rfl⟩
          rw [hx] at h5 HT
          have H5 := Lib.hid h5
          have d0 := h5.1
          have hd1 : (j : Int) < (attrs.length : Int) := by omega
          have hd2 : ¬ ((j : Int) = (attrs.length : Int)) := by omega
          clear hx hp2 h5 hb2
          cases hxn : (x.nm.toList == c.nm.toList) with
          | false =>
            have HX := Lib.hid (HT.out.2 hxn)
            clear h7
            go_wp2_with fail
            go_quiet (fail)
            obtain ⟨wz, hwz⟩ : ∃ wz, wz = wr.drewN nq := ⟨_, rfl⟩
            have hbz : Below wr.heap.size wr wz := by rw [hwz]; exact bel_drewN (Below.refl _ _) nq
            rw [← hwz]
            clear hwz
            have HBz := Lib.hid (then_ HB1.out hbz)
            clear hbz y1 c0 d0
            go_wp2_with fail
            go_roundw
            case rel => exact ⟨j + 1, by omega, by simp, HX, HBz⟩
            case measure => simp [intOf]; omega
          | true =>
            have HX := Lib.hid (HT.out.1 hxn)
            have HO := Lib.hid (oneB_some HX.out)
            have HH := Lib.hid (fun W (h : Below wo.heap.size wo W) => rholds_any c x.v W (HSt.out.later h))
            clear h7
            cases hh : holdsB c x.v with
            | false =>
              have HF : Hid (l.all (oneB attrs) = false) := Lib.hid (by rw [← HAl.out, HS.out, HO.out, hh]; rfl)
              rw [hh] at HH
              clear hh
              go_wp2_with fail
              go_quiet (fail)
              obtain ⟨wz, hwz⟩ : ∃ wz, wz = wr.drewN nq := ⟨_, rfl⟩
              have hbz : Below wr.heap.size wr wz := by rw [hwz]; exact bel_drewN (Below.refl _ _) nq
              rw [← hwz]
              clear hwz
              have hk1 := HK.out.later (then_ HB.out (then_ HB1.out hbz))
              have h7 := H7.out.later (then_ HB1.out hbz)
              have h5 := H5.out.later hbz
              have HBz := Lib.hid (then_ HB1.out hbz)
              clear hbz y1 c0 d0
              have y1 := fun (z : Later wz) => Later.cell (hk1.cell 1 rfl) z
              have c0 := fun (z : Later wz) => Later.cell h7.1 z
              have c1 := fun (z : Later wz) => Later.cell h7.2.1 z
              have c2 := fun (z : Later wz) => Later.cell h7.2.2.1 z
              have c3 := fun (z : Later wz) => Later.cell h7.2.2.2.1 z
              have c4 := fun (z : Later wz) => Later.cell h7.2.2.2.2.1 z
              have c5 := fun (z : Later wz) => Later.cell h7.2.2.2.2.2.1 z
              have c6 := fun (z : Later wz) => Later.cell h7.2.2.2.2.2.2 z
              have d1 := fun (z : Later wz) => Later.cell h5.2.1 z
              have d2 := fun (z : Later wz) => Later.cell h5.2.2.1 z
              have d3 := fun (z : Later wz) => Later.cell h5.2.2.2.1 z
              have d4 := fun (z : Later wz) => Later.cell h5.2.2.2.2 z
              clear hk1 h7 h5
              go_wp2_with fail
              refine wp_region_later (by kernel_rfl) (by kernel_rfl) ?_
              repeat (quiet_step ((first | (go_at_call 54; exact later_call _ (HH.out _ (then_ HBz.out (Later.bel _)))))))
              refine wpQuiet_nil ?_
              intro wy hw'
              obtain ⟨⟨_, hby⟩, rfl⟩ := hw'
              have HBy := Lib.hid (then_ HB0.out (then_ HB.out (then_ HBz.out hby)))
              clear hby y1 c0 c1 c2 c3 c4 c5 c6 d1 d2 d3 d4
              go_wp2_with fail
              go_ret
              exact ⟨ret_bool (by rw [HMa.out, HF.out]), HBy.out⟩
            | true =>
              have HF : Hid ((l.drop (k + 1)).all (oneB attrs) = l.all (oneB attrs)) := Lib.hid (by rw [← HAl.out, HS.out, HO.out, hh]; rfl)
              rw [hh] at HH
              clear hh
              go_wp2_with fail
              go_quiet (fail)
              obtain ⟨wz, hwz⟩ : ∃ wz, wz = wr.drewN nq := ⟨_, rfl⟩
              have hbz : Below wr.heap.size wr wz := by rw [hwz]; exact bel_drewN (Below.refl _ _) nq
              rw [← hwz]
              clear hwz
              have hk1 := HK.out.later (then_ HB.out (then_ HB1.out hbz))
              have h7 := H7.out.later (then_ HB1.out hbz)
              have h5 := H5.out.later hbz
              have HBz := Lib.hid (then_ HB1.out hbz)
              clear hbz y1 c0 d0
              have y1 := fun (z : Later wz) => Later.cell (hk1.cell 1 rfl) z
              have c0 := fun (z : Later wz) => Later.cell h7.1 z
              have c1 := fun (z : Later wz) => Later.cell h7.2.1 z
              have c2 := fun (z : Later wz) => Later.cell h7.2.2.1 z
              have c3 := fun (z : Later wz) => Later.cell h7.2.2.2.1 z
              have c4 := fun (z : Later wz) => Later.cell h7.2.2.2.2.1 z
              have c5 := fun (z : Later wz) => Later.cell h7.2.2.2.2.2.1 z
              have c6 := fun (z : Later wz) => Later.cell h7.2.2.2.2.2.2 z
              have d1 := fun (z : Later wz) => Later.cell h5.2.1 z
              have d2 := fun (z : Later wz) => Later.cell h5.2.2.1 z
              have d3 := fun (z : Later wz) => Later.cell h5.2.2.2.1 z
              have d4 := fun (z : Later wz) => Later.cell h5.2.2.2.2 z
              clear hk1 h7 h5
              go_wp2_with fail
              refine wp_region_later (by kernel_rfl) (by kernel_rfl) ?_
              repeat (quiet_step ((first | (go_at_call 54; exact later_call _ (HH.out _ (then_ HBz.out (Later.bel _)))))))
              refine wpQuiet_nil ?_
              intro wy hw'
              obtain ⟨⟨_, hby⟩, rfl⟩ := hw'
              have HBy := Lib.hid (then_ HB.out (then_ HBz.out hby))
              clear hby y1 c0 c1 c2 c3 c4 c5 c6 d1 d2 d3 d4
              go_wp2_with fail
              go_roundw
              case rel => exact ⟨k + 1, by omega, by simp, HF.out, HBy⟩
              case measure => simp [intOf]; omega
        · have hje : j = attrs.length := by omega
          subst hje
          have HG0 : Hid (getE attrs c.nm = none) := Lib.hid (by rw [← HG.out, List.drop_length]; rfl)
          have HF : Hid (l.all (oneB attrs) = false) := Lib.hid (by rw [← HAl.out, HS.out, oneB_none HG0.out]; rfl)
          clear h7
          go_wp2_with fail
          go_quiet (fail)
          obtain ⟨wz, hwz⟩ : ∃ wz, wz = wr.drewN nq := ⟨_, rfl⟩
          have hbz : Below wr.heap.size wr wz := by rw [hwz]; exact bel_drewN (Below.refl _ _) nq
          rw [← hwz]
          clear hwz
          have hk1 := HK.out.later (then_ HB.out (then_ HB1.out hbz))
          have HBz := Lib.hid (then_ HB1.out hbz)
          clear hbz y1 c0
          have y1 := hk1.cell 1 rfl
          clear hk1
          go_wp2_with fail
          go_quiet (fail)
          obtain ⟨wy, hwy⟩ : ∃ wy, wy = wz.drewN nq := ⟨_, rfl⟩
          have hby : Below wz.heap.size wz wy := by rw [hwy]; exact bel_drewN (Below.refl _ _) nq
          rw [← hwy]
          clear hwy
          have HBy := Lib.hid (then_ HB0.out (then_ HB.out (then_ HBz.out hby)))
          clear hby y1
          go_wp2_with fail
          go_ret
          exact ⟨ret_bool (by rw [HMa.out, HF.out]), HBy.out⟩
    · have hke : k = l.length := by omega
      subst hke
      have HF : Hid (l.all (oneB attrs) = true) := Lib.hid (by rw [← HAl.out, List.drop_length]; rfl)
      have HBz := Lib.hid (then_ HB0.out HB.out)
      go_wp2_with fail
      go_ret
      exact ⟨ret_bool (by rw [HMa.out, HF.out]), HBz.out⟩
end Go.Proofs.YtlnjmcodgdebmaaGreat.Gm
