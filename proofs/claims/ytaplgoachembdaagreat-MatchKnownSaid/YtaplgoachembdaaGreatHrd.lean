/- Layer 8: the document's Looks. -/
import Derived.Test.YtaplgoachembdaaGreatRHc
import Derived.Test.YtaplgoachembdaaGreatKx
import Derived.Test.YtaplgoachembdaaGreatHra
import Derived.Test.YtaplgoachembdaaGreatHs
/- Layer 8: the document's Match. -/
/- The contract of the document's Matches. -/
set_option linter.unusedSimpArgs false
set_option linter.unusedVariables false
namespace Go.Proofs.YtaplgoachembdaaGreat.Gm
open Go Go.RowKit
attribute [local go_sem ↓] Go.wp_at_zero Go.wp_at_succ

set_option maxHeartbeats 8000000 in
set_option maxRecDepth 100000 in
theorem rmatches_any (v : Value) (l : List Cn) (key : ByteArray) (sl : Value) (attrs : List At) (w : World) (hA : Cs w v l) (hE : Es w sl attrs) :
    Calls Tryz.prog 38 #[v, .agg #[.string key, sl]] w (Gives (.bool (matchesB l attrs)) w) := by
  obtain ⟨p, cap, rfl⟩ := hA.1.form
  obtain ⟨pe, cape, rfl⟩ := hE.1.form
  have hla := hA.2.1
  have hle := hE.2
  have HMa : Hid (matchesB l attrs = l.all (oneB attrs)) := Lib.hid rfl
  obtain ⟨W0, hW0⟩ : ∃ W0, W0 = w.alloc (.cells #[.string key, .slice pe attrs.length cape] 34) := ⟨_, rfl⟩
  have hB0 : Below w.heap.size w W0 := by rw [hW0]; exact below_one _ _
  have HK : Hid (Blk W0 w.heap.size 34 #[.string key, .slice pe attrs.length cape]) := Lib.hid (by rw [hW0]; exact Blk.new _ _ _)
  have HA := Lib.hid (hA.later hB0)
  have HE := Lib.hid (hE.later hB0)
  have HB0 := Lib.hid hB0
  have HW0 := Lib.hid hW0
  clear hA hE hB0 hW0
  go_enter Tryz.func38, Tryz.ntmps38
  go_wp2
  rw [← HW0.out]
  go_loopw [5, 6] (fun i j wr => ∃ k : Nat, k ≤ l.length ∧ i = .int .i64 k ∧ (l.drop k).all (oneB attrs) = l.all (oneB attrs) ∧ Hid (Below W0.heap.size W0 wr)) (fun i _ _ => l.length - (intOf i).toNat)
  case atStart => exact ⟨0, Nat.zero_le _, rfl, rfl, Lib.hid (Below.refl _ _)⟩
  case round =>
    obtain ⟨k, hk, rfl, hall, HB⟩ := hrel
    have HAl := Lib.hid hall
    clear hall
    by_cases hkl : k < l.length
    · obtain ⟨p1, cap1, b, o, hv, hp, hb, h4⟩ := seven_at (HA.out.later HB.out).1 hkl
      simp only [Value.slice.injEq] at hv
      obtain ⟨rfl, _, rfl⟩ := hv
      have hidx := idx_c3 p b o l.length cap k hp hkl
      have HS := Lib.hid (all_step (f := oneB attrs) hkl)
      have HSt := Lib.hid ((HA.out.at hkl).later HB.out)
      obtain ⟨c, hx⟩ : ∃ c, l.getD k default = c := ⟨_, rfl⟩
      rw [hx] at h4 HS HSt
      obtain ⟨wo, hwo⟩ : ∃ wo : World, wo = wr := ⟨_, rfl⟩
      rw [← hwo] at HB h4 hb HSt ⊢
      clear hwo wr
      have H7 := Lib.hid h4
      clear hx hp h4 hb
      go_wp2_with fail
      go_loopw [6] (fun i wr => ∃ j : Nat, j ≤ attrs.length ∧ i = .int .i64 j ∧ Hid (getE (attrs.drop j) c.nm = getE attrs c.nm) ∧ Hid (Below wo.heap.size wo wr)) (fun i _ => attrs.length - (intOf i).toNat)
      case atStart => exact ⟨0, Nat.zero_le _, rfl, Lib.hid rfl, Lib.hid (Below.refl _ _)⟩
      case round =>
        obtain ⟨j, hj, rfl, HG, HB1⟩ := hrel
        have y1 := (HK.out.later (then_ HB.out HB1.out)).cell 1 rfl
        have h7 := H7.out.later HB1.out
        have c0 := h7.1
        by_cases hjl : j < attrs.length
        · obtain ⟨p2, cap2, b2, o2, hv2, hp2, hb2, h5⟩ := five_at (HE.out.later (then_ HB.out HB1.out)).1 hjl
          simp only [Value.slice.injEq] at hv2
          obtain ⟨rfl, _, rfl⟩ := hv2
          have hidx2 := idx_a pe b2 o2 attrs.length cape j hp2 hjl
          have HT := Lib.hid (get_step (name := c.nm) hjl HG.out)
          obtain ⟨x, hx⟩ : ∃ x, attrs.getD j default = x := ⟨_, rfl⟩
          rw [hx] at h5 HT
          have H5 := Lib.hid h5
          have d0 := h5.1
          have hd1 : (j : Int) < (attrs.length : Int) := by omega
          have hd2 : ¬ ((j : Int) = (attrs.length : Int)) := by omega
          clear hx hp2 h5 hb2
          cases hxn : (x.nm.toList == c.nm.toList) with
          | false =>
            have HX := Lib.hid (HT.out.2 hxn)
            clear h7
            go_wp2_with fail
            go_quiet (fail)
            obtain ⟨wz, hwz⟩ : ∃ wz, wz = wr.drewN nq := ⟨_, rfl⟩
            have hbz : Below wr.heap.size wr wz := by rw [hwz]; exact bel_drewN (Below.refl _ _) nq
            rw [← hwz]
            clear hwz
            have HBz := Lib.hid (then_ HB1.out hbz)
            clear hbz y1 c0 d0
            go_wp2_with fail
            go_roundw
            case rel => exact ⟨j + 1, by omega, by simp, HX, HBz⟩
            case measure => simp [intOf]; omega
          | true =>
            have HX := Lib.hid (HT.out.1 hxn)
            have HO := Lib.hid (oneB_some HX.out)
            have HH := Lib.hid (fun W (h : Below wo.heap.size wo W) => rholds_any c x.v W (HSt.out.later h))
            clear h7
            cases hh : holdsB c x.v with
            | false =>
              have HF : Hid (l.all (oneB attrs) = false) := Lib.hid (by rw [← HAl.out, HS.out, HO.out, hh]; rfl)
              rw [hh] at HH
              clear hh
              go_wp2_with fail
              go_quiet (fail)
              obtain ⟨wz, hwz⟩ : ∃ wz, wz = wr.drewN nq := ⟨_, rfl⟩
              have hbz : Below wr.heap.size wr wz := by rw [hwz]; exact bel_drewN (Below.refl _ _) nq
              rw [← hwz]
              clear hwz
              have hk1 := HK.out.later (then_ HB.out (then_ HB1.out hbz))
              have h7 := H7.out.later (then_ HB1.out hbz)
              have h5 := H5.out.later hbz
              have HBz := Lib.hid (then_ HB1.out hbz)
              clear hbz y1 c0 d0
              have y1 := fun (z : Later wz) => Later.cell (hk1.cell 1 rfl) z
              have c0 := fun (z : Later wz) => Later.cell h7.1 z
              have c1 := fun (z : Later wz) => Later.cell h7.2.1 z
              have c2 := fun (z : Later wz) => Later.cell h7.2.2.1 z
              have c3 := fun (z : Later wz) => Later.cell h7.2.2.2.1 z
              have c4 := fun (z : Later wz) => Later.cell h7.2.2.2.2.1 z
              have c5 := fun (z : Later wz) => Later.cell h7.2.2.2.2.2.1 z
              have c6 := fun (z : Later wz) => Later.cell h7.2.2.2.2.2.2 z
              have d1 := fun (z : Later wz) => Later.cell h5.2.1 z
              have d2 := fun (z : Later wz) => Later.cell h5.2.2.1 z
              have d3 := fun (z : Later wz) => Later.cell h5.2.2.2.1 z
              have d4 := fun (z : Later wz) => Later.cell h5.2.2.2.2 z
              clear hk1 h7 h5
              go_wp2_with fail
              refine wp_region_later (by kernel_rfl) (by kernel_rfl) ?_
              repeat (quiet_step ((first | (go_at_call 55; exact later_call _ (HH.out _ (then_ HBz.out (Later.bel _)))))))
              refine wpQuiet_nil ?_
              intro wy hw'
              obtain ⟨⟨_, hby⟩, rfl⟩ := hw'
              have HBy := Lib.hid (then_ HB0.out (then_ HB.out (then_ HBz.out hby)))
              clear hby y1 c0 c1 c2 c3 c4 c5 c6 d1 d2 d3 d4
              go_wp2_with fail
              go_ret
              exact ⟨ret_bool (by rw [HMa.out, HF.out]), HBy.out⟩
            | true =>
              have HF : Hid ((l.drop (k + 1)).all (oneB attrs) = l.all (oneB attrs)) := Lib.hid (by rw [← HAl.out, HS.out, HO.out, hh]; rfl)
              rw [hh] at HH
              clear hh
              go_wp2_with fail
              go_quiet (fail)
              obtain ⟨wz, hwz⟩ : ∃ wz, wz = wr.drewN nq := ⟨_, rfl⟩
              have hbz : Below wr.heap.size wr wz := by rw [hwz]; exact bel_drewN (Below.refl _ _) nq
              rw [← hwz]
              clear hwz
              have hk1 := HK.out.later (then_ HB.out (then_ HB1.out hbz))
              have h7 := H7.out.later (then_ HB1.out hbz)
              have h5 := H5.out.later hbz
              have HBz := Lib.hid (then_ HB1.out hbz)
              clear hbz y1 c0 d0
              have y1 := fun (z : Later wz) => Later.cell (hk1.cell 1 rfl) z
              have c0 := fun (z : Later wz) => Later.cell h7.1 z
              have c1 := fun (z : Later wz) => Later.cell h7.2.1 z
              have c2 := fun (z : Later wz) => Later.cell h7.2.2.1 z
              have c3 := fun (z : Later wz) => Later.cell h7.2.2.2.1 z
              have c4 := fun (z : Later wz) => Later.cell h7.2.2.2.2.1 z
              have c5 := fun (z : Later wz) => Later.cell h7.2.2.2.2.2.1 z
              have c6 := fun (z : Later wz) => Later.cell h7.2.2.2.2.2.2 z
              have d1 := fun (z : Later wz) => Later.cell h5.2.1 z
              have d2 := fun (z : Later wz) => Later.cell h5.2.2.1 z
              have d3 := fun (z : Later wz) => Later.cell h5.2.2.2.1 z
              have d4 := fun (z : Later wz) => Later.cell h5.2.2.2.2 z
              clear hk1 h7 h5
              go_wp2_with fail
              refine wp_region_later (by kernel_rfl) (by kernel_rfl) ?_
              repeat (quiet_step ((first | (go_at_call 55; exact later_call _ (HH.out _ (then_ HBz.out (Later.bel _)))))))
              refine wpQuiet_nil ?_
              intro wy hw'
              obtain ⟨⟨_, hby⟩, rfl⟩ := hw'
              have HBy := Lib.hid (then_ HB.out (then_ HBz.out hby))
              clear hby y1 c0 c1 c2 c3 c4 c5 c6 d1 d2 d3 d4
              go_wp2_with fail
              go_roundw
              case rel => exact ⟨k + 1, by omega, by simp, HF.out, HBy⟩
              case measure => simp [intOf]; omega
        · have hje : j = attrs.length := by omega
          subst hje
          have HG0 : Hid (getE attrs c.nm = none) := Lib.hid (by rw [← HG.out, List.drop_length]; rfl)
          have HF : Hid (l.all (oneB attrs) = false) := Lib.hid (by rw [← HAl.out, HS.out, oneB_none HG0.out]; rfl)
          clear h7
          go_wp2_with fail
          go_quiet (fail)
          obtain ⟨wz, hwz⟩ : ∃ wz, wz = wr.drewN nq := ⟨_, rfl⟩
          have hbz : Below wr.heap.size wr wz := by rw [hwz]; exact bel_drewN (Below.refl _ _) nq
          rw [← hwz]
          clear hwz
          have hk1 := HK.out.later (then_ HB.out (then_ HB1.out hbz))
          have HBz := Lib.hid (then_ HB1.out hbz)
          clear hbz y1 c0
          have y1 := hk1.cell 1 rfl
          clear hk1
          go_wp2_with fail
          go_quiet (fail)
          obtain ⟨wy, hwy⟩ : ∃ wy, wy = wz.drewN nq := ⟨_, rfl⟩
          have hby : Below wz.heap.size wz wy := by rw [hwy]; exact bel_drewN (Below.refl _ _) nq
          rw [← hwy]
          clear hwy
          have HBy := Lib.hid (then_ HB0.out (then_ HB.out (then_ HBz.out hby)))
          clear hby y1
          go_wp2_with fail
          go_ret
          exact ⟨ret_bool (by rw [HMa.out, HF.out]), HBy.out⟩
    · have hke : k = l.length := by omega
      subst hke
      have HF : Hid (l.all (oneB attrs) = true) := Lib.hid (by rw [← HAl.out, List.drop_length]; rfl)
      have HBz := Lib.hid (then_ HB0.out HB.out)
      go_wp2_with fail
      go_ret
      exact ⟨ret_bool (by rw [HMa.out, HF.out]), HBz.out⟩
end Go.Proofs.YtaplgoachembdaaGreat.Gm
set_option linter.unusedSimpArgs false
set_option linter.unusedVariables false
namespace Go.Proofs.YtaplgoachembdaaGreat.Gm
open Go Go.RowKit
attribute [local go_sem ↓] Go.wp_at_zero Go.wp_at_succ

/-- The numbers that the document's Match tells. -/
def rmatched (L : List Itm) (q : Itm → List Cn) (l : List At) : List Int := (L.filter fun e => matchesB (q e) l).map (·.1)
def RMatchR (L : List Itm) (q : Itm → List Cn) (l : List At) (w : World) (e : Ending) (w' : World) : Prop := ∃ v, e = .returned v ∧ OwnN w' w.heap.size v (rmatched L q l) ∧ Below w.heap.size w w'
theorem rmatched_take (L : List Itm) (q : Itm → List Cn) (l : List At) {k : Nat} (hk : k < L.length) : rmatched (L.take (k + 1)) q l = rmatched (L.take k) q l ++ if matchesB (q (L.getD k default)) l = true then [(L.getD k default).1] else [] := by
  unfold rmatched
  rw [take_snoc L hk, List.filter_append, List.map_append]
  congr 1
  by_cases h : matchesB (q (L.getD k default)) l = true
  · rw [if_pos h, List.filter_cons, if_pos h]; rfl
  · rw [if_neg h, List.filter_cons, if_neg h]; rfl
theorem rmatched_len (L : List Itm) (q : Itm → List Cn) (l : List At) (k : Nat) : (rmatched (L.take k) q l).length ≤ L.length := by
  unfold rmatched
  rw [List.length_map]
  exact Nat.le_trans (List.length_filter_le _ _) (by rw [List.length_take]; omega)
set_option maxHeartbeats 4000000 in
set_option maxRecDepth 100000 in
theorem rmatch_any (g : Nat) (u : Value) (L : List Itm) (q : Itm → List Cn) (key : ByteArray) (sl : Value) (l : List At) (w : World) (h : RefB w g u L) (hq : ∀ e ∈ L, Cs w e.2 (q e)) (hE : Es w sl l) :
    Calls Tryz.prog 15 #[.pointer (some ⟨g, 0, none⟩), .agg #[.string key, sl]] w (RMatchR L q l w) := by
  obtain ⟨i0, ii, iz0, iz1, iz2⟩ := info_parts infoN
  obtain ⟨p, cap, rfl⟩ := h.row.form
  obtain ⟨pe, cape, rfl⟩ := hE.1.form
  have HB0 := Lib.hid (below_one w (.cells #[.string key, .slice pe l.length cape] 34))
  have HK0 := Lib.hid (Blk.new w 34 #[.string key, .slice pe l.length cape])
  obtain ⟨W0, hW0⟩ : ∃ W0, W0 = w.alloc (.cells #[.string key, .slice pe l.length cape] 34) := ⟨_, rfl⟩
  rw [← hW0] at HB0 HK0
  have HW0 := Lib.hid hW0
  have HR := Lib.hid h
  have HQ := Lib.hid hq
  have HM := Lib.hid (fun (x : Itm) (hx : x ∈ L) (W : World) (hb : Below w.heap.size w W) => rmatches_any x.2 (q x) key _ l W ((hq x hx).later hb) (hE.later hb))
  have hlen := h.len
  clear h hq hE hW0
  go_enter Tryz.func15, Tryz.ntmps15
  go_wp2
  rw [← HW0.out]
  go_loopw [5, 6] (fun out i wr => ∃ (k n : Nat) (po : Option Addr) (co : Nat), k ≤ L.length ∧ i = .int .i64 k ∧ out = .slice po n co ∧ n = (rmatched (L.take k) q l).length ∧ Hid (OwnN wr W0.heap.size (.slice po n co) (rmatched (L.take k) q l)) ∧ Hid (Below W0.heap.size W0 wr)) (fun _ i _ => L.length - (intOf i).toNat)
  case atStart => exact ⟨0, 0, none, 0, Nat.zero_le _, rfl, rfl, rfl, Lib.hid (World.ownsRow_nil _ _ _ _), Lib.hid (Below.refl _ _)⟩
  case round =>
    obtain ⟨k, n, po, co, hk, rfl, rfl, hn, HO, HB⟩ := hrel
    have HNn := Lib.hid hn
    have hnl : n ≤ L.length := by rw [hn]; exact rmatched_len L q l k
    clear hn
    have HBw := Lib.hid (then_ HB0.out HB.out)
    have HRr := Lib.hid (HR.out.later HBw.out)
    have h0 := HRr.out.blk.cell 0 rfl
    by_cases hkl : k < L.length
    · obtain ⟨p1, cap1, b, o, hv, hp, hb, c0, c1⟩ := itm_at HRr.out.row hkl
      simp only [Value.slice.injEq] at hv
      obtain ⟨rfl, _, rfl⟩ := hv
      have hidx := idx_i p b o L.length cap k hp hkl
      have HT := Lib.hid (rmatched_take L q l hkl)
      have hmem : L.getD k default ∈ L := by rw [List.getD_eq_getElem?_getD, List.getElem?_eq_getElem hkl]; exact List.getElem_mem hkl
      obtain ⟨x, hx⟩ : ∃ x, L.getD k default = x := ⟨_, rfl⟩
      rw [hx] at c0 c1 HT hmem
      obtain ⟨px, cx, hxv⟩ := (HQ.out x hmem).1.form
      have HMx := Lib.hid (HM.out x hmem)
      obtain ⟨nx, hnx⟩ : ∃ nx, (q x).length = nx := ⟨_, rfl⟩
      rw [hnx] at hxv
      rw [hxv] at c1 HMx
      obtain ⟨id, hid⟩ : ∃ id, x.1 = id := ⟨_, rfl⟩
      rw [hid] at c0 HT
      obtain ⟨bb, hbb⟩ : ∃ bb, matchesB (q x) l = bb := ⟨_, rfl⟩
      rw [hbb] at HMx HT
      have HC0 := Lib.hid c0
      have HC1 := Lib.hid c1
      have HBb := Lib.hid hb
      clear hx hmem hxv hnx hid hbb hp c0 c1 hb
      go_wp2_with fail
      clear h0
      have h0 := fun (z : Later wr) => Later.cell (HRr.out.blk.cell 0 rfl) z
      have c1 := fun (z : Later wr) => Later.cell HC1.out z
      have y0 := fun (z : Later wr) => Later.cell ((HK0.out.later HB.out).cell 0 rfl) z
      have y1 := fun (z : Later wr) => Later.cell ((HK0.out.later HB.out).cell 1 rfl) z
      refine wp_region_later (by kernel_rfl) (by kernel_rfl) ?_
      repeat (quiet_step ((first | (go_at_call 38; exact later_call _ (HMx.out _ (then_ HBw.out (Later.bel _)))))))
      refine wpQuiet_nil ?_
      intro wy hw'
      obtain ⟨⟨_, hby⟩, rfl⟩ := hw'
      rename_i wy
      have HBy := Lib.hid (then_ HB.out hby)
      have HOy := Lib.hid (own_later HO.out hby)
      have hk1 := (HRr.out.blk.later hby).cell 0 rfl
      have hc1 := cell_later hby HC0.out
      clear h0 c1 y0 y1 hby
      cases bb with
      | false =>
        go_wp2_with fail
        go_roundw
        case rel => exact ⟨k + 1, n, po, co, by omega, by simp, rfl, by rw [HT.out, HNn.out]; simp, Lib.hid (by rw [HT.out, if_neg (by decide), List.append_nil]; exact HOy.out), HBy⟩
        case measure => simp [intOf]; omega
      | true =>
        have HO8 : Hid ((wy.alloc (.cells #[.int .i64 id] 3)).ownsRow W0.heap.size 3 1 (.slice po n co) n ((rmatched (L.take k) q l).map (Value.int .i64))) := Lib.hid (World.ownsRow.alloc (by have h := HOy.out; unfold OwnN at h; rw [← HNn.out] at h; exact h) _)
        have HB8 := Lib.hid (below_one wy (.cells #[.int .i64 id] 3))
        have HR8 : Hid (W0.heap.size ≤ (wy.alloc (.cells #[.int .i64 id] 3)).heap.size) := Lib.hid (Nat.le_trans HBy.out.size HB8.out.size)
        go_wp2_with (first
          | (at_builtin; refine wpList_append_src rfl _ _ 49 (by rfl) W0.heap.size 3 i0 (.int .i64 0) 1 8 Tryz.underlying49 ii iz0 iz1 iz2 rfl (by decide) _ _ _ (by rfl) HO8.out _ 1 [.int .i64 id] (by rfl) (src_n wy id) (n + 1) rfl (by unfold maxLen; omega) (by omega) HR8.out ?_; intro pA capA w9 hown9 hgrow9; have HO9 := Lib.hid hown9; have HB9 := Lib.hid hgrow9; clear hown9 hgrow9)
          | fail)
        have hb9 : Below W0.heap.size (wy.alloc (.cells #[.int .i64 id] 3)) w9 := (Below.refl _ _).grown HB9.out HR8.out (fun j hj => (World.ownsRow.lt HO8.out j hj).1)
        have HBn : Hid (Below W0.heap.size W0 w9) := Lib.hid ((HBy.out.trans (HB8.out.mono HBy.out.size)).trans hb9)
        have HOn : Hid (OwnN w9 W0.heap.size (.slice pA (n + 1) capA) (rmatched (L.take (k + 1)) q l)) := Lib.hid (by
          have h := HO9.out
          unfold OwnN
          rw [HT.out]
          simp only [if_true, List.length_append, List.length_cons, List.length_nil, List.map_append]
          rw [← HNn.out]
          exact h)
        clear hb9
        go_roundw
        case rel => exact ⟨k + 1, n + 1, pA, capA, by omega, by simp, rfl, by rw [HT.out, HNn.out]; simp, HOn, HBn⟩
        case measure => simp [intOf]; omega
    · have hke : k = L.length := by omega
      subst hke
      rw [List.take_length] at HO
      go_wp2_with fail
      go_ret
      exact ⟨_, rfl, own_base HO.out HB0.out.size, HBw.out⟩
end Go.Proofs.YtaplgoachembdaaGreat.Gm
set_option linter.unusedSimpArgs false
set_option linter.unusedVariables false
namespace Go.Proofs.YtaplgoachembdaaGreat.Gm
open Go Go.RowKit
attribute [local go_sem ↓] Go.wp_at_zero Go.wp_at_succ

/-- Is there an attribute of that name? -/
def hasN (l : List At) (nm : ByteArray) : Bool := l.any fun y => y.nm.toList == nm.toList
theorem hasN_get (l : List At) (nm : ByteArray) : hasN l nm = (getE l nm).isSome := by
  unfold hasN getE
  rw [Bool.eq_iff_iff, List.any_eq_true, List.find?_isSome]
theorem hasN_take (l : List At) (nm : ByteArray) {t : Nat} (ht : t < l.length) : hasN (l.take (t + 1)) nm = (hasN (l.take t) nm || ((l.getD t default).nm.toList == nm.toList)) := by
  unfold hasN
  rw [take_snoc l ht, List.any_append]
  simp only [List.any_cons, List.any_nil, Bool.or_false]
def asked8 (l : List At) (p : List Cn) : Nat := p.countP fun c => hasN l c.nm
theorem asked8_take (l : List At) (p : List Cn) {k : Nat} (hk : k < p.length) : asked8 l (p.take (k + 1)) = asked8 l (p.take k) + if hasN l (p.getD k default).nm = true then 1 else 0 := by
  unfold asked8
  rw [take_snoc p hk, List.countP_append, List.countP_cons, List.countP_nil, Nat.zero_add]
theorem asked8_le (l : List At) (p : List Cn) : asked8 l p ≤ p.length := List.countP_le_length
/-- What the document's Looks counts. -/
def rlooks (L : List Itm) (q : Itm → List Cn) (l : List At) : Nat := (L.map fun e => asked8 l (q e)).sum
theorem rlooks_take (L : List Itm) (q : Itm → List Cn) (l : List At) {k : Nat} (hk : k < L.length) : rlooks (L.take (k + 1)) q l = rlooks (L.take k) q l + asked8 l (q (L.getD k default)) := by
  unfold rlooks
  rw [take_snoc L hk, List.map_append, List.sum_append, List.map_cons, List.map_nil, List.sum_cons, List.sum_nil, Nat.add_zero]
theorem rlooks_le (L : List Itm) (q : Itm → List Cn) (l : List At) (h : ∀ e ∈ L, (q e).length ≤ 6) : rlooks L q l ≤ 6 * L.length := by
  induction L with
  | nil => simp [rlooks]
  | cons e L ih =>
    have h1 := ih fun e he => h e (List.mem_cons_of_mem _ he)
    have h2 := Nat.le_trans (asked8_le l (q e)) (h e List.mem_cons_self)
    unfold rlooks at h1 ⊢
    rw [List.map_cons, List.sum_cons, List.length_cons]; omega
set_option maxHeartbeats 8000000 in
set_option maxRecDepth 100000 in
theorem rlooks_any (g : Nat) (u : Value) (L : List Itm) (q : Itm → List Cn) (key : ByteArray) (sl : Value) (l : List At) (w : World) (h : RefB w g u L) (hq : ∀ e ∈ L, Cs w e.2 (q e)) (hq6 : ∀ e ∈ L, (q e).length ≤ 6) (hE : Es w sl l) :
    Calls Tryz.prog 17 #[.pointer (some ⟨g, 0, none⟩), .agg #[.string key, sl]] w (Gives (.int .i64 (rlooks L q l : Nat)) w) := by
  obtain ⟨p, cap, rfl⟩ := h.row.form
  obtain ⟨pe, cape, rfl⟩ := hE.1.form
  have HB0 := Lib.hid (below_one w (.cells #[.string key, .slice pe l.length cape] 34))
  have HK0 := Lib.hid (Blk.new w 34 #[.string key, .slice pe l.length cape])
  obtain ⟨W0, hW0⟩ : ∃ W0, W0 = w.alloc (.cells #[.string key, .slice pe l.length cape] 34) := ⟨_, rfl⟩
  rw [← hW0] at HB0 HK0
  have HW0 := Lib.hid hW0
  have HR := Lib.hid h
  have HQ := Lib.hid hq
  have HQ6 := Lib.hid hq6
  have HE := Lib.hid hE
  have hlen := h.len
  have hel := hE.2
  clear h hq hq6 hE hW0
  go_enter Tryz.func17, Tryz.ntmps17
  go_wp2
  rw [← HW0.out]
  go_loopw [5, 6, 7, 8, 9] (fun n i _ _ _ wr => ∃ (k s : Nat), k ≤ L.length ∧ i = .int .i64 k ∧ n = .int .i64 s ∧ s = rlooks (L.take k) q l ∧ Hid (Below W0.heap.size W0 wr)) (fun _ i _ _ _ _ => L.length - (intOf i).toNat)
  case atStart => exact ⟨0, 0, Nat.zero_le _, rfl, rfl, rfl, Lib.hid (Below.refl _ _)⟩
  case round =>
    obtain ⟨k, s, hk, rfl, rfl, hs, HB⟩ := hrel
    have hsl : s ≤ 1536 := by
      have h1 := rlooks_le (L.take k) q l (fun e he => HQ6.out e (List.mem_of_mem_take he))
      rw [List.length_take] at h1
      omega
    have HS := Lib.hid hs
    clear hs
    have HBw := Lib.hid (then_ HB0.out HB.out)
    have HRr := Lib.hid (HR.out.later HBw.out)
    have h0 := HRr.out.blk.cell 0 rfl
    by_cases hkl : k < L.length
    · obtain ⟨p1, cap1, b, o, hv, hp, hb, c0, c1⟩ := itm_at HRr.out.row hkl
      simp only [Value.slice.injEq] at hv
      obtain ⟨rfl, _, rfl⟩ := hv
      have hidx := idx_i p b o L.length cap k hp hkl
      have HT := Lib.hid (rlooks_take L q l hkl)
      have hmem : L.getD k default ∈ L := by rw [List.getD_eq_getElem?_getD, List.getElem?_eq_getElem hkl]; exact List.getElem_mem hkl
      obtain ⟨x, hx⟩ : ∃ x, L.getD k default = x := ⟨_, rfl⟩
      rw [hx] at c0 c1 HT hmem
      have HP := Lib.hid ((HQ.out x hmem).later HBw.out)
      have hp6 := HQ6.out x hmem
      obtain ⟨P, hP⟩ : ∃ P, q x = P := ⟨_, rfl⟩
      rw [hP] at HP hp6 HT
      obtain ⟨px, cx, hxv⟩ := HP.out.1.form
      rw [hxv] at c1 HP
      have HC1 := Lib.hid c1
      have HH0 := Lib.hid h0
      obtain ⟨wo, hwo⟩ : ∃ wo : World, wo = wr := ⟨_, rfl⟩
      rw [← hwo] at HB HBw HRr HP HC1 HH0 h0 c1 ⊢
      have hbo : b < wo.heap.size := by rw [hwo]; exact hb
      have HBo := Lib.hid hbo
      clear hx hmem hP hxv hp c0 hb hbo hwo wr
      go_wp2_with fail
      go_loopw [5, 7, 8, 9] (fun n i _ _ wr => ∃ (j s2 : Nat), j ≤ P.length ∧ i = .int .i64 j ∧ n = .int .i64 s2 ∧ s2 = s + asked8 l (P.take j) ∧ Hid (Below wo.heap.size wo wr)) (fun _ i _ _ _ => P.length - (intOf i).toNat)
      case atStart => exact ⟨0, s, Nat.zero_le _, rfl, rfl, by simp [asked8], Lib.hid (Below.refl _ _)⟩
      case round =>
        obtain ⟨j, s2, hj, rfl, rfl, hs2, HB1⟩ := hrel
        have hs2l : s2 ≤ 2000 := by
          have h1 := asked8_le l (P.take j)
          rw [List.length_take] at h1
          omega
        have HS2 := Lib.hid hs2
        clear hs2
        have h0 := cell_later HB1.out HH0.out
        have c1 := cell_later HB1.out HC1.out
        by_cases hjl : j < P.length
        · obtain ⟨p3, cap3, b3, o3, hv3, hp3, hb3, h7⟩ := seven_at (HP.out.later HB1.out).1 hjl
          simp only [Value.slice.injEq] at hv3
          obtain ⟨rfl, _, rfl⟩ := hv3
          have hidx3 := idx_c3 px b3 o3 P.length cx j hp3 hjl
          have HA8 := Lib.hid (asked8_take l P hjl)
          obtain ⟨c, hc⟩ : ∃ c, P.getD j default = c := ⟨_, rfl⟩
          rw [hc] at h7 HA8
          have H70 := Lib.hid h7.1
          obtain ⟨wm, hwm⟩ : ∃ wm : World, wm = wr := ⟨_, rfl⟩
          rw [← hwm] at HB1 H70 h0 c1 ⊢
          have HM0 := Lib.hid h0
          have HM1 := Lib.hid c1
          clear hc h7 hp3 hb3 hwm wr
          go_wp2_with fail
          go_loopw [8, 9] (fun is i wr => ∃ (t : Nat) (bt : Bool), t ≤ l.length ∧ i = .int .i64 t ∧ is = .bool bt ∧ bt = hasN (l.take t) c.nm ∧ Hid (Below wm.heap.size wm wr)) (fun _ i _ => l.length - (intOf i).toNat)
          case atStart => exact ⟨0, false, Nat.zero_le _, rfl, rfl, by simp [hasN], Lib.hid (Below.refl _ _)⟩
          case round =>
            obtain ⟨t, bt, ht, rfl, rfl, hbt, HB2⟩ := hrel
            have HBT := Lib.hid hbt
            clear hbt
            have h0 := cell_later HB2.out HM0.out
            have c1 := cell_later HB2.out HM1.out
            have d0 := cell_later HB2.out H70.out
            have HBE := Lib.hid (then_ HB.out (then_ HB1.out HB2.out))
            have y1 := (HK0.out.later HBE.out).cell 1 rfl
            by_cases htl : t < l.length
            · obtain ⟨p4, cap4, b4, o4, hv4, hp4, hb4, h5⟩ := five_at (HE.out.later (then_ HB0.out HBE.out)).1 htl
              simp only [Value.slice.injEq] at hv4
              obtain ⟨rfl, _, rfl⟩ := hv4
              have hidx4 := idx_a pe b4 o4 l.length cape t hp4 htl
              have HN8 := Lib.hid (hasN_take l c.nm htl)
              obtain ⟨y, hy⟩ : ∃ y, l.getD t default = y := ⟨_, rfl⟩
              rw [hy] at h5 HN8
              have e0 := h5.1
              clear hy hp4 h5 hb4
              cases bt with
              | true =>
                go_wp2_with fail
                go_quiet (fail)
                obtain ⟨wz, hwz⟩ : ∃ wz, wz = wr.drewN nq := ⟨_, rfl⟩
                have hbz : Below wr.heap.size wr wz := by rw [hwz]; exact bel_drewN (Below.refl _ _) nq
                rw [← hwz]
                clear hwz
                have HBz := Lib.hid (then_ HB2.out hbz)
                clear hbz y1 h0 c1 d0 e0
                go_wp2_with fail
                go_roundw
                case rel => exact ⟨t + 1, true, by omega, by simp, rfl, by rw [HN8.out, ← HBT.out]; rfl, HBz⟩
                case measure => simp [intOf]; omega
              | false =>
                cases hxn : (y.nm.toList == c.nm.toList) with
                | false =>
                  rw [hxn] at HN8
                  go_wp2_with fail
                  go_quiet (fail)
                  obtain ⟨wz, hwz⟩ : ∃ wz, wz = wr.drewN nq := ⟨_, rfl⟩
                  have hbz : Below wr.heap.size wr wz := by rw [hwz]; exact bel_drewN (Below.refl _ _) nq
                  rw [← hwz]
                  clear hwz
                  have HBz := Lib.hid (then_ HB2.out hbz)
                  clear hbz y1 h0 c1 d0 e0
                  go_wp2_with fail
                  go_roundw
                  case rel => exact ⟨t + 1, false, by omega, by simp, rfl, by rw [HN8.out, ← HBT.out]; rfl, HBz⟩
                  case measure => simp [intOf]; omega
                | true =>
                  rw [hxn] at HN8
                  go_wp2_with fail
                  go_quiet (fail)
                  obtain ⟨wz, hwz⟩ : ∃ wz, wz = wr.drewN nq := ⟨_, rfl⟩
                  have hbz : Below wr.heap.size wr wz := by rw [hwz]; exact bel_drewN (Below.refl _ _) nq
                  rw [← hwz]
                  clear hwz
                  have HBz := Lib.hid (then_ HB2.out hbz)
                  clear hbz y1 h0 c1 d0 e0
                  go_wp2_with fail
                  go_roundw
                  case rel => exact ⟨t + 1, true, by omega, by simp, rfl, by rw [HN8.out, ← HBT.out]; rfl, HBz⟩
                  case measure => simp [intOf]; omega
            · have hte : t = l.length := by omega
              subst hte
              have HBF : Hid (bt = hasN l c.nm) := Lib.hid (by rw [HBT.out, List.take_length])
              have HBm := Lib.hid (then_ HB1.out HB2.out)
              clear h0 c1 d0
              cases bt with
              | true =>
                go_wp2_with fail
                go_roundw
                case rel => exact ⟨j + 1, s2 + 1, by omega, by simp, by go_num, by rw [HA8.out, ← HBF.out, if_pos rfl, HS2.out]; omega, HBm⟩
                case measure => simp [intOf]; omega
              | false =>
                go_wp2_with fail
                go_roundw
                case rel => exact ⟨j + 1, s2, by omega, by simp, rfl, by rw [HA8.out, ← HBF.out, if_neg (by decide), HS2.out]; rfl, HBm⟩
                case measure => simp [intOf]; omega
        · have hje : j = P.length := by omega
          subst hje
          have HBm := Lib.hid (then_ HB.out HB1.out)
          have HSe : Hid (s2 = rlooks (L.take (k + 1)) q l) := Lib.hid (by rw [HS2.out, List.take_length, HT.out, HS.out])
          go_wp2_with fail
          go_roundw
          case rel => exact ⟨k + 1, s2, by omega, by simp, rfl, HSe.out, HBm⟩
          case measure => simp [intOf]; omega
    · have hke : k = L.length := by omega
      subst hke
      rw [List.take_length] at HS
      have HEnd : Hid (s = rlooks L q l) := HS
      go_wp2_with fail
      go_ret
      exact ⟨ret_int (by rw [HEnd.out]), HBw.out⟩
end Go.Proofs.YtaplgoachembdaaGreat.Gm
