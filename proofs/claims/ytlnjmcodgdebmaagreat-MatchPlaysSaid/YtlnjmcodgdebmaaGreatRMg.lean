/- The contract of the document's Normal. -/
import Derived.Test.YtlnjmcodgdebmaaGreatRMb
import Derived.Test.YtlnjmcodgdebmaaGreatRMd
import Derived.Test.YtlnjmcodgdebmaaGreatRMf
import Derived.Test.YtlnjmcodgdebmaaGreatHd
set_option linter.unusedSimpArgs false
set_option linter.unusedVariables false
namespace Go.Proofs.YtlnjmcodgdebmaaGreat.Gm
open Go Go.RowKit
attribute [local go_sem ↓] Go.wp_at_zero Go.wp_at_succ

theorem may_all {c : Cn} (h : mayCn c = true) : c.set.all mayVl = true ∧ c.set.length ≤ 6 := by
  have h6 := may_set h
  refine ⟨?_, h6⟩
  have h2 : mayOp c.op c.v c.set = true := by simp only [mayCn, Bool.and_eq_true] at h; exact h.2
  have none : c.set.length = 0 → c.set.all mayVl = true := fun h => by rw [List.eq_nil_of_length_eq_zero h]; rfl
  unfold mayOp at h2
  split at h2
  · simp only [Bool.and_eq_true, decide_eq_true_eq] at h2; exact none h2.2
  · split at h2
    · simp only [maySt, Bool.and_eq_true] at h2; exact h2.2.2
    · split at h2
      · simp only [Bool.and_eq_true, decide_eq_true_eq] at h2; exact none h2.2
      · split at h2
        · simp only [Bool.and_eq_true, decide_eq_true_eq] at h2; exact none h2.2
        · cases h2
theorem some1_same {w W : World} {v : Value} {l M : List Cn} {k : Nat} {c x : Cn} {sp : Option Addr} {sc : Nat} (h : Some1 w W v l k M) (hkl : k < l.length) (hx : seated c sp sc = x)
    (hF : (l.take (k + 1)).map normC = (l.take k).map normC ++ [normC c]) (hi : insL cmpC M x = M) {W2 : World} (hb : Below W.heap.size W W2) : Some1 w W2 v l (k + 1) M :=
  ⟨h.own.later hb, h.rise, by rw [hF, List.foldl_append, ← h.is]; show M.map bare = insL cmpC (M.map bare) (normC c); rw [← insL_bare M c sp sc, hx, hi], h.sets, by have := h.len; omega, h.bel.trans (hb.mono h.bel.size)⟩
theorem some1_ins {w W : World} {v : Value} {l M : List Cn} {k j : Nat} {c x : Cn} {sp : Option Addr} {sc : Nat} (h : Some1 w W v l k M) (hkl : k < l.length) (hx : seated c sp sc = x)
    (hF : (l.take (k + 1)).map normC = (l.take k).map normC ++ [normC c]) (hi : insL cmpC M x = M.take j ++ x :: M.drop j) (hcl : c.set.length ≤ 100000) {W2 : World} (hb : Below W.heap.size W W2)
    (hxo : OwnV W2 w.heap.size x.sv x.set) {B : Nat} (hB : W.heap.size ≤ B) {v2 : Value} (ho : W2.ownsRow B 45 7 v2 (M.length + 1) ((M.take j ++ x :: M.drop j).flatMap encC)) : Some1 w W2 v2 l (k + 1) (insL cmpC M x) := by
  have hlen : (M.take j ++ x :: M.drop j).length = M.length + 1 := by simp; omega
  refine ⟨⟨?_, fun d hd => ?_⟩, insL_rising weakC _ _ h.rise, ?_, ?_, by rw [hi, hlen]; have := h.len; omega, h.bel.trans (hb.mono h.bel.size)⟩
  · rw [hi, hlen]; exact own_base ho (by have := h.bel.size; omega)
  · rcases mem_insL M x d hd with hd | rfl
    · exact (h.own.2 d hd).later hb
    · exact hxo
  · rw [hF, List.foldl_append, ← h.is]; show _ = insL cmpC (M.map bare) (normC c); rw [← insL_bare M c sp sc, hx]
  · rw [← hx]; exact set_len h.sets hcl sp sc
set_option maxHeartbeats 2000000 in
set_option maxRecDepth 20000 in
theorem rnormal_no (v : Value) (l : List Cn) (w : World) (hA : Cs w v l) (h : mayPr l = false) : Calls Tryz.prog 29 #[v] w (Gives (.tuple #[.slice none 0 0, .int .i64 30]) w) := by
  obtain ⟨p, cap, rfl⟩ := hA.1.form
  have HM := rmaypr_any _ l w hA
  rw [h] at HM
  have HM := Lib.hid HM
  clear hA h
  go_enter Tryz.func29, Tryz.ntmps29
  go_wp2_with fail
  refine HM.out.mono ?_; rintro e w1 ⟨rfl, b1⟩
  go_wp2_with fail
  go_ret2
  exact ⟨rfl, b1⟩
set_option maxHeartbeats 8000000 in
set_option maxRecDepth 100000 in
theorem rnormal_yes (v : Value) (l : List Cn) (w : World) (hA : Cs w v l) (h : mayPr l = true) : Calls Tryz.prog 29 #[v] w (NormR l w) := by
  obtain ⟨i0, ii, iz0, iz1, iz2⟩ := info_parts infoC
  obtain ⟨p, cap, rfl⟩ := hA.1.form
  have HMp := rmaypr_any _ l w hA
  rw [h] at HMp
  have hl6 := (may_len h).1
  have HMall : Hid (∀ c ∈ l, mayCn c = true) := Lib.hid (by simp only [mayPr, Bool.and_eq_true, List.all_eq_true] at h; exact h.2)
  have HMp := Lib.hid HMp
  have HA := Lib.hid hA
  clear hA h
  go_enter Tryz.func29, Tryz.ntmps29
  go_wp2_with fail
  refine HMp.out.mono ?_; rintro e w0 ⟨rfl, b0⟩
  have HB0 := Lib.hid b0
  clear b0 HMp
  go_wp2_with fail
  go_loopw [4, 5] (fun out i wr => ∃ (k : Nat) (r : List Cn), k ≤ l.length ∧ i = .int .i64 k ∧ Some1 w wr out l k r) (fun _ i _ => l.length - (intOf i).toNat)
  case atStart => exact ⟨0, [], Nat.zero_le _, rfl, ⟨OwnC.nil _ _, .nil, rfl, fun d hd => by simp at hd, Nat.le_refl _, HB0.out⟩⟩
  case round =>
    obtain ⟨k, M, hk, rfl, hS1⟩ := hrel
    obtain ⟨wb, rfl⟩ : ∃ wb, wb = wr := ⟨_, rfl⟩
    obtain ⟨pI, capI, rfl⟩ := own_shape hS1.own.1
    have HS1 := Lib.hid hS1
    clear hS1
    by_cases hkl : k < l.length
    · obtain ⟨p1, cap1, b, o, hv, hp, hb, h4⟩ := seven_at HA.out.1 hkl
      simp only [Value.slice.injEq] at hv
      obtain ⟨rfl, _, rfl⟩ := hv
      have hidx := idx_c3 p b o l.length cap k hp hkl
      obtain ⟨c0, c1, c2, c3, c4, c5, c6⟩ := h4.later HS1.out.bel
      have HSt := Lib.hid ((HA.out.at hkl).later HS1.out.bel)
      have HMc := Lib.hid (may_all (HMall.out _ (getD_mem hkl)))
      have HF : Hid ((l.take (k + 1)).map normC = (l.take k).map normC ++ [normC (l.getD k default)]) := Lib.hid (by
        rw [List.take_succ_eq_append_getElem hkl, List.map_append, List.getD_eq_getElem?_getD, List.getElem?_eq_getElem hkl]; rfl)
      obtain ⟨c, hx⟩ : ∃ c, l.getD k default = c := ⟨_, rfl⟩
      rw [hx] at c0 c1 c2 c3 c4 c5 c6 HSt HF HMc
      have HSl : Hid (c.set.length ≤ 100000) := Lib.hid (by have := HMc.out.2; omega)
      obtain ⟨W0, hW0⟩ : ∃ W0, W0 = wb.alloc (.cells #[.string c.nm, .int .i64 c.op, .int .i64 c.v.k, .int .i64 c.v.n, .string c.v.s, .bool c.v.b, .slice c.sp c.set.length c.sc] 45) := ⟨_, rfl⟩
      have hB0 : Below wb.heap.size wb W0 := by rw [hW0]; exact below_one _ _
      have hz0 : W0.heap.size = wb.heap.size + 1 := by rw [hW0]; simp
      have hxb : Blk W0 wb.heap.size 45 #[.string c.nm, .int .i64 c.op, .int .i64 c.v.k, .int .i64 c.v.n, .string c.v.s, .bool c.v.b, .slice c.sp c.set.length c.sc] := by rw [hW0]; exact Blk.new _ _ _
      have HG := Lib.hid (rset_any c.sv c.set W0 (HSt.out.later hB0) (by have := HMc.out.2; omega) HMc.out.1)
      have hx6 := hxb.cell 6 rfl
      have HBw := Lib.hid hB0
      have HXb := Lib.hid hxb
      have HW0 := Lib.hid hW0
      have HZ0 := Lib.hid hz0
      clear hx hp h4 hb hB0 hxb hW0 hz0 HSt
      go_wp2_with (rw [← HW0.out])
      refine HG.out.mono ?_; rintro e w1 ⟨sp, sc, rfl, hS, b1⟩
      have HSle : Hid ((sortL cmpW c.set).length ≤ 100000) := Lib.hid (Nat.le_trans (sortL_length _) HSl.out)
      have hX1 := HXb.out.later b1
      have q6 := hX1.cell 6 rfl
      have f6 := hX1.free 6
      have HS := Lib.hid hS
      have HX1 := Lib.hid hX1
      have HB1 := Lib.hid (then_ HBw.out b1)
      obtain ⟨S, hSS⟩ : ∃ S, sortL cmpW c.set = S := ⟨_, rfl⟩
      have HSe : Hid (seated c sp sc = ⟨c.nm, c.op, c.v, sp, sc, S⟩) := Lib.hid (by rw [← hSS]; rfl)
      rw [hSS] at HSle HS ⊢
      clear hS hX1 b1 hSS hx6 c0 c1 c2 c3 c4 c5 c6 HG
      obtain ⟨wo, hW2⟩ : ∃ wo, wo = w1.setCell ⟨wb.heap.size, 6, none⟩ (.slice sp S.length sc) := ⟨_, rfl⟩
      have hX2 : Blk wo wb.heap.size 45 #[.string c.nm, .int .i64 c.op, .int .i64 c.v.k, .int .i64 c.v.n, .string c.v.s, .bool c.v.b, .slice sp S.length sc] := by
        rw [hW2]; exact setCell_block HX1.out (by simp) _
      have HBo : Hid (Below wb.heap.size wb wo) := Lib.hid (by rw [hW2]; exact HB1.out.setCell (Nat.le_refl _) _)
      have hS2 : OwnV wo (wb.heap.size + 1) (.slice sp S.length sc) S := by
        rw [hW2]
        have h := HS.out
        rw [HZ0.out] at h
        exact World.ownsRow.kept h (grown_set (grown_below (Below.refl _ w1) (some wb.heap.size)) _) (by
          by_cases hn : (Value.slice sp S.length sc).ownBlock = none
          · exact .inl hn
          · right; intro he; have := (World.ownsRow.lt h _ he).1; omega)
      have HW2 := Lib.hid hW2
      clear hW2
      go_wp2_with (rw [← HW2.out])
      obtain ⟨x, hxe⟩ : ∃ x : Cn, (⟨c.nm, c.op, c.v, sp, sc, S⟩ : Cn) = x := ⟨_, rfl⟩
      have HXs : Hid (seated c sp sc = x) := Lib.hid (HSe.out.trans hxe)
      have HX2 : Hid (Blk wo wb.heap.size 45 (celC x)) := Lib.hid (by rw [← hxe]; exact hX2)
      have HXo : Hid (OwnV wo w.heap.size x.sv x.set) := Lib.hid (by rw [← hxe]; exact hS2.base (by have := HS1.out.bel.size; omega))
      have HXl : Hid (x.set.length ≤ 100000) := Lib.hid (by rw [← hxe]; exact HSle.out)
      have HXv := Lib.hid (HXo.out.vs (by have := HXl.out; omega))
      have hO2 := HS1.out.own.later HBo.out
      have hml := HS1.out.len
      have HV := Lib.hid (hO2.cs (by omega) (fun d hd => by have := HS1.out.sets d hd; omega))
      clear hxe hX2 hS2 hO2 q6 f6 HX1 HB1 HS HSe HSle HW2 HXb HBw HW0
      go_loopw [7] (fun i wr => ∃ j : Nat, j ≤ M.length ∧ i = .int .i64 j ∧ Hid (∀ t, t < j → cmpC (M.getD t default) x < 0) ∧ Hid (Below wo.heap.size wo wr)) (fun i _ => M.length - (intOf i).toNat)
      case atStart => exact ⟨0, Nat.zero_le _, rfl, Lib.hid (fun t ht => absurd ht (Nat.not_lt_zero t)), Lib.hid (Below.refl _ _)⟩
      case round =>
        obtain ⟨j, hj, rfl, HT, HB1⟩ := hrel
        by_cases hjl : j < M.length
        · obtain ⟨p2, cap2, b2, o2, hv2, hp2, hb2, hd4⟩ := seven_at HV.out.1 hjl
          simp only [Value.slice.injEq] at hv2
          obtain ⟨rfl, _, rfl⟩ := hv2
          have hidx2 := idx_c3 pI b2 o2 M.length capI j hp2 hjl
          have HAt := Lib.hid (insL_at (f := cmpC) M x j hj HT.out)
          have HN := Lib.hid (fun h => below_next (P := fun t => cmpC (M.getD t default) x < 0) HT.out h)
          have HVy := Lib.hid (HV.out.at hjl)
          obtain ⟨y, hy⟩ : ∃ y, M.getD j default = y := ⟨_, rfl⟩
          rw [hy] at hd4 HAt HN HVy
          have D4 := Lib.hid hd4
          have HC := Lib.hid (fun W (h : Below wo.heap.size wo W) => order_any y x W (HVy.out.later h) (HXv.out.later h))
          obtain ⟨r, hr⟩ : ∃ r, cmpC y x = r := ⟨_, rfl⟩
          rw [hr] at HC HAt HN
          clear hr hy hp2 hb2 hd4 HVy
          have hc := HX2.out.later HB1.out
          have hd4 := D4.out.later HB1.out
          have c0 := fun (z : Later wr) => Later.cell (hc.cell 0 rfl) z
          have c1 := fun (z : Later wr) => Later.cell (hc.cell 1 rfl) z
          have c2 := fun (z : Later wr) => Later.cell (hc.cell 2 rfl) z
          have c3 := fun (z : Later wr) => Later.cell (hc.cell 3 rfl) z
          have c4 := fun (z : Later wr) => Later.cell (hc.cell 4 rfl) z
          have c5 := fun (z : Later wr) => Later.cell (hc.cell 5 rfl) z
          have c6 := fun (z : Later wr) => Later.cell (hc.cell 6 rfl) z
          have d0 := fun (z : Later wr) => Later.cell hd4.1 z
          have d1 := fun (z : Later wr) => Later.cell hd4.2.1 z
          have d2 := fun (z : Later wr) => Later.cell hd4.2.2.1 z
          have d3 := fun (z : Later wr) => Later.cell hd4.2.2.2.1 z
          have d4 := fun (z : Later wr) => Later.cell hd4.2.2.2.2.1 z
          have d5 := fun (z : Later wr) => Later.cell hd4.2.2.2.2.2.1 z
          have d6 := fun (z : Later wr) => Later.cell hd4.2.2.2.2.2.2 z
          clear hc hd4
          by_cases hlt : r < 0
          · have HT1 := Lib.hid (HN.out hlt)
            have e1 : decide (r < 0) = true := by simpa using hlt
            clear hlt
            go_wp2_with fail
            refine wp_region_later (by kernel_rfl) (by kernel_rfl) ?_
            repeat (quiet_step ((first | (go_at_call 48; exact later_call _ (HC.out _ (then_ HB1.out (Later.bel _)))))))
            refine wpQuiet_nil ?_
            intro wz hw'
            obtain ⟨⟨_, hbz⟩, rfl⟩ := hw'
            have HBz := Lib.hid (then_ HB1.out hbz)
            clear hbz
            clear c0 d0 c1 d1 c2 d2 c3 d3 c4 d4 c5 d5 c6 d6
            go_wp2_with fail
            go_roundw
            case rel => exact ⟨j + 1, by omega, by simp, HT1, HBz⟩
            case measure => simp [intOf]; omega
          · have e1 : decide (r < 0) = false := by simpa using hlt
            by_cases hz : r = 0
            · have HIns : Hid (insL cmpC M x = M) := Lib.hid ((HAt.out fun _ => hlt).1 hjl hz)
              have e3 : (r == 0) = true := by simpa using hz
              clear hz hlt
              go_wp2_with fail
              refine wp_region_later (by kernel_rfl) (by kernel_rfl) ?_
              repeat (quiet_step ((first | (go_at_call 48; exact later_call _ (HC.out _ (then_ HB1.out (Later.bel _)))))))
              refine wpQuiet_nil ?_
              intro wy hw'
              obtain ⟨⟨_, hbz⟩, rfl⟩ := hw'
              have HBy := Lib.hid (then_ HB1.out hbz)
              clear hbz
              clear c0 d0 c1 d1 c2 d2 c3 d3 c4 d4 c5 d5 c6 d6
              have hc := HX2.out.later HBy.out
              have hd4 := D4.out.later HBy.out
              have c0 := fun (z : Later wy) => Later.cell (hc.cell 0 rfl) z
              have c1 := fun (z : Later wy) => Later.cell (hc.cell 1 rfl) z
              have c2 := fun (z : Later wy) => Later.cell (hc.cell 2 rfl) z
              have c3 := fun (z : Later wy) => Later.cell (hc.cell 3 rfl) z
              have c4 := fun (z : Later wy) => Later.cell (hc.cell 4 rfl) z
              have c5 := fun (z : Later wy) => Later.cell (hc.cell 5 rfl) z
              have c6 := fun (z : Later wy) => Later.cell (hc.cell 6 rfl) z
              have d0 := fun (z : Later wy) => Later.cell hd4.1 z
              have d1 := fun (z : Later wy) => Later.cell hd4.2.1 z
              have d2 := fun (z : Later wy) => Later.cell hd4.2.2.1 z
              have d3 := fun (z : Later wy) => Later.cell hd4.2.2.2.1 z
              have d4 := fun (z : Later wy) => Later.cell hd4.2.2.2.2.1 z
              have d5 := fun (z : Later wy) => Later.cell hd4.2.2.2.2.2.1 z
              have d6 := fun (z : Later wy) => Later.cell hd4.2.2.2.2.2.2 z
              clear hc hd4
              go_wp2_with fail
              refine wp_region_later (by kernel_rfl) (by kernel_rfl) ?_
              repeat (quiet_step ((first | (go_at_call 48; exact later_call _ (HC.out _ (then_ HBy.out (Later.bel _)))))))
              refine wpQuiet_nil ?_
              intro wz hw'
              obtain ⟨⟨_, hbz⟩, rfl⟩ := hw'
              have HBz := Lib.hid (then_ HBy.out hbz)
              clear hbz HC
              clear c0 d0 c1 d1 c2 d2 c3 d3 c4 d4 c5 d5 c6 d6
              go_wp2_with fail
              have HS2 : Hid (Some1 w wz (.slice pI M.length capI) l (k + 1) M) := Lib.hid (some1_same HS1.out hkl HXs.out HF.out HIns.out (then_ HBo.out HBz.out))
              go_roundw
              case rel => exact ⟨k + 1, M, by omega, by simp, HS2.out⟩
              case measure => simp [intOf]; omega
            · have HIns : Hid (insL cmpC M x = M.take j ++ x :: M.drop j) := Lib.hid ((HAt.out fun _ => hlt).2 fun _ => hz)
              have e3 : (r == 0) = false := by simpa using hz
              clear hz hlt
              go_wp2_with fail
              refine wp_region_later (by kernel_rfl) (by kernel_rfl) ?_
              repeat (quiet_step ((first | (go_at_call 48; exact later_call _ (HC.out _ (then_ HB1.out (Later.bel _)))))))
              refine wpQuiet_nil ?_
              intro wy hw'
              obtain ⟨⟨_, hbz⟩, rfl⟩ := hw'
              have HBy := Lib.hid (then_ HB1.out hbz)
              clear hbz
              clear c0 d0 c1 d1 c2 d2 c3 d3 c4 d4 c5 d5 c6 d6
              have hc := HX2.out.later HBy.out
              have hd4 := D4.out.later HBy.out
              have c0 := fun (z : Later wy) => Later.cell (hc.cell 0 rfl) z
              have c1 := fun (z : Later wy) => Later.cell (hc.cell 1 rfl) z
              have c2 := fun (z : Later wy) => Later.cell (hc.cell 2 rfl) z
              have c3 := fun (z : Later wy) => Later.cell (hc.cell 3 rfl) z
              have c4 := fun (z : Later wy) => Later.cell (hc.cell 4 rfl) z
              have c5 := fun (z : Later wy) => Later.cell (hc.cell 5 rfl) z
              have c6 := fun (z : Later wy) => Later.cell (hc.cell 6 rfl) z
              have d0 := fun (z : Later wy) => Later.cell hd4.1 z
              have d1 := fun (z : Later wy) => Later.cell hd4.2.1 z
              have d2 := fun (z : Later wy) => Later.cell hd4.2.2.1 z
              have d3 := fun (z : Later wy) => Later.cell hd4.2.2.2.1 z
              have d4 := fun (z : Later wy) => Later.cell hd4.2.2.2.2.1 z
              have d5 := fun (z : Later wy) => Later.cell hd4.2.2.2.2.2.1 z
              have d6 := fun (z : Later wy) => Later.cell hd4.2.2.2.2.2.2 z
              clear hc hd4
              go_wp2_with fail
              refine wp_region_later (by kernel_rfl) (by kernel_rfl) ?_
              repeat (quiet_step ((first | (go_at_call 48; exact later_call _ (HC.out _ (then_ HBy.out (Later.bel _)))))))
              refine wpQuiet_nil ?_
              intro wz hw'
              obtain ⟨⟨_, hbz⟩, rfl⟩ := hw'
              have HBz := Lib.hid (then_ HBy.out hbz)
              clear hbz HC
              clear c0 d0 c1 d1 c2 d2 c3 d3 c4 d4 c5 d5 c6 d6
              have HVz := Lib.hid (HV.out.later HBz.out)
              have hro := row_room HVz.out.1
              have hs1 := fun W => slice_pre_c pI M.length capI j hj hro.1 hro.2 W
              have hs2 := fun W => slice_suf_c pI M.length capI j hj hro.1 hro.2 W
              have HSa := Lib.hid (row_src (by decide) encC_length encC_one (row_pre hj HVz.out.1))
              rw [show (M.take j).length = j by rw [List.length_take, Nat.min_eq_left hj]] at HSa
              have HLz := Lib.hid (HX2.out.later HBz.out)
              clear hro
              go_wp2_with (first | (at_builtin; refine wpList_append_src (by rfl) _ _ 31 (by rfl) wz.heap.size 45 i0 (.agg #[.string ⟨#[]⟩, .int .i64 0, .int .i64 0, .int .i64 0, .string ⟨#[]⟩, .bool false, .slice none 0 0]) 7 88 Tryz.underlying31 ii iz0 iz1 iz2 rfl (by decide) (.slice none 0 0) 0 [] (by rfl) (World.ownsRow_nil _ _ _ _) _ j ((M.take j).flatMap encC) (by rfl) HSa.out j (by omega) (by unfold maxLen; omega) (by omega) (Nat.le_refl _) ?_; intro pA capA w3 hown3 hgrow3; rw [List.nil_append] at hown3; have HO3 := Lib.hid hown3; have HB3 := Lib.hid ((Below.refl _ wz).grown hgrow3 (Nat.le_refl _) (fun t ht => by simp [Value.ownBlock] at ht)); have h44 := HLz.out.later HB3.out; have x0 := h44.cell 0 rfl; have x1 := h44.cell 1 rfl; have x2 := h44.cell 2 rfl; have x3 := h44.cell 3 rfl; have x4 := h44.cell 4 rfl; have x5 := h44.cell 5 rfl; have x6 := h44.cell 6 rfl; have hz3 := HB3.out.size; clear hown3 hgrow3 h44 HSa) | (at_builtin; refine wpList_append_src (by rfl) _ _ 31 (by rfl) wz.heap.size 45 i0 (.agg #[.string ⟨#[]⟩, .int .i64 0, .int .i64 0, .int .i64 0, .string ⟨#[]⟩, .bool false, .slice none 0 0]) 7 88 Tryz.underlying31 ii iz0 iz1 iz2 rfl (by decide) _ _ _ (by rfl) (World.ownsRow.alloc HO3.out (.cells (celC x) 45)) _ 1 (encC x) (by rfl) (.inr ⟨_, _, by rfl, by rfl, fun t u hu => by rw [add_lit, Nat.zero_add]; exact (Blk.new w3 _ _).cell t (by simpa [encC] using hu), encC_one x⟩) (j + 1) rfl (by unfold maxLen; omega) (by omega) (by simp; omega) ?_; intro pB capB w4 hown4 hgrow4; have HO4 := Lib.hid hown4; have HB4 := Lib.hid ((HB3.out.alloc HB3.out.size (.cells (celC x) 45)).grown hgrow4 (by simp; omega) (fun t ht => (World.ownsRow.lt HO3.out t (by simpa [Value.ownBlock] using ht)).1)); have HSb := Lib.hid (row_src (by decide) encC_length encC_one (row_suf hj (HVz.out.later HB4.out).1)); have hz4 := HB4.out.size; rw [List.length_drop] at HSb; clear hown4 hgrow4) | (at_builtin; refine wpList_append_src (by rfl) _ _ 31 (by rfl) wz.heap.size 45 i0 (.agg #[.string ⟨#[]⟩, .int .i64 0, .int .i64 0, .int .i64 0, .string ⟨#[]⟩, .bool false, .slice none 0 0]) 7 88 Tryz.underlying31 ii iz0 iz1 iz2 rfl (by decide) _ _ _ (by rfl) HO4.out _ (M.length - j) ((M.drop j).flatMap encC) (by rfl) HSb.out (M.length + 1) (by omega) (by unfold maxLen; omega) (by omega) hz4 ?_; intro pC capC w5 hown5 hgrow5; have HO5 := Lib.hid hown5; have HB5 := Lib.hid (HB4.out.grown hgrow5 HB4.out.size (fun t ht => (World.ownsRow.lt HO4.out t ht).1)); clear hown5 hgrow5 HSb))
              have HS2 : Hid (Some1 w w5 (.slice pC (M.length + 1) capC) l (k + 1) (insL cmpC M x)) := Lib.hid (some1_ins HS1.out hkl HXs.out HF.out HIns.out HSl.out (then_ HBo.out (then_ HBz.out HB5.out)) (HXo.out.later (then_ HBz.out HB5.out)) (Nat.le_trans HBo.out.size HBz.out.size) (by simpa using HO5.out))
              go_roundw
              case rel => exact ⟨k + 1, _, by omega, by simp, HS2.out⟩
              case measure => simp [intOf]; omega
        · have hje : j = M.length := by omega
          have HIns : Hid (insL cmpC M x = M.take j ++ x :: M.drop j) := Lib.hid ((insL_at (f := cmpC) M x j hj HT.out (fun h => absurd h hjl)).2 (fun h => absurd h hjl))
          have e1 : decide ((j : Int) < (M.length : Int)) = false := by simp; omega
          clear hje
          go_wp2_with fail
          go_quiet (fail)
          obtain ⟨wy, hwy⟩ : ∃ wy, wy = wr.drewN nq := ⟨_, rfl⟩
          have HBy : Hid (Below wo.heap.size wo wy) := Lib.hid (by rw [hwy]; exact bel_drewN HB1.out _)
          rw [← hwy]
          clear hwy nq
          go_wp2_with fail
          go_quiet (fail)
          obtain ⟨wz, hwz⟩ : ∃ wz, wz = wy.drewN nq := ⟨_, rfl⟩
          have HBz : Hid (Below wo.heap.size wo wz) := Lib.hid (by rw [hwz]; exact bel_drewN HBy.out _)
          rw [← hwz]
          clear hwz
          have HVz := Lib.hid (HV.out.later HBz.out)
          have hro := row_room HVz.out.1
          have hs1 := fun W => slice_pre_c pI M.length capI j hj hro.1 hro.2 W
          have hs2 := fun W => slice_suf_c pI M.length capI j hj hro.1 hro.2 W
          have HSa := Lib.hid (row_src (by decide) encC_length encC_one (row_pre hj HVz.out.1))
          rw [show (M.take j).length = j by rw [List.length_take, Nat.min_eq_left hj]] at HSa
          have HLz := Lib.hid (HX2.out.later HBz.out)
          clear hro
          go_wp2_with (first | (at_builtin; refine wpList_append_src (by rfl) _ _ 31 (by rfl) wz.heap.size 45 i0 (.agg #[.string ⟨#[]⟩, .int .i64 0, .int .i64 0, .int .i64 0, .string ⟨#[]⟩, .bool false, .slice none 0 0]) 7 88 Tryz.underlying31 ii iz0 iz1 iz2 rfl (by decide) (.slice none 0 0) 0 [] (by rfl) (World.ownsRow_nil _ _ _ _) _ j ((M.take j).flatMap encC) (by rfl) HSa.out j (by omega) (by unfold maxLen; omega) (by omega) (Nat.le_refl _) ?_; intro pA capA w3 hown3 hgrow3; rw [List.nil_append] at hown3; have HO3 := Lib.hid hown3; have HB3 := Lib.hid ((Below.refl _ wz).grown hgrow3 (Nat.le_refl _) (fun t ht => by simp [Value.ownBlock] at ht)); have h44 := HLz.out.later HB3.out; have x0 := h44.cell 0 rfl; have x1 := h44.cell 1 rfl; have x2 := h44.cell 2 rfl; have x3 := h44.cell 3 rfl; have x4 := h44.cell 4 rfl; have x5 := h44.cell 5 rfl; have x6 := h44.cell 6 rfl; have hz3 := HB3.out.size; clear hown3 hgrow3 h44 HSa) | (at_builtin; refine wpList_append_src (by rfl) _ _ 31 (by rfl) wz.heap.size 45 i0 (.agg #[.string ⟨#[]⟩, .int .i64 0, .int .i64 0, .int .i64 0, .string ⟨#[]⟩, .bool false, .slice none 0 0]) 7 88 Tryz.underlying31 ii iz0 iz1 iz2 rfl (by decide) _ _ _ (by rfl) (World.ownsRow.alloc HO3.out (.cells (celC x) 45)) _ 1 (encC x) (by rfl) (.inr ⟨_, _, by rfl, by rfl, fun t u hu => by rw [add_lit, Nat.zero_add]; exact (Blk.new w3 _ _).cell t (by simpa [encC] using hu), encC_one x⟩) (j + 1) rfl (by unfold maxLen; omega) (by omega) (by simp; omega) ?_; intro pB capB w4 hown4 hgrow4; have HO4 := Lib.hid hown4; have HB4 := Lib.hid ((HB3.out.alloc HB3.out.size (.cells (celC x) 45)).grown hgrow4 (by simp; omega) (fun t ht => (World.ownsRow.lt HO3.out t (by simpa [Value.ownBlock] using ht)).1)); have HSb := Lib.hid (row_src (by decide) encC_length encC_one (row_suf hj (HVz.out.later HB4.out).1)); have hz4 := HB4.out.size; rw [List.length_drop] at HSb; clear hown4 hgrow4) | (at_builtin; refine wpList_append_src (by rfl) _ _ 31 (by rfl) wz.heap.size 45 i0 (.agg #[.string ⟨#[]⟩, .int .i64 0, .int .i64 0, .int .i64 0, .string ⟨#[]⟩, .bool false, .slice none 0 0]) 7 88 Tryz.underlying31 ii iz0 iz1 iz2 rfl (by decide) _ _ _ (by rfl) HO4.out _ (M.length - j) ((M.drop j).flatMap encC) (by rfl) HSb.out (M.length + 1) (by omega) (by unfold maxLen; omega) (by omega) hz4 ?_; intro pC capC w5 hown5 hgrow5; have HO5 := Lib.hid hown5; have HB5 := Lib.hid (HB4.out.grown hgrow5 HB4.out.size (fun t ht => (World.ownsRow.lt HO4.out t ht).1)); clear hown5 hgrow5 HSb))
          have HS2 : Hid (Some1 w w5 (.slice pC (M.length + 1) capC) l (k + 1) (insL cmpC M x)) := Lib.hid (some1_ins HS1.out hkl HXs.out HF.out HIns.out HSl.out (then_ HBo.out (then_ HBz.out HB5.out)) (HXo.out.later (then_ HBz.out HB5.out)) (Nat.le_trans HBo.out.size HBz.out.size) (by simpa using HO5.out))
          go_roundw
          case rel => exact ⟨k + 1, _, by omega, by simp, HS2.out⟩
          case measure => simp [intOf]; omega
    · have hke : k = l.length := by omega
      subst hke
      go_wp2
      go_ret2
      exact ⟨pI, capI, M, rfl, ⟨HS1.out.own, HS1.out.rise, by rw [HS1.out.is, List.take_length]; rfl, HS1.out.sets, HS1.out.len, HS1.out.bel⟩⟩
end Go.Proofs.YtlnjmcodgdebmaaGreat.Gm
