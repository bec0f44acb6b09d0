/- The contract of the document's set: values in order, each once. -/
import Derived.Test.YtlnjmcodgdebmaaGreatRMe
import Derived.Test.YtlnjmcodgdebmaaGreatRMa
import Derived.Test.YtlnjmcodgdebmaaGreatKc
import Derived.Test.YtlnjmcodgdebmaaGreatKf
set_option linter.unusedSimpArgs false
set_option linter.unusedVariables false
namespace Go.Proofs.YtlnjmcodgdebmaaGreat.Gm
open Go Go.RowKit
attribute [local go_sem ↓] Go.wp_at_zero Go.wp_at_succ

theorem may_fold {l : List Vl} (h : l.all mayVl = true) (k : Nat) : ∀ y ∈ (l.take k).foldl (insL cmpW) [], mayVl y = true := by
  intro y hy
  rcases foldl_mem (l.take k) [] y hy with hy | hy
  · exact List.all_eq_true.1 h y (List.mem_of_mem_take hy)
  · simp at hy
theorem getD_mem {α : Type} [Inhabited α] {l : List α} {k : Nat} (h : k < l.length) : l.getD k default ∈ l := by
  rw [List.getD_eq_getElem?_getD, List.getElem?_eq_getElem h]; exact List.getElem_mem h
theorem below_next {P : Nat → Prop} {j : Nat} (h : ∀ t, t < j → P t) (hj : P j) : ∀ t, t < j + 1 → P t := by
  intro t ht
  by_cases e : t = j
  · rw [e]; exact hj
  · exact h t (by omega)
set_option maxHeartbeats 8000000 in
set_option maxRecDepth 100000 in
theorem rset_any (v : Value) (l : List Vl) (w : World) (hA : Vs w v l) (hl : l.length ≤ 100) (hm : l.all mayVl = true) : Calls Tryz.prog 47 #[v] w (GathV l w) := by
  obtain ⟨j0, ji, jz0, jz1, jz2⟩ := info_parts infoV
  obtain ⟨p, cap, rfl⟩ := hA.1.form
  have HA := Lib.hid hA
  have HM := Lib.hid hm
  clear hA hm
  go_enter Tryz.func47, Tryz.ntmps47
  go_wp2
  go_loopw [3, 4, 5, 6] (fun out i _ _ wr => ∃ k : Nat, k ≤ l.length ∧ i = .int .i64 k ∧ Hid (OwnV wr w.heap.size out ((l.take k).foldl (insL cmpW) [])) ∧ Hid (Below w.heap.size w wr)) (fun _ i _ _ _ => l.length - (intOf i).toNat)
  case atStart => exact ⟨0, Nat.zero_le _, rfl, Lib.hid (OwnV.nil _ _), Lib.hid (Below.refl _ _)⟩
  case round =>
    obtain ⟨k, hk, rfl, HO, HBel⟩ := hrel
    obtain ⟨pI, capI, rfl⟩ := own_shape HO.out
    by_cases hkl : k < l.length
    · obtain ⟨p1, cap1, b, o, hv, hp, hb, h4⟩ := four_at (HA.out.later HBel.out).1 hkl
      simp only [Value.slice.injEq] at hv
      obtain ⟨rfl, _, rfl⟩ := hv
      have hidx := idx_v1 p b o l.length cap k hp hkl
      have HF := Lib.hid (fold_step (f := insL cmpW) (a := []) hkl)
      have hml := take_len (f := cmpW) l k
      have HMm := Lib.hid (may_fold HM.out k)
      have hmx := List.all_eq_true.1 HM.out _ (getD_mem hkl)
      obtain ⟨M, hM⟩ : ∃ M, (l.take k).foldl (insL cmpW) [] = M := ⟨_, rfl⟩
      rw [hM] at HO HF hml HMm ⊢
      obtain ⟨x, hx⟩ : ∃ x, l.getD k default = x := ⟨_, rfl⟩
      rw [hx] at h4 HF hmx
      obtain ⟨wo, hwo⟩ : ∃ wo : World, wo = wr := ⟨_, rfl⟩
      rw [← hwo] at HO HBel h4 ⊢
      have H4 := Lib.hid h4
      have HMx := Lib.hid hmx
      have HV := Lib.hid (OwnV.vs HO.out (by omega))
      clear hM hx hp h4 hb hwo wr hmx
      go_wp2_with fail
      go_loopw [5] (fun i wr => ∃ j : Nat, j ≤ M.length ∧ i = .int .i64 j ∧ Hid (∀ t, t < j → cmpW (M.getD t default) x < 0) ∧ Hid (Below wo.heap.size wo wr)) (fun i _ => M.length - (intOf i).toNat)
      case atStart => exact ⟨0, Nat.zero_le _, rfl, Lib.hid (fun t ht => absurd ht (Nat.not_lt_zero t)), Lib.hid (Below.refl _ _)⟩
      case round =>
        obtain ⟨j, hj, rfl, HT, HB1⟩ := hrel
        by_cases hjl : j < M.length
        · obtain ⟨p2, cap2, b2, o2, hv2, hp2, hb2, hd4⟩ := four_at HV.out.1 hjl
          simp only [Value.slice.injEq] at hv2
          obtain ⟨rfl, _, rfl⟩ := hv2
          have hidx2 := idx_v1 pI b2 o2 M.length capI j hp2 hjl
          have HAt := Lib.hid (insL_at (f := cmpW) M x j hj HT.out)
          have hmy := HMm.out _ (getD_mem hjl)
          have HN := Lib.hid (fun h => below_next (P := fun t => cmpW (M.getD t default) x < 0) HT.out h)
          obtain ⟨y, hy⟩ : ∃ y, M.getD j default = y := ⟨_, rfl⟩
          rw [hy] at hd4 HAt hmy HN
          have D4 := Lib.hid hd4
          have HC := Lib.hid (fun W => refcmp_any y.k y.n y.s y.b x.k x.n x.s x.b W)
          rw [← cmpW_may y x hmy HMx.out] at HC
          obtain ⟨r, hr⟩ : ∃ r, cmpW y x = r := ⟨_, rfl⟩
          rw [hr] at HC HAt HN
          clear hr hy hp2 hb2 hmy hd4
          have hc4 := H4.out.later HB1.out
          have hd4 := D4.out.later HB1.out
          have c0 := fun (z : Later wr) => Later.cell hc4.1 z
          have c1 := fun (z : Later wr) => Later.cell hc4.2.1 z
          have c2 := fun (z : Later wr) => Later.cell hc4.2.2.1 z
          have c3 := fun (z : Later wr) => Later.cell hc4.2.2.2 z
          have d0 := fun (z : Later wr) => Later.cell hd4.1 z
          have d1 := fun (z : Later wr) => Later.cell hd4.2.1 z
          have d2 := fun (z : Later wr) => Later.cell hd4.2.2.1 z
          have d3 := fun (z : Later wr) => Later.cell hd4.2.2.2 z
          clear hc4 hd4
          by_cases hlt : r < 0
          · have HT1 := Lib.hid (HN.out hlt)
            have e1 : decide (r < 0) = true := by simpa using hlt
            clear hlt
            go_wp2_with fail
            refine wp_region_later (by kernel_rfl) (by kernel_rfl) ?_
            repeat (quiet_step ((first | (go_at_call 65; exact later_call _ (HC.out _)))))
            refine wpQuiet_nil ?_
            intro wz hw'
            obtain ⟨⟨_, hbz⟩, rfl⟩ := hw'
            have HBz := Lib.hid (then_ HB1.out hbz)
            clear hbz c0 c1 c2 c3 d0 d1 d2 d3
            go_wp2_with fail
            go_roundw
            case rel => exact ⟨j + 1, by omega, by simp, HT1, HBz⟩
            case measure => simp [intOf]; omega
          · have e1 : decide (r < 0) = false := by simpa using hlt
            by_cases hz : r = 0
            · have HIns : Hid (insL cmpW M x = M) := Lib.hid ((HAt.out fun _ => hlt).1 hjl hz)
              have e3 : (r == 0) = true := by simpa using hz
              clear hz hlt
              go_wp2_with fail
              refine wp_region_later (by kernel_rfl) (by kernel_rfl) ?_
              repeat (quiet_step ((first | (go_at_call 65; exact later_call _ (HC.out _)))))
              refine wpQuiet_nil ?_
              intro wy hw'
              obtain ⟨⟨_, hbz⟩, rfl⟩ := hw'
              have HBy := Lib.hid (then_ HB1.out hbz)
              clear hbz
              clear c0 c1 c2 c3 d0 d1 d2 d3
              have hc4 := H4.out.later HBy.out
              have hd4 := D4.out.later HBy.out
              have c0 := fun (z : Later wy) => Later.cell hc4.1 z
              have c1 := fun (z : Later wy) => Later.cell hc4.2.1 z
              have c2 := fun (z : Later wy) => Later.cell hc4.2.2.1 z
              have c3 := fun (z : Later wy) => Later.cell hc4.2.2.2 z
              have d0 := fun (z : Later wy) => Later.cell hd4.1 z
              have d1 := fun (z : Later wy) => Later.cell hd4.2.1 z
              have d2 := fun (z : Later wy) => Later.cell hd4.2.2.1 z
              have d3 := fun (z : Later wy) => Later.cell hd4.2.2.2 z
              clear hc4 hd4
              go_wp2_with fail
              refine wp_region_later (by kernel_rfl) (by kernel_rfl) ?_
              repeat (quiet_step ((first | (go_at_call 65; exact later_call _ (HC.out _)))))
              refine wpQuiet_nil ?_
              intro wz hw'
              obtain ⟨⟨_, hbz⟩, rfl⟩ := hw'
              have HBz := Lib.hid (then_ HBy.out hbz)
              clear hbz HC
              clear c0 c1 c2 c3 d0 d1 d2 d3
              go_wp2_with fail
              go_roundw
              case rel => exact ⟨k + 1, by omega, by simp, Lib.hid (by rw [HF.out, HIns.out]; exact HO.out.later HBz.out), Lib.hid (then_ HBel.out HBz.out)⟩
              case measure => simp [intOf]; omega
            · have HIns : Hid (insL cmpW M x = M.take j ++ x :: M.drop j) := Lib.hid ((HAt.out fun _ => hlt).2 fun _ => hz)
              have e3 : (r == 0) = false := by simpa using hz
              clear hz hlt
              go_wp2_with fail
              refine wp_region_later (by kernel_rfl) (by kernel_rfl) ?_
              repeat (quiet_step ((first | (go_at_call 65; exact later_call _ (HC.out _)))))
              refine wpQuiet_nil ?_
              intro wy hw'
              obtain ⟨⟨_, hbz⟩, rfl⟩ := hw'
              have HBy := Lib.hid (then_ HB1.out hbz)
              clear hbz
              clear c0 c1 c2 c3 d0 d1 d2 d3
              have hc4 := H4.out.later HBy.out
              have hd4 := D4.out.later HBy.out
              have c0 := fun (z : Later wy) => Later.cell hc4.1 z
              have c1 := fun (z : Later wy) => Later.cell hc4.2.1 z
              have c2 := fun (z : Later wy) => Later.cell hc4.2.2.1 z
              have c3 := fun (z : Later wy) => Later.cell hc4.2.2.2 z
              have d0 := fun (z : Later wy) => Later.cell hd4.1 z
              have d1 := fun (z : Later wy) => Later.cell hd4.2.1 z
              have d2 := fun (z : Later wy) => Later.cell hd4.2.2.1 z
              have d3 := fun (z : Later wy) => Later.cell hd4.2.2.2 z
              clear hc4 hd4
              go_wp2_with fail
              refine wp_region_later (by kernel_rfl) (by kernel_rfl) ?_
              repeat (quiet_step ((first | (go_at_call 65; exact later_call _ (HC.out _)))))
              refine wpQuiet_nil ?_
              intro wz hw'
              obtain ⟨⟨_, hbz⟩, rfl⟩ := hw'
              have HBz := Lib.hid (then_ HBy.out hbz)
              clear hbz HC
              clear c0 c1 c2 c3 d0 d1 d2 d3
              have HVz := Lib.hid (HV.out.later HBz.out)
              have hro := row_room HVz.out.1
              have hs1 := fun W => slice_pre_v pI M.length capI j hj hro.1 hro.2 W
              have hs2 := fun W => slice_suf_v pI M.length capI j hj hro.1 hro.2 W
              have HSa := Lib.hid (row_src (by decide) encV_length encV_one (row_pre hj HVz.out.1))
              rw [show (M.take j).length = j by rw [List.length_take, Nat.min_eq_left hj]] at HSa
              have HLz := Lib.hid (H4.out.later HBz.out)
              clear hro
              go_wp2_with (first | (at_builtin; refine wpList_append_src (by rfl) _ _ 43 (by rfl) wz.heap.size 42 j0 (.agg #[.int .i64 0, .int .i64 0, .string ⟨#[]⟩, .bool false]) 4 40 Tryz.underlying43 ji jz0 jz1 jz2 rfl (by decide) (.slice none 0 0) 0 [] (by rfl) (World.ownsRow_nil _ _ _ _) _ j ((M.take j).flatMap encV) (by rfl) HSa.out j (by omega) (by unfold maxLen; omega) (by omega) (Nat.le_refl _) ?_; intro pA capA w3 hown3 hgrow3; rw [List.nil_append] at hown3; have HO3 := Lib.hid hown3; have HB3 := Lib.hid ((Below.refl _ wz).grown hgrow3 (Nat.le_refl _) (fun t ht => by simp [Value.ownBlock] at ht)); have h44 := HLz.out.later HB3.out; have x0 := h44.1; have x1 := h44.2.1; have x2 := h44.2.2.1; have x3 := h44.2.2.2; have hz3 := HB3.out.size; clear hown3 hgrow3 h44 HSa) | (at_builtin; refine wpList_append_src (by rfl) _ _ 43 (by rfl) wz.heap.size 42 j0 (.agg #[.int .i64 0, .int .i64 0, .string ⟨#[]⟩, .bool false]) 4 40 Tryz.underlying43 ji jz0 jz1 jz2 rfl (by decide) _ _ _ (by rfl) (World.ownsRow.alloc HO3.out (.cells #[.int .i64 x.k, .int .i64 x.n, .string x.s, .bool x.b] 42)) _ 1 (encV x) (by rfl) (.inr ⟨_, _, by rfl, by rfl, fun t u hu => by rw [add_lit, Nat.zero_add]; exact (Blk.new w3 _ _).cell t (by simpa [encV] using hu), encV_one x⟩) (j + 1) rfl (by unfold maxLen; omega) (by omega) (by simp; omega) ?_; intro pB capB w4 hown4 hgrow4; have HO4 := Lib.hid hown4; have HB4 := Lib.hid ((HB3.out.alloc HB3.out.size (.cells #[.int .i64 x.k, .int .i64 x.n, .string x.s, .bool x.b] 42)).grown hgrow4 (by simp; omega) (fun t ht => (World.ownsRow.lt HO3.out t (by simpa [Value.ownBlock] using ht)).1)); have HSb := Lib.hid (row_src (by decide) encV_length encV_one (row_suf hj (HVz.out.later HB4.out).1)); have hz4 := HB4.out.size; rw [List.length_drop] at HSb; clear hown4 hgrow4) | (at_builtin; refine wpList_append_src (by rfl) _ _ 43 (by rfl) wz.heap.size 42 j0 (.agg #[.int .i64 0, .int .i64 0, .string ⟨#[]⟩, .bool false]) 4 40 Tryz.underlying43 ji jz0 jz1 jz2 rfl (by decide) _ _ _ (by rfl) HO4.out _ (M.length - j) ((M.drop j).flatMap encV) (by rfl) HSb.out (M.length + 1) (by omega) (by unfold maxLen; omega) (by omega) hz4 ?_; intro pC capC w5 hown5 hgrow5; have HO5 := Lib.hid hown5; have HB5 := Lib.hid (HB4.out.grown hgrow5 HB4.out.size (fun t ht => (World.ownsRow.lt HO4.out t ht).1)); clear hown5 hgrow5 HSb))
              go_roundw
              case rel =>
                refine ⟨k + 1, by omega, by simp, Lib.hid ?_, Lib.hid (then_ HBel.out (then_ HBz.out HB5.out))⟩
                have h := own_base HO5.out (Nat.le_trans HBel.out.size HBz.out.size)
                unfold OwnV
                rw [HF.out, HIns.out]
                rw [show (M.take j ++ x :: M.drop j).length = M.length + 1 by simp; omega]
                simpa using h
              case measure => simp [intOf]; omega
        · have hje : j = M.length := by omega
          have HIns : Hid (insL cmpW M x = M.take j ++ x :: M.drop j) := Lib.hid ((insL_at (f := cmpW) M x j hj HT.out (fun h => absurd h hjl)).2 (fun h => absurd h hjl))
          have e1 : decide ((j : Int) < (M.length : Int)) = false := by simp; omega
          clear hje
          go_wp2_with fail
          go_quiet (fail)
          obtain ⟨wy, hwy⟩ : ∃ wy, wy = wr.drewN nq := ⟨_, rfl⟩
          have HBy : Hid (Below wo.heap.size wo wy) := Lib.hid (by rw [hwy]; exact bel_drewN HB1.out _)
          rw [← hwy]
          clear hwy nq
          go_wp2_with fail
          go_quiet (fail)
          obtain ⟨wz, hwz⟩ : ∃ wz, wz = wy.drewN nq := ⟨_, rfl⟩
          have HBz : Hid (Below wo.heap.size wo wz) := Lib.hid (by rw [hwz]; exact bel_drewN HBy.out _)
          rw [← hwz]
          clear hwz
          have HVz := Lib.hid (HV.out.later HBz.out)
          have hro := row_room HVz.out.1
          have hs1 := fun W => slice_pre_v pI M.length capI j hj hro.1 hro.2 W
          have hs2 := fun W => slice_suf_v pI M.length capI j hj hro.1 hro.2 W
          have HSa := Lib.hid (row_src (by decide) encV_length encV_one (row_pre hj HVz.out.1))
          rw [show (M.take j).length = j by rw [List.length_take, Nat.min_eq_left hj]] at HSa
          have HLz := Lib.hid (H4.out.later HBz.out)
          clear hro
          go_wp2_with (first | (at_builtin; refine wpList_append_src (by rfl) _ _ 43 (by rfl) wz.heap.size 42 j0 (.agg #[.int .i64 0, .int .i64 0, .string ⟨#[]⟩, .bool false]) 4 40 Tryz.underlying43 ji jz0 jz1 jz2 rfl (by decide) (.slice none 0 0) 0 [] (by rfl) (World.ownsRow_nil _ _ _ _) _ j ((M.take j).flatMap encV) (by rfl) HSa.out j (by omega) (by unfold maxLen; omega) (by omega) (Nat.le_refl _) ?_; intro pA capA w3 hown3 hgrow3; rw [List.nil_append] at hown3; have HO3 := Lib.hid hown3; have HB3 := Lib.hid ((Below.refl _ wz).grown hgrow3 (Nat.le_refl _) (fun t ht => by simp [Value.ownBlock] at ht)); have h44 := HLz.out.later HB3.out; have x0 := h44.1; have x1 := h44.2.1; have x2 := h44.2.2.1; have x3 := h44.2.2.2; have hz3 := HB3.out.size; clear hown3 hgrow3 h44 HSa) | (at_builtin; refine wpList_append_src (by rfl) _ _ 43 (by rfl) wz.heap.size 42 j0 (.agg #[.int .i64 0, .int .i64 0, .string ⟨#[]⟩, .bool false]) 4 40 Tryz.underlying43 ji jz0 jz1 jz2 rfl (by decide) _ _ _ (by rfl) (World.ownsRow.alloc HO3.out (.cells #[.int .i64 x.k, .int .i64 x.n, .string x.s, .bool x.b] 42)) _ 1 (encV x) (by rfl) (.inr ⟨_, _, by rfl, by rfl, fun t u hu => by rw [add_lit, Nat.zero_add]; exact (Blk.new w3 _ _).cell t (by simpa [encV] using hu), encV_one x⟩) (j + 1) rfl (by unfold maxLen; omega) (by omega) (by simp; omega) ?_; intro pB capB w4 hown4 hgrow4; have HO4 := Lib.hid hown4; have HB4 := Lib.hid ((HB3.out.alloc HB3.out.size (.cells #[.int .i64 x.k, .int .i64 x.n, .string x.s, .bool x.b] 42)).grown hgrow4 (by simp; omega) (fun t ht => (World.ownsRow.lt HO3.out t (by simpa [Value.ownBlock] using ht)).1)); have HSb := Lib.hid (row_src (by decide) encV_length encV_one (row_suf hj (HVz.out.later HB4.out).1)); have hz4 := HB4.out.size; rw [List.length_drop] at HSb; clear hown4 hgrow4) | (at_builtin; refine wpList_append_src (by rfl) _ _ 43 (by rfl) wz.heap.size 42 j0 (.agg #[.int .i64 0, .int .i64 0, .string ⟨#[]⟩, .bool false]) 4 40 Tryz.underlying43 ji jz0 jz1 jz2 rfl (by decide) _ _ _ (by rfl) HO4.out _ (M.length - j) ((M.drop j).flatMap encV) (by rfl) HSb.out (M.length + 1) (by omega) (by unfold maxLen; omega) (by omega) hz4 ?_; intro pC capC w5 hown5 hgrow5; have HO5 := Lib.hid hown5; have HB5 := Lib.hid (HB4.out.grown hgrow5 HB4.out.size (fun t ht => (World.ownsRow.lt HO4.out t ht).1)); clear hown5 hgrow5 HSb))
          go_roundw
          case rel =>
            refine ⟨k + 1, by omega, by simp, Lib.hid ?_, Lib.hid (then_ HBel.out (then_ HBz.out HB5.out))⟩
            have h := own_base HO5.out (Nat.le_trans HBel.out.size HBz.out.size)
            unfold OwnV
            rw [HF.out, HIns.out]
            rw [show (M.take j ++ x :: M.drop j).length = M.length + 1 by simp; omega]
            simpa using h
          case measure => simp [intOf]; omega
    · have hke : k = l.length := by omega
      subst hke
      have HE : Hid ((l.take l.length).foldl (insL cmpW) [] = sortL cmpW l) := Lib.hid (by rw [List.take_length]; rfl)
      have HR : Hid (OwnV wr w.heap.size (.slice pI (sortL cmpW l).length capI) (sortL cmpW l)) := Lib.hid (by have := HO.out; rw [HE.out] at this; exact this)
      rw [HE.out]
      clear HO
      go_wp2
      go_ret
      exact ⟨pI, capI, rfl, HR.out, HBel.out⟩
end Go.Proofs.YtlnjmcodgdebmaaGreat.Gm
