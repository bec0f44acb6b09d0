/- The document's reader: event. -/
import Derived.Test.YtkfheodcmhodpaaGreatVn
set_option linter.unusedSimpArgs false
set_option linter.unusedVariables false
namespace Go.Proofs.YtkfheodcmhodpaaGreat.Gm
open Go Go.RowKit
attribute [local go_sem ↓] Go.wp_at_zero Go.wp_at_succ

theorem ev_start (o : Option (List UInt8)) : o.bind eR = ((((o.bind (sR 16)).map Prod.snd).bind (nR 8)).map Prod.snd |>.bind (manyR aR (((((o.bind (sR 16)).map Prod.snd).bind (nR 8)).map Prod.fst).getD 0))).map (fun q => ((((o.bind (sR 16)).map Prod.fst).getD ⟨#[]⟩, q.1), q.2)) := by
  cases o with
  | none => rfl
  | some L =>
    show eR L = _
    unfold eR countR bindR mapR
    simp only [Option.bind_some]
    cases hs : sR 16 L with
    | none => rfl
    | some x =>
      obtain ⟨k, D⟩ := x
      simp only [Option.map_some, Option.bind_some]
      cases hn : nR 8 D with
      | none => rfl
      | some y =>
        obtain ⟨n, E⟩ := y
        simp only [Option.map_some, Option.bind_some, Option.getD_some]
        cases hm : manyR aR n E <;> rfl
theorem ev_step {α : Type} (F : List Attr × List UInt8 → α) (D : List UInt8) (m : Nat) (y : Vl) (hy : ∀ x, ((((sR 16 D).map Prod.snd).bind vR).map Prod.fst) = some x → y = x) : (manyR aR (m + 1) D).map F = (((((sR 16 D).map Prod.snd).bind vR).map Prod.snd).bind (manyR aR m)).map (fun q => F (⟨((sR 16 D).map Prod.fst).getD ⟨#[]⟩, y.k, y.n, y.s, y.b⟩ :: q.1, q.2)) := by
  show (bindR aR (fun x => mapR (manyR aR m) fun l => x :: l) D).map F = _
  unfold bindR
  cases hs : sR 16 D with
  | none =>
    have h : aR D = none := by simp [aR, bindR, mapR, hs]
    rw [h]; rfl
  | some x =>
    obtain ⟨k, E⟩ := x
    rw [hs] at hy
    simp only [Option.map_some, Option.bind_some, Option.getD_some] at hy ⊢
    cases hv : vR E with
    | none =>
      have h : aR D = none := by simp [aR, bindR, mapR, hs, hv]
      rw [h]; rfl
    | some z =>
      obtain ⟨z, G⟩ := z
      rw [hv] at hy
      have := hy z rfl
      subst this
      have h : aR D = some (⟨k, y.k, y.n, y.s, y.b⟩, G) := by simp [aR, bindR, mapR, hs, hv]
      rw [h]
      simp only [Option.map_some, Option.bind_some]
      unfold mapR
      cases hm : manyR aR m G <;> rfl
theorem ev_end {α : Type} (F : List Attr × List UInt8 → α) (o : Option (List UInt8)) : (o.bind (manyR aR 0)).map F = o.map (fun D => F ([], D)) := by cases o <;> rfl
theorem Own.grown {w w' : World} {base : Nat} {v : Value} {l : List Attr} {r : Option Nat} (h : Own w base v l) (hg : w.grownBy w' r) (hr : ∀ g, base ≤ g → r ≠ some g) : Own w' base v l := by
  refine ⟨h.1, ?_⟩
  rcases h.2 with h0 | ⟨g, cap, cur, hv, hb, hh, rest⟩
  · exact .inl h0
  · exact .inr ⟨g, cap, cur, hv, hb, (hg.block g (lt_of_block hh) (fun e => hr g hb e.symm)).trans hh, rest⟩
/-- What event returns. -/
abbrev retE (base : Nat) (o : Option Ev) (u : Value) (W : World) : Prop := ∃ (key : ByteArray) (sl : Value) (l : List Attr), u = .agg #[.string key, sl] ∧ Own W base sl l ∧ l.length ≤ 8 ∧ ∀ x, o = some x → x = (key, l)
set_option maxHeartbeats 4000000 in
set_option maxRecDepth 100000 in
theorem reventX (R b : Nat) (o : Option (List UInt8)) (w : World) (hS : Rx w R b o) (hb : b < w.heap.size) : Calls Tryz.prog 49 #[.pointer (some ⟨R, 0, none⟩)] w (RdX R b (o.bind eR) (retE w.heap.size) w) := by
  obtain ⟨i0, ii, iz0, iz1, iz2⟩ := info_parts info34
  have hRl := hS.lt
  have HT := Lib.hid (rtextX R b o 16 (by decide) _ (hS.below (below_one w (.cells #[.string ⟨#[]⟩, .slice none 0 0] 49)) hRl hb))
  have HK0 := Lib.hid (Blk.new w 49 #[.string ⟨#[]⟩, .slice none 0 0])
  have HB0 := Lib.hid (below_one w (.cells #[.string ⟨#[]⟩, .slice none 0 0] 49))
  have HE := Lib.hid (ev_start o)
  obtain ⟨O, hO⟩ : ∃ O, o.bind eR = O := ⟨_, rfl⟩
  rw [hO] at HE ⊢
  clear hS hO
  obtain ⟨O1, hO1⟩ : ∃ O1, o.bind (sR 16) = O1 := ⟨_, rfl⟩
  rw [hO1] at HE HT
  clear hO1
  obtain ⟨key, hkey⟩ : ∃ key, (O1.map Prod.fst).getD ⟨#[]⟩ = key := ⟨_, rfl⟩
  obtain ⟨o1, ho1⟩ : ∃ o1, O1.map Prod.snd = o1 := ⟨_, rfl⟩
  rw [hkey, ho1] at HE
  have hn8 : ∀ n D, o1.bind (nR 8) = some (n, D) → n ≤ 8 := fun n D h => by
    cases o1 with
    | none => cases h
    | some L => exact ((codec_n (by decide)).only L n D h).1
  obtain ⟨O2, hO2⟩ : ∃ O2, o1.bind (nR 8) = O2 := ⟨_, rfl⟩
  rw [hO2] at HE hn8
  have HO2 := Lib.hid hO2
  clear hO2
  obtain ⟨N, hN⟩ : ∃ N, (O2.map Prod.fst).getD 0 = N := ⟨_, rfl⟩
  have hN8 : N ≤ 8 := by
    cases O2 with
    | none => simp at hN; omega
    | some x => obtain ⟨n, D⟩ := x; simp at hN; have := hn8 n D rfl; omega
  obtain ⟨o2, ho2⟩ : ∃ o2, O2.map Prod.snd = o2 := ⟨_, rfl⟩
  rw [hN, ho2] at HE
  clear hn8
  obtain ⟨A, hA⟩ : ∃ A, w.heap.size = A := ⟨_, rfl⟩
  have HA := Lib.hid hA
  rw [hA] at HK0 HB0 hb hRl ⊢
  go_enter Tryz.func49, Tryz.ntmps49
  go_wp2_with fail
  refine HT.out.mono ?_; rintro e w1 ⟨u, rfl, hu, hX1, hG1⟩
  replace hu : u = .string ((O1.map Prod.fst).getD ⟨#[]⟩) := hu
  rw [hkey] at hu
  subst hu
  rw [ho1] at hX1
  have hz1 := hG1.size
  have hz00 := HK0.out.lt
  have HX1 := Lib.hid (hX1.below (below_one w1 (.cells #[.string key, .slice none 0 0] 49)) (by omega) (by omega))
  have HG1 := Lib.hid (grown_then (grown_then (grown_below (below_one w (.cells #[.string ⟨#[]⟩, .slice none 0 0] 49)) (some R)) hG1 (.inl rfl)) (grown_below (below_one w1 (.cells #[.string key, .slice none 0 0] 49)) (some R)) (.inl rfl))
  have HK1 := Lib.hid ((HK0.out.grown hG1 (by intro e; have := Option.some.inj e; omega)).alloc (.cells #[.string key, .slice none 0 0] 49))
  have HL1 := Lib.hid (Blk.new w1 49 #[.string key, .slice none 0 0])
  obtain ⟨G, hGG⟩ : ∃ G, w1.heap.size = G := ⟨_, rfl⟩
  rw [hGG] at hz1 HL1
  have hAG : A < G := by omega
  clear hX1 hG1 hkey ho1 HT
  go_wp2_with fail
  refine (rnumX R b o1 8 (by decide) _ HX1.out).mono ?_; rintro e w2 ⟨u, rfl, hu, hX2, hG2⟩
  rw [HO2.out] at hu hX2
  replace hu : u = .int .u64 ((O2.map Prod.fst).getD 0 : Nat) := hu
  rw [hN] at hu
  subst hu
  rw [ho2] at hX2
  have HX2 := Lib.hid hX2
  have HG2 := Lib.hid (grown_then HG1.out hG2 (.inl rfl))
  have HK2 := Lib.hid (HK1.out.grown hG2 (by intro e; have := Option.some.inj e; omega))
  have HL2 := Lib.hid (HL1.out.grown hG2 (by intro e; have := Option.some.inj e; omega))
  clear hX2 hG2 hN ho2 HO2
  go_wp2_with fail
  go_loopw [5, 6] (fun iv nv wr => ∃ (i : Nat) (l : List Attr) (sl : Value) (o' : Option (List UInt8)), iv = .int .u64 i ∧ i ≤ N ∧ l.length = i ∧ Hid (Rx wr R b o') ∧ Hid (Blk wr A 49 #[.string ⟨#[]⟩, .slice none 0 0]) ∧ Hid (Blk wr G 49 #[.string key, sl]) ∧ Hid (Own wr A sl l) ∧ Hid (O = (o'.bind (manyR aR (N - i))).map (fun q => ((key, l ++ q.1), q.2))) ∧ Hid (w.grownBy wr (some R))) (fun iv _ _ => N - (intOf iv).toNat)
  case atStart => exact ⟨0, [], .slice none 0 0, o2, rfl, Nat.zero_le _, rfl, HX2, HK2, HL2, Lib.hid (Own.nil _ _), HE, HG2⟩
  case round =>
    obtain ⟨i, l, sl, o', rfl, hi, hli, HX, HK, HL, HOw, HEq, HG⟩ := hrel
    have HIl := Lib.hid hli
    obtain ⟨p, cap, rfl⟩ := own_form HOw.out
    have hsz := HG.out.size
    rw [hA] at hsz
    rw [hli] at HL HOw
    have HOr : Hid (wr.ownsRow A 104 5 (.slice p i cap) i (cellsA l)) := Lib.hid (by have h := HOw.out; unfold Own at h; rwa [hli] at h)
    have k0 := HK.out.cell 0 (u := .string ⟨#[]⟩) rfl
    have k1 := HK.out.cell 1 (u := .slice none 0 0) rfl
    have g0 := HK.out.free 0
    have g1 := HK.out.free 1
    have l0 := HL.out.cell 0 (u := .string key) rfl
    have l1 := HL.out.cell 1 (u := .slice p i cap) rfl
    by_cases hiN : i < N
    · have d1 : decide ((i : Int) < (N : Int)) = true := by simp; omega
      have d1n : decide (i < N) = true := by simp; omega
      cases o' with
      | none =>
        have hEnd : O = none := by have h := HEq.out; rw [h]; rfl
        have HEn := Lib.hid hEnd
        obtain ⟨pq, nq, cq, hq⟩ := HX.out
        have c1 := hq.cell 1 (u := .bool true) rfl
        clear hEnd hq
        go_wp2_with fail
        refine bodyPost_ret (v := .agg #[.string key, .slice p i cap]) (by simp [results, Tryz.results49, go_sem, k0, k1]) rfl ?_
        exact ⟨_, rfl, ⟨key, .slice p i cap, l, rfl, own_setCell (own_setCell HOw.out HK.out (by decide) _) (HK.out.set0 _) (by decide) _, by omega, fun x h => by rw [HEn.out] at h; cases h⟩, by
          rw [HEn.out]
          exact HX.out.below (H := A) (below_cell (below_cell (Below.refl A wr) (Nat.le_refl A) (i := 0) (u := .string key)) (Nat.le_refl A) (i := 1) (u := .slice p i cap)) hRl hb, grown_cell (grown_cell HG.out (by have := HA.out; omega)) (by have := HA.out; omega)⟩
      | some D =>
        obtain ⟨vq, hq⟩ := HX.out
        have c1 := hq.rq.cell 1 (u := .bool false) rfl
        have HT3 := Lib.hid (rtextX R b (some D) 16 (by decide) wr HX.out)
        have HV := Lib.hid (fun o3 W (h : Rx W R b o3) (hb : b < W.heap.size) => rvalueX R b o3 W h hb)
        have hwr : A ≤ wr.heap.size := hsz
        clear hq HX
        go_wp2_with fail
        refine HT3.out.mono ?_; rintro e w3 ⟨u, rfl, hu, hX3, hG3⟩
        replace hu : u = .string (((sR 16 D).map Prod.fst).getD ⟨#[]⟩) := hu
        replace hX3 : Rx w3 R b ((sR 16 D).map Prod.snd) := hX3
        have HSt := Lib.hid (fun y hy => ev_step (fun q => ((key, l ++ q.1), q.2)) D (N - (i + 1)) y hy)
        rw [show N - (i + 1) + 1 = N - i by omega] at HSt
        obtain ⟨nm, hnm⟩ : ∃ nm, ((sR 16 D).map Prod.fst).getD ⟨#[]⟩ = nm := ⟨_, rfl⟩
        rw [hnm] at hu HSt
        subst hu
        obtain ⟨o3, ho3⟩ : ∃ o3, (sR 16 D).map Prod.snd = o3 := ⟨_, rfl⟩
        rw [ho3] at hX3 HSt
        have hz3 := hG3.size
        have HX3 := Lib.hid hX3
        have HG3 := Lib.hid (grown_then HG.out hG3 (.inl rfl))
        have HK3 := Lib.hid (HK.out.grown hG3 (by intro e; have := Option.some.inj e; omega))
        have HL3 := Lib.hid (HL.out.grown hG3 (by intro e; have := Option.some.inj e; omega))
        have HO3 := Lib.hid (HOw.out.grown hG3 (fun g hg e => by have := Option.some.inj e; omega))
        have q1 := HL3.out.cell 1 (u := .slice p i cap) rfl
        have HapG := Lib.hid (HL.out.apart HOr.out (by decide))
        have HapA := Lib.hid (HK.out.apart HOr.out (by decide))
        clear hX3 hG3 hnm ho3 HK HL HOw HOr k0 k1 g0 g1 l0 l1 c1 HT3 HG
        go_wp2_with fail
        go_region_law (first | (refine step_append_lies _ (by rfl) _ _ 47 (by rfl) A 104 i0 (.agg #[.string ⟨#[]⟩, .int .i64 0, .int .i64 0, .string ⟨#[]⟩, .bool false]) 5 56 Tryz.underlying47 ii iz0 iz1 iz2 rfl (by decide) _ _ _ (by rfl) (World.ownsRow.alloc HO4.out _) ⟨w4.heap.size, 0, none⟩ 1 1 (encA ⟨nm, y.k, y.n, y.s, y.b⟩) (by rfl) rfl (news5 _ 104 w4.heap.size rfl ⟨nm, y.k, y.n, y.s, y.b⟩) (encA_one _) (by decide) (by unfold maxLen; omega) (by omega) (by simp; omega) (w4.heap.size + 1) (by simp) ?_; intro g5 cap5 w5 hown5 hgrow5 _ _; have HL5 := Lib.hid (Blk.grown (HL4.out.alloc _) hgrow5 HapG.out); have HK5 := Lib.hid (Blk.grown (HK4.out.alloc _) hgrow5 HapA.out); have q5 := HL5.out.cell 1 (u := .slice p i cap) rfl; have f5 := HL5.out.free 1) | (go_simp; go_at_call 70; refine (HV.out o3 _ (HX3.out.below ((Below.refl _ w3).drew) (show R < A from hRl) hb) (by show b < w3.heap.size; omega)).mono ?_; rintro e w4 ⟨u, rfl, ⟨y, rfl, hy⟩, hX4, hG4⟩; have hz4 : w3.heap.size ≤ w4.heap.size := hG4.size; have HY := Lib.hid hy; have HX4 := Lib.hid hX4; have HG4 := Lib.hid hG4; have HK4 := Lib.hid (Blk.grown (w := w3.drew) HK3.out hG4 (by intro e; have := Option.some.inj e; omega)); have HL4 := Lib.hid (Blk.grown (w := w3.drew) HL3.out hG4 (by intro e; have := Option.some.inj e; omega)); have HO4 : Hid (w4.ownsRow A 104 5 (.slice p i cap) i (cellsA l)) := Lib.hid (by have h := Own.grown (w := w3.drew) HO3.out hG4 (fun g hg e => by have := Option.some.inj e; omega); unfold Own at h; rwa [HIl.out] at h); have q4 := HL4.out.cell 1 (u := .slice p i cap) rfl; have q44 := fun o => (HL4.out.alloc o).cell 1 (u := .slice p i cap) rfl; clear hy hX4 hG4; try go_wp2_with fail))
        all_goals go_wp2_with fail
        all_goals
          have hB5 : Below A w4 w5 := ((Below.refl A w4).alloc (show A ≤ w4.heap.size by omega) _).grown hgrow5 (by simp; omega) (fun j hj => (World.ownsRow.lt HO4.out j hj).1)
          have hO5 : Own w5 A (.slice (some ⟨g5, 0, none⟩) (i + 1) cap5) (l ++ [⟨nm, y.k, y.n, y.s, y.b⟩]) := by
            unfold Own
            rw [List.length_append, hli, List.length_singleton, cellsA_append]
            simpa [cellsA] using hown5
          have hG5 : w.grownBy w4 (some R) := grown_then HG3.out (⟨HG4.out.os, HG4.out.tape, HG4.out.output, HG4.out.size, HG4.out.block⟩ : w3.grownBy w4 (some R)) (.inl rfl)
          have hwA := HA.out
          have hG6 : w.grownBy w5 (some R) := grown_then hG5 (grown_then (grown_below (below_one w4 _) _) hgrow5 (.inl rfl)) (.inr fun g hg => by rw [hwA]; exact (World.ownsRow.lt HO4.out g hg).1)
          refine ⟨⟨i + 1, l ++ [⟨nm, y.k, y.n, y.s, y.b⟩], .slice (some ⟨g5, 0, none⟩) (i + 1) cap5, (o3.bind vR).map Prod.snd, by simp, by omega, by simp [hli], Lib.hid (HX4.out.below (H := A) (below_cell hB5 (show A ≤ G by omega)) hRl hb), Lib.hid (HK5.out.other (show A ≠ G by omega) _), Lib.hid (HL5.out.set1 _), Lib.hid (own_setCell hO5 HL5.out (by decide) _), Lib.hid ?_, Lib.hid (grown_cell hG6 (by omega))⟩, by simp [intOf]; omega⟩
          rw [HEq.out]
          show (manyR aR (N - i) D).map _ = _
          rw [HSt.out y HY.out]
          congr 1
          funext q
          simp
    · have d1 : decide ((i : Int) < (N : Int)) = false := by simp; omega
      have d1n : decide (i < N) = false := by simp; omega
      have hEnd : O = o'.map (fun D => ((key, l), D)) := by
        have h := HEq.out
        rw [show N - i = 0 by omega, ev_end] at h
        rw [h]; simp
      have HEn := Lib.hid hEnd
      clear hEnd
      go_wp2_with fail
      refine bodyPost_ret (v := .agg #[.string key, .slice p i cap]) (by simp [results, Tryz.results49, go_sem, k0, k1]) rfl ?_
      exact ⟨_, rfl, ⟨key, .slice p i cap, l, rfl, own_setCell (own_setCell HOw.out HK.out (by decide) _) (HK.out.set0 _) (by decide) _, by omega, fun x h => by rw [HEn.out] at h; cases o' with
        | none => cases h
        | some D => exact (Option.some.inj h).symm⟩, by
        rw [HEn.out]
        have hq := HX.out.below (H := A) (below_cell (below_cell (Below.refl A wr) (Nat.le_refl A) (i := 0) (u := .string key)) (Nat.le_refl A) (i := 1) (u := .slice p i cap)) hRl hb
        cases o' with
        | none => exact hq
        | some D => exact hq, grown_cell (grown_cell HG.out (by have := HA.out; omega)) (by have := HA.out; omega)⟩
end Go.Proofs.YtkfheodcmhodpaaGreat.Gm
