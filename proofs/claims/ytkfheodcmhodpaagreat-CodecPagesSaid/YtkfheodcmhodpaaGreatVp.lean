/- The document's reader: item; how a Take begins. -/
import Derived.Test.YtkfheodcmhodpaaGreatVo
set_option linter.unusedSimpArgs false
set_option linter.unusedVariables false
namespace Go.Proofs.YtkfheodcmhodpaaGreat.Gm
open Go Go.RowKit
attribute [local go_sem ↓] Go.wp_at_zero Go.wp_at_succ

theorem blk_set {w : World} {g : Nat} {t : TypeId} {cs : Array Value} (h : Blk w g t cs) (i : Nat) (u : Value) : Blk (w.setCell ⟨g, i, none⟩ u) g t (cs.setIfInBounds i u) := by
  have hlt := lt_of_block h
  have h' : w.heap[g] = .cells cs t (0, 0) := by simpa [Array.getElem?_eq_getElem hlt, Blk] using h
  show (w.heap.modify g _)[g]? = _
  rw [Array.getElem?_eq_getElem (by simpa using hlt), Array.getElem_modify_self, h']
  rfl
theorem it_start (o : Option (List UInt8)) : o.bind itR = ((((((o.bind (nR 1099511627776)).map Prod.snd).bind (nR 1099511627776)).map Prod.snd)).bind eR).map (fun q => ((((o.bind (nR 1099511627776)).map Prod.fst).getD 0, (((((o.bind (nR 1099511627776)).map Prod.snd).bind (nR 1099511627776)).map Prod.fst).getD 0, q.1)), q.2)) := by
  cases o with
  | none => rfl
  | some L =>
    show itR L = _
    unfold itR bindR mapR
    simp only [Option.bind_some]
    cases hs : nR 1099511627776 L with
    | none => rfl
    | some x =>
      obtain ⟨k, D⟩ := x
      simp only [Option.map_some, Option.bind_some, Option.getD_some]
      cases hn : nR 1099511627776 D with
      | none => rfl
      | some y =>
        obtain ⟨n, E⟩ := y
        simp only [Option.map_some, Option.bind_some, Option.getD_some]
        cases hm : eR E <;> rfl
/-- What item returns. -/
abbrev retIt (base : Nat) (o : Option It) (u : Value) (W : World) : Prop := ∃ (N T : Nat) (key : ByteArray) (sl : Value) (l : List Attr), u = .agg #[.int .u64 N, .int .u64 T, .string key, sl] ∧ Own W base sl l ∧ l.length ≤ 8 ∧ ∀ x, o = some x → x = (N, T, key, l)
set_option maxHeartbeats 4000000 in
set_option maxRecDepth 100000 in
theorem ritemX (R b : Nat) (o : Option (List UInt8)) (w : World) (hS : Rx w R b o) (hb : b < w.heap.size) : Calls Tryz.prog 19 #[.pointer (some ⟨R, 0, none⟩)] w (RdX R b (o.bind itR) (retIt w.heap.size) w) := by
  have hRl := hS.lt
  have HN := Lib.hid (rnumX R b o 1099511627776 (by decide) _ (hS.below (below_one w (.cells #[.int .u64 0, .int .u64 0, .string ⟨#[]⟩, .slice none 0 0] 51)) hRl hb))
  have HK0 := Lib.hid (Blk.new w 51 #[.int .u64 0, .int .u64 0, .string ⟨#[]⟩, .slice none 0 0])
  have HB0 := Lib.hid (below_one w (.cells #[.int .u64 0, .int .u64 0, .string ⟨#[]⟩, .slice none 0 0] 51))
  have HE := Lib.hid (it_start o)
  obtain ⟨O, hO⟩ : ∃ O, o.bind itR = O := ⟨_, rfl⟩
  rw [hO] at HE ⊢
  clear hS hO
  obtain ⟨O1, hO1⟩ : ∃ O1, o.bind (nR 1099511627776) = O1 := ⟨_, rfl⟩
  rw [hO1] at HE HN
  clear hO1
  obtain ⟨N, hN⟩ : ∃ N, (O1.map Prod.fst).getD 0 = N := ⟨_, rfl⟩
  obtain ⟨o1, ho1⟩ : ∃ o1, O1.map Prod.snd = o1 := ⟨_, rfl⟩
  rw [hN, ho1] at HE
  obtain ⟨O2, hO2⟩ : ∃ O2, o1.bind (nR 1099511627776) = O2 := ⟨_, rfl⟩
  rw [hO2] at HE
  have HO2 := Lib.hid hO2
  clear hO2
  obtain ⟨T, hT⟩ : ∃ T, (O2.map Prod.fst).getD 0 = T := ⟨_, rfl⟩
  obtain ⟨o2, ho2⟩ : ∃ o2, O2.map Prod.snd = o2 := ⟨_, rfl⟩
  rw [hT, ho2] at HE
  obtain ⟨A, hA⟩ : ∃ A, w.heap.size = A := ⟨_, rfl⟩
  have HA := Lib.hid hA
  rw [hA] at HK0 HB0 hb hRl ⊢
  go_enter Tryz.func19, Tryz.ntmps19
  go_wp2_with fail
  refine HN.out.mono ?_; rintro e w1 ⟨u, rfl, hu, hX1, hG1⟩
  replace hu : u = .int .u64 ((O1.map Prod.fst).getD 0 : Nat) := hu
  rw [hN] at hu
  subst hu
  rw [ho1] at hX1
  have hz1 := hG1.size
  have hz00 := HK0.out.lt
  have HX1 := Lib.hid (hX1.below (below_one w1 (.cells #[.int .u64 N, .int .u64 0, .string ⟨#[]⟩, .slice none 0 0] 51)) (by omega) (by omega))
  have HG1 := Lib.hid (grown_then (grown_then (grown_below (below_one w (.cells #[.int .u64 0, .int .u64 0, .string ⟨#[]⟩, .slice none 0 0] 51)) (some R)) hG1 (.inl rfl)) (grown_below (below_one w1 (.cells #[.int .u64 N, .int .u64 0, .string ⟨#[]⟩, .slice none 0 0] 51)) (some R)) (.inl rfl))
  have HK1 := Lib.hid ((HK0.out.grown hG1 (by intro e; have := Option.some.inj e; omega)).alloc (.cells #[.int .u64 N, .int .u64 0, .string ⟨#[]⟩, .slice none 0 0] 51))
  have HL1 := Lib.hid (Blk.new w1 51 #[.int .u64 N, .int .u64 0, .string ⟨#[]⟩, .slice none 0 0])
  obtain ⟨G, hGG⟩ : ∃ G, w1.heap.size = G := ⟨_, rfl⟩
  rw [hGG] at hz1 HL1
  have hAG : A < G := by omega
  clear hX1 hG1 hN ho1 HN
  go_wp2_with fail
  refine (rnumX R b o1 1099511627776 (by decide) _ HX1.out).mono ?_; rintro e w2 ⟨u, rfl, hu, hX2, hG2⟩
  rw [HO2.out] at hu hX2
  replace hu : u = .int .u64 ((O2.map Prod.fst).getD 0 : Nat) := hu
  rw [hT] at hu
  subst hu
  rw [ho2] at hX2
  have hz2 : G < w2.heap.size := by have := hG2.size; simp at this; omega
  have hK2 := HK1.out.grown hG2 (by intro e; have := Option.some.inj e; omega)
  have hL2 := HL1.out.grown hG2 (by intro e; have := Option.some.inj e; omega)
  have l1 := hL2.cell 1 (u := .int .u64 0) rfl
  have m1 := hL2.free 1
  have HG2 := Lib.hid (grown_cell (i := 1) (u := .int .u64 T) (grown_then HG1.out hG2 (.inl rfl)) (show w.heap.size ≤ G by have := HA.out; omega))
  have HX2 := Lib.hid (hX2.below (H := A) (below_cell (i := 1) (u := .int .u64 T) (Below.refl A w2) (show A ≤ G by omega)) hRl hb)
  have HK2 := Lib.hid (hK2.other (i := 1) (show A ≠ G by omega) (.int .u64 T))
  have HL2 : Hid (Blk (w2.setCell ⟨G, 1, none⟩ (.int .u64 T)) G 51 #[.int .u64 N, .int .u64 T, .string ⟨#[]⟩, .slice none 0 0]) := Lib.hid (blk_set hL2 1 (.int .u64 T))
  have hb2 : b < (w2.setCell ⟨G, 1, none⟩ (.int .u64 T)).heap.size := by simp; omega
  clear hX2 hG2 hT ho2 HO2 hK2 hL2
  go_wp2_with fail
  refine (reventX R b o2 _ HX2.out hb2).mono ?_; rintro e w3 ⟨u, rfl, hu, hX3, hG3⟩
  obtain ⟨key, sl, l, rfl, hO3, hl8, hx3⟩ := hu
  have hsz2 : (w2.setCell ⟨G, 1, none⟩ (.int .u64 T)).heap.size = w2.heap.size := by simp
  rw [hsz2] at hO3
  obtain ⟨pl, cl, rfl⟩ := own_form hO3
  obtain ⟨M, hM⟩ : ∃ M, l.length = M := ⟨_, rfl⟩
  rw [hM] at hO3 hl8 ⊢
  have HM := Lib.hid hM
  obtain ⟨sl, hsl⟩ : ∃ sl, Value.slice pl M cl = sl := ⟨_, rfl⟩
  rw [hsl] at hO3
  have HSl := Lib.hid hsl
  have hK3 := HK2.out.grown hG3 (by intro e; have := Option.some.inj e; omega)
  have hL3 := HL2.out.grown hG3 (by intro e; have := Option.some.inj e; omega)
  have q2 := hL3.cell 2 (u := .string ⟨#[]⟩) rfl
  have q3 := fun u => (blk_set hL3 2 u).cell 3 (u := .slice none 0 0) rfl
  have r2 := hL3.free 2
  have r3 := fun u => (blk_set hL3 2 u).free 3
  have hL4 : Blk ((w3.setCell ⟨G, 2, none⟩ (.string key)).setCell ⟨G, 3, none⟩ sl) G 51 #[.int .u64 N, .int .u64 T, .string key, sl] := blk_set (blk_set hL3 2 (.string key)) 3 sl
  have s0 := hL4.cell 0 (u := .int .u64 N) rfl
  have s1 := hL4.cell 1 (u := .int .u64 T) rfl
  have s2 := hL4.cell 2 (u := .string key) rfl
  have s3 := hL4.cell 3 (u := sl) rfl
  have hK4 := (hK3.other (i := 2) (show A ≠ G by omega) (.string key)).other (i := 3) (show A ≠ G by omega) sl
  have k0 := hK4.cell 0 (u := .int .u64 0) rfl
  have k1 := hK4.cell 1 (u := .int .u64 0) rfl
  have k2 := hK4.cell 2 (u := .string ⟨#[]⟩) rfl
  have k3 := hK4.cell 3 (u := .slice none 0 0) rfl
  have g0 := hK4.free 0
  have g1 := hK4.free 1
  have g2 := hK4.free 2
  have g3 := hK4.free 3
  have HK4 := Lib.hid hK4
  have HO4 := Lib.hid ((own_setCell (own_setCell hO3 hL3 (by decide) (.string key) (i := 2)) (blk_set hL3 2 (.string key)) (by decide) sl (i := 3)).base (show A ≤ w2.heap.size by omega))
  have HX4 := Lib.hid (hX3.below (H := A) (below_cell (i := 3) (u := sl) (below_cell (i := 2) (u := .string key) (Below.refl A w3) (show A ≤ G by omega)) (show A ≤ G by omega)) hRl hb)
  have hwA := HA.out
  have HG4 := Lib.hid (grown_cell (i := 3) (u := sl) (grown_cell (i := 2) (u := .string key) (grown_then HG2.out hG3 (.inl rfl)) (show w.heap.size ≤ G by omega)) (show w.heap.size ≤ G by omega))
  have HF : Hid (∀ x, O.map Prod.fst = some x → x = (N, T, key, l)) := Lib.hid (fun x h => by
    rw [HE.out] at h
    cases hr : o2.bind eR with
    | none => rw [hr] at h; cases h
    | some q =>
      rw [hr] at h
      have := hx3 q.1 (by rw [hr]; rfl)
      simp only [Option.map_some, Option.some.injEq] at h
      rw [← h, this])
  have HS4 : Hid (Rx ((w3.setCell ⟨G, 2, none⟩ (.string key)).setCell ⟨G, 3, none⟩ sl) R b (O.map Prod.snd)) := Lib.hid (by
    rw [HE.out, Option.map_map]
    exact HX4.out)
  have HEnd : Hid (∀ W, Rx W R b (O.map Prod.snd) → w.grownBy W (some R) → Own W A sl l → RdX R b O (retIt A) w (.returned (.agg #[.int .u64 N, .int .u64 T, .string key, sl])) W) := Lib.hid (fun W h1 h2 h3 => ⟨_, rfl, ⟨N, T, key, sl, l, rfl, h3, by rw [HM.out]; exact hl8, HF.out⟩, h1, h2⟩)
  clear hK3 hL3 hL4 hK4 hO3 hx3 hX3 hG3 l1 m1 hM
  subst hsl
  clear HSl
  go_wp2_with fail
  refine bodyPost_ret (v := .agg #[.int .u64 N, .int .u64 T, .string key, .slice pl M cl]) (by simp [results, Tryz.results19, go_sem, k0, k1, k2, k3]) rfl ?_
  refine HEnd.out _ (HS4.out.below (H := A) (below_cell (i := 3) (u := .slice pl M cl) (below_cell (i := 2) (u := .string key) (below_cell (i := 1) (u := .int .u64 T) (below_cell (i := 0) (u := .int .u64 N) (Below.refl A _) (Nat.le_refl A)) (Nat.le_refl A)) (Nat.le_refl A)) (Nat.le_refl A)) hRl hb) ?_ ?_
  · exact grown_cell (grown_cell (grown_cell (grown_cell HG4.out (by omega)) (by omega)) (by omega)) (by omega)
  · have o1 := own_setCell HO4.out HK4.out (by decide) (.int .u64 N) (i := 0)
    have o2 := own_setCell o1 (blk_set HK4.out 0 (.int .u64 N)) (by decide) (.int .u64 T) (i := 1)
    have o3 := own_setCell o2 (blk_set (blk_set HK4.out 0 (.int .u64 N)) 1 (.int .u64 T)) (by decide) (.string key) (i := 2)
    exact own_setCell o3 (blk_set (blk_set (blk_set HK4.out 0 (.int .u64 N)) 1 (.int .u64 T)) 2 (.string key)) (by decide) (.slice pl M cl) (i := 3)
/-- A Take's reader, at its start. -/
theorem rx_start {w W : World} {R : Nat} {v : Value} {L : List UInt8} (hB : Bs w v L) (hR : Rq W R v false) (hb : Below w.heap.size w W) (hwR : w.heap.size ≤ R) (hl : L.length ≤ 140737488355328) : ∃ b, b < W.heap.size ∧ Rx W R b (some L) := by
  by_cases hL : L = []
  · subst hL
    exact ⟨0, by have := hR.lt; omega, v, hR, hB.below hb, fun _ _ _ _ h => absurd rfl h, fun h => absurd rfl h, fun h => absurd rfl h, hl⟩
  · have hB0 := hB
    rcases hB with ⟨_, h⟩ | ⟨a, cap, rfl, h2, h3⟩
    · exact absurd h hL
    · obtain ⟨b, o, rfl, hbl, _⟩ := h3 hL
      have := hb.size
      refine ⟨b, by omega, _, hR, hB0.below hb, fun a n c h _ => ?_, fun _ => by omega, fun _ => by omega, hl⟩
      simp only [Value.slice.injEq, Option.some.injEq] at h
      rw [← h.1]
end Go.Proofs.YtkfheodcmhodpaaGreat.Gm
