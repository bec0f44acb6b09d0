/- The document's reader: value. -/
import Derived.Test.YtkfheodcmhodpaaVj
set_option linter.unusedSimpArgs false
set_option linter.unusedVariables false
namespace Go.Proofs.Ytkfheodcmhodpaa.Gm
open Go Go.RowKit
attribute [local go_sem ↓] Go.wp_at_zero Go.wp_at_succ

theorem Rx.below {w w' : World} {R b H : Nat} {o : Option (List UInt8)} (h : Rx w R b o) (hb : Below H w w') (hR : R < H) (hbH : b < H) : Rx w' R b o := by
  cases o with
  | none =>
    obtain ⟨p, n, c, h⟩ := h
    exact ⟨p, n, c, h.below hb hR⟩
  | some L =>
    obtain ⟨v, h⟩ := h
    exact ⟨v, h.rq.below hb hR, bs_keepq h.bs h.inb hb.size (fun _ => hb.block b hbH), h.inb, h.ne, fun hl => Nat.lt_of_lt_of_le (h.lt hl) hb.size, h.len⟩
theorem Rx.lt {w : World} {R b : Nat} {o : Option (List UInt8)} (h : Rx w R b o) : R < w.heap.size := by
  cases o with
  | none => obtain ⟨p, n, c, h⟩ := h; exact Blk.lt h
  | some L => obtain ⟨v, h⟩ := h; exact Blk.lt h.rq
theorem grown_cell {w w' : World} {r : Option Nat} {g i : Nat} {u : Value} (h : w.grownBy w' r) (hg : w.heap.size ≤ g) : w.grownBy (w'.setCell ⟨g, i, none⟩ u) r := by
  refine ⟨h.os, h.tape, h.output, by have := h.size; simpa using this, fun k hk hne => ?_⟩
  rw [Below.heap_setCell _ _ _ _ (by simp only; omega)]
  exact h.block k hk hne
theorem below_cell {w w' : World} {H g i : Nat} {u : Value} (h : Below H w w') (hg : H ≤ g) : Below H w (w'.setCell ⟨g, i, none⟩ u) := by
  refine ⟨h.os, h.tape, h.output, by have := h.size; simpa using this, fun k hk => ?_⟩
  rw [Below.heap_setCell _ _ _ _ (by simp only; omega)]
  exact h.block k hk
abbrev retV (o : Option Vl) (u : Value) (_ : World) : Prop := ∃ y : Vl, u = vv y ∧ ∀ x, o = some x → y = x
theorem vr_bind (o : Option (List UInt8)) : o.bind vR = (o.bind (nR 3)).bind (fun x => vtR x.1 x.2) := by
  cases o with
  | none => rfl
  | some L =>
    show bindR (nR 3) vtR L = (nR 3 L).bind _
    unfold bindR
    cases nR 3 L <;> rfl
abbrev zeroV : Array Value := #[.int .i64 0, .int .i64 0, .string ⟨#[]⟩, .bool false]
theorem int_beq1 (n : Nat) : ((n : Int) == 1) = (n == 1) := by rw [Bool.eq_iff_iff, beq_iff_eq, beq_iff_eq]; omega
set_option maxHeartbeats 4000000 in
set_option maxRecDepth 20000 in
theorem rvalueX (R b : Nat) (o : Option (List UInt8)) (w : World) (hS : Rx w R b o) (hb : b < w.heap.size) : Calls Try.prog 56 #[.pointer (some ⟨R, 0, none⟩)] w (RdX R b (o.bind vR) retV w) := by
  have hRl := hS.lt
  have HN := Lib.hid (rnumX R b o 3 (by decide) _ (hS.below (below_one w (.cells #[.int .i64 0, .int .i64 0, .string ⟨#[]⟩, .bool false] 79)) hRl hb))
  have HK0 := Lib.hid (Blk.new w 79 #[.int .i64 0, .int .i64 0, .string ⟨#[]⟩, .bool false])
  have HB0 := Lib.hid (below_one w (.cells #[.int .i64 0, .int .i64 0, .string ⟨#[]⟩, .bool false] 79))
  rw [vr_bind]
  have h3 : ∀ k D, o.bind (nR 3) = some (k, D) → k ≤ 3 := fun k D h => by
    cases o with
    | none => cases h
    | some L => exact ((codec_n (by decide)).only L k D h).1
  clear hS
  obtain ⟨O1, hO1⟩ : ∃ O1, o.bind (nR 3) = O1 := ⟨_, rfl⟩
  rw [hO1] at HN h3 ⊢
  clear hO1
  obtain ⟨A, hA⟩ : ∃ A, w.heap.size = A := ⟨_, rfl⟩
  have HA := Lib.hid hA
  rw [hA] at HK0 HB0 hb hRl
  have hcase : (O1 = none ∨ ∃ D, O1 = some (0, D)) ∨ (∃ D, O1 = some (1, D)) ∨ (∃ D, O1 = some (2, D)) ∨ (∃ D, O1 = some (3, D)) := by
    rcases O1 with _ | ⟨k, D⟩
    · exact .inl (.inl rfl)
    · have := h3 k D rfl
      obtain rfl | rfl | rfl | rfl : k = 0 ∨ k = 1 ∨ k = 2 ∨ k = 3 := by omega
      · exact .inl (.inr ⟨D, rfl⟩)
      · exact .inr (.inl ⟨D, rfl⟩)
      · exact .inr (.inr (.inl ⟨D, rfl⟩))
      · exact .inr (.inr (.inr ⟨D, rfl⟩))
  clear h3
  rcases hcase with h0 | ⟨D, rfl⟩ | ⟨D, rfl⟩ | ⟨D, rfl⟩
  · have h1 : (O1.map Prod.fst).getD 0 = 0 := by
      rcases h0 with rfl | ⟨D, rfl⟩ <;> rfl
    have HE : Hid (∀ W, Rx W R b (O1.map Prod.snd) → w.grownBy W (some R) → RdX R b (O1.bind fun x => vtR x.1 x.2) retV w (.returned (vv ⟨0, 0, ⟨#[]⟩, false⟩)) W) := Lib.hid (fun W h2 h3 => by
      rcases h0 with rfl | ⟨D, rfl⟩
      · exact ⟨_, rfl, ⟨_, rfl, fun x h => by cases h⟩, h2, h3⟩
      · exact ⟨_, rfl, ⟨_, rfl, fun x h => by cases h; rfl⟩, h2, h3⟩)
    clear h0
    go_enter Try.func56, Try.ntmps56
    go_wp2_with fail
    refine HN.out.mono ?_; rintro e w1 ⟨u, rfl, hu, hX, hG⟩
    replace hu : u = .int .u64 ((O1.map Prod.fst).getD 0 : Nat) := hu
    rw [h1] at hu
    subst hu
    have hz1 := hG.size
    have hz0 := HB0.out.size
    have HX := Lib.hid hX
    have HG := Lib.hid hG
    have hK := HK0.out.grown hG (by intro e; have := Option.some.inj e; omega)
    have k0 := fun o => (hK.alloc o).cell 0 (u := .int .i64 0) rfl
    have k1 := fun o => (hK.alloc o).cell 1 (u := .int .i64 0) rfl
    have k2 := fun o => (hK.alloc o).cell 2 (u := .string ⟨#[]⟩) rfl
    have k3 := fun o => (hK.alloc o).cell 3 (u := .bool false) rfl
    have g0 := fun o => (hK.alloc o).free 0
    have g1 := fun o => (hK.alloc o).free 1
    have g2 := fun o => (hK.alloc o).free 2
    have g3 := fun o => (hK.alloc o).free 3
    clear hX hG hK h1
    go_wp2_with fail
    refine bodyPost_ret (v := vv ⟨0, 0, ⟨#[]⟩, false⟩) (by simp [results, Try.results56, go_sem, k0, k1, k2, k3]) rfl ?_
    refine HE.out _ (((HX.out.below (below_one w1 _) (by omega) (by omega))).below (H := A) (below_cell (below_cell (below_cell (below_cell (Below.refl _ _) (Nat.le_refl _)) (Nat.le_refl _)) (Nat.le_refl _)) (Nat.le_refl _)) hRl hb) ?_
    have hA' := HA.out
    exact grown_cell (grown_cell (grown_cell (grown_cell (grown_then (grown_then (grown_below (below_one w _) _) HG.out (.inl rfl)) (grown_below (below_one w1 _) _) (.inl rfl)) (by omega)) (by omega)) (by omega)) (by omega)
  · obtain ⟨N, hN⟩ : ∃ N, ((iR D).map Prod.fst).getD 0 = N := ⟨_, rfl⟩
    have HE : Hid (∀ W, Rx W R b ((iR D).map Prod.snd) → w.grownBy W (some R) → RdX R b ((some (1, D)).bind fun x => vtR x.1 x.2) retV w (.returned (vv ⟨1, N, ⟨#[]⟩, false⟩)) W) := Lib.hid (fun W h2 h3 => by
      have e : ((some ((1 : Nat), D)).bind fun x => vtR x.1 x.2) = (iR D).map (fun p => ((⟨1, p.1, ⟨#[]⟩, false⟩ : Vl), p.2)) := by
        show vtR 1 D = _
        cases hr : iR D <;> simp [vtR, bR, mapR, hr]
      rw [e]
      cases hr : iR D with
      | none => rw [hr] at h2; exact ⟨_, rfl, ⟨_, rfl, fun x h => by cases h⟩, h2, h3⟩
      | some q =>
        obtain ⟨n, r⟩ := q
        rw [hr] at h2 hN
        simp only [Option.map_some, Option.getD_some] at hN
        subst hN
        exact ⟨_, rfl, ⟨_, rfl, fun x h => by simp only [Option.map_some, Option.some.injEq] at h; rw [← h]⟩, h2, h3⟩)
    have HC2 := Lib.hid (fun W (h : Rx W R b (some D)) => rsignedX R b (some D) W h)
    go_enter Try.func56, Try.ntmps56
    go_wp2_with fail
    refine HN.out.mono ?_; rintro e w1 ⟨u, rfl, hu, hX, hG⟩
    replace hu : u = .int .u64 ((1 : Nat) : Int) := hu
    subst hu
    have hz1 := hG.size
    have hz0 := HB0.out.size
    have hz00 := HK0.out.lt
    have HX := Lib.hid (hX.below (below_one w1 (.cells #[.int .i64 1, .int .i64 0, .string ⟨#[]⟩, .bool false] 79)) (by omega) (by omega))
    have HG := Lib.hid (grown_then (grown_then (grown_below (below_one w (.cells zeroV 79)) (some R)) hG (.inl rfl)) (grown_below (below_one w1 (.cells #[.int .i64 1, .int .i64 0, .string ⟨#[]⟩, .bool false] 79)) (some R)) (.inl rfl))
    have HK := Lib.hid ((HK0.out.grown hG (by intro e; have := Option.some.inj e; omega)).alloc (.cells #[.int .i64 1, .int .i64 0, .string ⟨#[]⟩, .bool false] 79))
    have HL := Lib.hid (Blk.new w1 79 #[.int .i64 1, .int .i64 0, .string ⟨#[]⟩, .bool false])
    obtain ⟨B, hB⟩ : ∃ B, w1.heap.size = B := ⟨_, rfl⟩
    rw [hB] at hz1 HL
    have hAB : A < B := by omega
    clear hX hG
    go_wp2_with fail
    refine (HC2.out _ HX.out).mono ?_; rintro e w3 ⟨u, rfl, hu, hX3, hG3⟩
    replace hu : u = .int .i64 (((iR D).map Prod.fst).getD 0) := hu
    rw [hN] at hu
    subst hu
    have HX3 := Lib.hid hX3
    have HG3 := Lib.hid (grown_then HG.out hG3 (.inl rfl))
    have hK3 := HK.out.grown hG3 (by intro e; have := Option.some.inj e; omega)
    have hL3 := HL.out.grown hG3 (by intro e; have := Option.some.inj e; omega)
    have l0 := hL3.cell 0 (u := .int .i64 1) rfl
    have l1 := hL3.cell 1 (u := .int .i64 0) rfl
    have l2 := hL3.cell 2 (u := .string ⟨#[]⟩) rfl
    have l3 := hL3.cell 3 (u := .bool false) rfl
    have m1 := hL3.free 1
    have k0 := fun u => (hK3.other (i := 1) (show A ≠ B by omega) u).cell 0 (u := .int .i64 0) rfl
    have k1 := fun u => (hK3.other (i := 1) (show A ≠ B by omega) u).cell 1 (u := .int .i64 0) rfl
    have k2 := fun u => (hK3.other (i := 1) (show A ≠ B by omega) u).cell 2 (u := .string ⟨#[]⟩) rfl
    have k3 := fun u => (hK3.other (i := 1) (show A ≠ B by omega) u).cell 3 (u := .bool false) rfl
    have g0 := fun u => (hK3.other (i := 1) (show A ≠ B by omega) u).free 0
    have g1 := fun u => (hK3.other (i := 1) (show A ≠ B by omega) u).free 1
    have g2 := fun u => (hK3.other (i := 1) (show A ≠ B by omega) u).free 2
    have g3 := fun u => (hK3.other (i := 1) (show A ≠ B by omega) u).free 3
    clear hX3 hG3 hK3 hL3
    go_wp2_with fail
    refine bodyPost_ret (v := vv ⟨1, N, ⟨#[]⟩, false⟩) (by simp [results, Try.results56, go_sem, k0, k1, k2, k3]) rfl ?_
    refine HE.out _ (HX3.out.below (H := A) (below_cell (below_cell (below_cell (below_cell (below_cell (Below.refl _ _) (by omega)) (Nat.le_refl _)) (Nat.le_refl _)) (Nat.le_refl _)) (Nat.le_refl _)) hRl hb) ?_
    have hA' := HA.out
    exact grown_cell (grown_cell (grown_cell (grown_cell (grown_cell HG3.out (by omega)) (by omega)) (by omega)) (by omega)) (by omega)
  · obtain ⟨N, hN⟩ : ∃ N, ((sR 32 D).map Prod.fst).getD ⟨#[]⟩ = N := ⟨_, rfl⟩
    have HE : Hid (∀ W, Rx W R b ((sR 32 D).map Prod.snd) → w.grownBy W (some R) → RdX R b ((some (2, D)).bind fun x => vtR x.1 x.2) retV w (.returned (vv ⟨2, 0, N, false⟩)) W) := Lib.hid (fun W h2 h3 => by
      have e : ((some ((2 : Nat), D)).bind fun x => vtR x.1 x.2) = (sR 32 D).map (fun p => ((⟨2, 0, p.1, false⟩ : Vl), p.2)) := by
        show vtR 2 D = _
        cases hr : sR 32 D <;> simp [vtR, bR, mapR, hr]
      rw [e]
      cases hr : sR 32 D with
      | none => rw [hr] at h2; exact ⟨_, rfl, ⟨_, rfl, fun x h => by cases h⟩, h2, h3⟩
      | some q =>
        obtain ⟨n, r⟩ := q
        rw [hr] at h2 hN
        simp only [Option.map_some, Option.getD_some] at hN
        subst hN
        exact ⟨_, rfl, ⟨_, rfl, fun x h => by simp only [Option.map_some, Option.some.injEq] at h; rw [← h]⟩, h2, h3⟩)
    have HC2 := Lib.hid (fun W (h : Rx W R b (some D)) => rtextX R b (some D) 32 (by decide) W h)
    go_enter Try.func56, Try.ntmps56
    go_wp2_with fail
    refine HN.out.mono ?_; rintro e w1 ⟨u, rfl, hu, hX, hG⟩
    replace hu : u = .int .u64 ((2 : Nat) : Int) := hu
    subst hu
    have hz1 := hG.size
    have hz0 := HB0.out.size
    have hz00 := HK0.out.lt
    have HX := Lib.hid (hX.below (below_one w1 (.cells #[.int .i64 2, .int .i64 0, .string ⟨#[]⟩, .bool false] 79)) (by omega) (by omega))
    have HG := Lib.hid (grown_then (grown_then (grown_below (below_one w (.cells zeroV 79)) (some R)) hG (.inl rfl)) (grown_below (below_one w1 (.cells #[.int .i64 2, .int .i64 0, .string ⟨#[]⟩, .bool false] 79)) (some R)) (.inl rfl))
    have HK := Lib.hid ((HK0.out.grown hG (by intro e; have := Option.some.inj e; omega)).alloc (.cells #[.int .i64 2, .int .i64 0, .string ⟨#[]⟩, .bool false] 79))
    have HL := Lib.hid (Blk.new w1 79 #[.int .i64 2, .int .i64 0, .string ⟨#[]⟩, .bool false])
    obtain ⟨B, hB⟩ : ∃ B, w1.heap.size = B := ⟨_, rfl⟩
    rw [hB] at hz1 HL
    have hAB : A < B := by omega
    clear hX hG
    go_wp2_with fail
    refine (HC2.out _ HX.out).mono ?_; rintro e w3 ⟨u, rfl, hu, hX3, hG3⟩
    replace hu : u = .string (((sR 32 D).map Prod.fst).getD ⟨#[]⟩) := hu
    rw [hN] at hu
    subst hu
    have HX3 := Lib.hid hX3
    have HG3 := Lib.hid (grown_then HG.out hG3 (.inl rfl))
    have hK3 := HK.out.grown hG3 (by intro e; have := Option.some.inj e; omega)
    have hL3 := HL.out.grown hG3 (by intro e; have := Option.some.inj e; omega)
    have l0 := hL3.cell 0 (u := .int .i64 2) rfl
    have l1 := hL3.cell 1 (u := .int .i64 0) rfl
    have l2 := hL3.cell 2 (u := .string ⟨#[]⟩) rfl
    have l3 := hL3.cell 3 (u := .bool false) rfl
    have m2 := hL3.free 2
    have k0 := fun u => (hK3.other (i := 2) (show A ≠ B by omega) u).cell 0 (u := .int .i64 0) rfl
    have k1 := fun u => (hK3.other (i := 2) (show A ≠ B by omega) u).cell 1 (u := .int .i64 0) rfl
    have k2 := fun u => (hK3.other (i := 2) (show A ≠ B by omega) u).cell 2 (u := .string ⟨#[]⟩) rfl
    have k3 := fun u => (hK3.other (i := 2) (show A ≠ B by omega) u).cell 3 (u := .bool false) rfl
    have g0 := fun u => (hK3.other (i := 2) (show A ≠ B by omega) u).free 0
    have g1 := fun u => (hK3.other (i := 2) (show A ≠ B by omega) u).free 1
    have g2 := fun u => (hK3.other (i := 2) (show A ≠ B by omega) u).free 2
    have g3 := fun u => (hK3.other (i := 2) (show A ≠ B by omega) u).free 3
    clear hX3 hG3 hK3 hL3
    go_wp2_with fail
    refine bodyPost_ret (v := vv ⟨2, 0, N, false⟩) (by simp [results, Try.results56, go_sem, k0, k1, k2, k3]) rfl ?_
    refine HE.out _ (HX3.out.below (H := A) (below_cell (below_cell (below_cell (below_cell (below_cell (Below.refl _ _) (by omega)) (Nat.le_refl _)) (Nat.le_refl _)) (Nat.le_refl _)) (Nat.le_refl _)) hRl hb) ?_
    have hA' := HA.out
    exact grown_cell (grown_cell (grown_cell (grown_cell (grown_cell HG3.out (by omega)) (by omega)) (by omega)) (by omega)) (by omega)
  · obtain ⟨N, hN⟩ : ∃ N, ((nR 1 D).map Prod.fst).getD 0 = N := ⟨_, rfl⟩
    have HE : Hid (∀ W, Rx W R b ((nR 1 D).map Prod.snd) → w.grownBy W (some R) → RdX R b ((some (3, D)).bind fun x => vtR x.1 x.2) retV w (.returned (vv ⟨3, 0, ⟨#[]⟩, (N : Int) == 1⟩)) W) := Lib.hid (fun W h2 h3 => by
      have e : ((some ((3 : Nat), D)).bind fun x => vtR x.1 x.2) = (nR 1 D).map (fun p => ((⟨3, 0, ⟨#[]⟩, p.1 == 1⟩ : Vl), p.2)) := by
        show vtR 3 D = _
        cases hr : nR 1 D <;> simp [vtR, bR, mapR, hr]
      rw [e]
      cases hr : nR 1 D with
      | none => rw [hr] at h2; exact ⟨_, rfl, ⟨_, rfl, fun x h => by cases h⟩, h2, h3⟩
      | some q =>
        obtain ⟨n, r⟩ := q
        rw [hr] at h2 hN
        simp only [Option.map_some, Option.getD_some] at hN
        subst hN
        exact ⟨_, rfl, ⟨_, rfl, fun x h => by simp only [Option.map_some, Option.some.injEq] at h; rw [← h]; rw [int_beq1]⟩, h2, h3⟩)
    have HC2 := Lib.hid (fun W (h : Rx W R b (some D)) => rnumX R b (some D) 1 (by decide) W h)
    go_enter Try.func56, Try.ntmps56
    go_wp2_with fail
    refine HN.out.mono ?_; rintro e w1 ⟨u, rfl, hu, hX, hG⟩
    replace hu : u = .int .u64 ((3 : Nat) : Int) := hu
    subst hu
    have hz1 := hG.size
    have hz0 := HB0.out.size
    have hz00 := HK0.out.lt
    have HX := Lib.hid (hX.below (below_one w1 (.cells #[.int .i64 3, .int .i64 0, .string ⟨#[]⟩, .bool false] 79)) (by omega) (by omega))
    have HG := Lib.hid (grown_then (grown_then (grown_below (below_one w (.cells zeroV 79)) (some R)) hG (.inl rfl)) (grown_below (below_one w1 (.cells #[.int .i64 3, .int .i64 0, .string ⟨#[]⟩, .bool false] 79)) (some R)) (.inl rfl))
    have HK := Lib.hid ((HK0.out.grown hG (by intro e; have := Option.some.inj e; omega)).alloc (.cells #[.int .i64 3, .int .i64 0, .string ⟨#[]⟩, .bool false] 79))
    have HL := Lib.hid (Blk.new w1 79 #[.int .i64 3, .int .i64 0, .string ⟨#[]⟩, .bool false])
    obtain ⟨B, hB⟩ : ∃ B, w1.heap.size = B := ⟨_, rfl⟩
    rw [hB] at hz1 HL
    have hAB : A < B := by omega
    clear hX hG
    go_wp2_with fail
    refine (HC2.out _ HX.out).mono ?_; rintro e w3 ⟨u, rfl, hu, hX3, hG3⟩
    replace hu : u = .int .u64 (((nR 1 D).map Prod.fst).getD 0 : Nat) := hu
    rw [hN] at hu
    subst hu
    have HX3 := Lib.hid hX3
    have HG3 := Lib.hid (grown_then HG.out hG3 (.inl rfl))
    have hK3 := HK.out.grown hG3 (by intro e; have := Option.some.inj e; omega)
    have hL3 := HL.out.grown hG3 (by intro e; have := Option.some.inj e; omega)
    have l0 := hL3.cell 0 (u := .int .i64 3) rfl
    have l1 := hL3.cell 1 (u := .int .i64 0) rfl
    have l2 := hL3.cell 2 (u := .string ⟨#[]⟩) rfl
    have l3 := hL3.cell 3 (u := .bool false) rfl
    have m3 := hL3.free 3
    have k0 := fun u => (hK3.other (i := 3) (show A ≠ B by omega) u).cell 0 (u := .int .i64 0) rfl
    have k1 := fun u => (hK3.other (i := 3) (show A ≠ B by omega) u).cell 1 (u := .int .i64 0) rfl
    have k2 := fun u => (hK3.other (i := 3) (show A ≠ B by omega) u).cell 2 (u := .string ⟨#[]⟩) rfl
    have k3 := fun u => (hK3.other (i := 3) (show A ≠ B by omega) u).cell 3 (u := .bool false) rfl
    have g0 := fun u => (hK3.other (i := 3) (show A ≠ B by omega) u).free 0
    have g1 := fun u => (hK3.other (i := 3) (show A ≠ B by omega) u).free 1
    have g2 := fun u => (hK3.other (i := 3) (show A ≠ B by omega) u).free 2
    have g3 := fun u => (hK3.other (i := 3) (show A ≠ B by omega) u).free 3
    clear hX3 hG3 hK3 hL3
    go_wp2_with fail
    refine bodyPost_ret (v := vv ⟨3, 0, ⟨#[]⟩, (N : Int) == 1⟩) (by simp [results, Try.results56, go_sem, k0, k1, k2, k3]) rfl ?_
    refine HE.out _ (HX3.out.below (H := A) (below_cell (below_cell (below_cell (below_cell (below_cell (Below.refl _ _) (by omega)) (Nat.le_refl _)) (Nat.le_refl _)) (Nat.le_refl _)) (Nat.le_refl _)) hRl hb) ?_
    have hA' := HA.out
    exact grown_cell (grown_cell (grown_cell (grown_cell (grown_cell HG3.out (by omega)) (by omega)) (by omega)) (by omega)) (by omega)
end Go.Proofs.Ytkfheodcmhodpaa.Gm
