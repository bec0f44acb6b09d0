/- Layer 10: the walk of DiskErrors. -/
import Derived.Test.YtnhdnmlclnndoaaDld
set_option linter.unusedSimpArgs false
set_option linter.unusedVariables false
namespace Go.Proofs.Ytnhdnmlclnndoaa.Gm
open Go Go.RowKit Go.Maps
attribute [local go_sem ↓] Go.wp_at_zero Go.wp_at_succ

theorem DkAt.up {B g bm t t' : Nat} {V : View} {q fu : Int} {off : Bool} {w : World} (h : DkAt B g bm t V q fu off w) (ht : t ≤ t') : DkAt B g bm t' V q fu off w := by
  obtain ⟨nn, D, L, h1, h2⟩ := h
  exact ⟨nn, D, L, h1.up ht, h2⟩
theorem StepV.at_ {W0 : World} {B g bm t nn : Nat} {L : List Ent} {V' : View} {D : DataW Value} {q fu q' fu' : Int} {off off' : Bool} {w w' : World} (hS : StepV B g bm t L V' q' fu' off' w w') (h : Dsk B g bm t nn w D L q fu off) (hb : Below B W0 w) : DkAt B g bm (t + 2) V' q' fu' off' w' ∧ Below B W0 w' := by
  obtain ⟨L', ⟨nn', D', hD', hC, _⟩, hV⟩ := hS
  exact ⟨⟨nn', D', L', hD', hV⟩, h.went hb hC⟩
set_option maxHeartbeats 16000000 in
set_option maxRecDepth 100000 in
theorem law_derrors (quota : Int) (v1 : Value) (l : List Act10) (fz : Nat) (W : World) (hA : Acts W v1 l) (hfz : fz < 256) : Calls Try.prog 5 #[.int .i64 quota, v1, .int .u8 (fz : Nat)] W (Gives (.bool true) W) := by
  obtain ⟨p1, cap1, rfl⟩ := hA.form
  have hll := hA.2.1
  by_cases hq : 0 ≤ quota ∧ quota ≤ 4194304
  · have HNw := Lib.hid (new_yes quota hq W)
    have HA := Lib.hid hA
    obtain ⟨nl, hnl⟩ : ∃ n, l.length = n := ⟨_, rfl⟩
    have HNL := Lib.hid hnl
    rw [hnl] at hll ⊢
    obtain ⟨fn, hfn⟩ : ∃ n, fz % 21 = n := ⟨_, rfl⟩
    have hfn1 : Int.tmod (fz : Int) 21 = (fn : Int) := by rw [← hfn]; rfl
    have hfn2 : (fz : Int) % 21 = (fn : Int) := by rw [← hfn]; rfl
    have hfn3 : fn < 21 := by omega
    clear hA hnl hfn hq
    go_enter Try.func5, Try.ntmps5
    go_wp2_with fail
    refine HNw.out.mono ?_; rintro e w1 ⟨g, bm, rfl, hD, hgl, hbl, b1⟩
    have HB1 := Lib.hid b1
    obtain ⟨B, hB⟩ : ∃ B, W.heap.size = B := ⟨_, rfl⟩
    have HBB := Lib.hid hB
    rw [hB] at hD HB1
    have HF := Lib.hid (Fuse_v hD (fn : Int) (by omega))
    have hD1 : DkAt B g bm 0 [] quota (-1) false w1 := ⟨_, _, _, hD, rfl⟩
    have hDs := hD
    clear hD hgl hbl b1 HNw hB
    go_wp2_with fail
    refine HF.out.mono ?_; rintro e w2 ⟨rfl, hS⟩
    have hfc : fuseC (fn : Int) false = 0 := by unfold fuseC; rw [if_neg (by simp), if_neg (by omega)]
    rw [hfc, if_pos rfl] at hS
    rw [hfc]
    obtain ⟨hD2, hB2⟩ := hS.at_ hDs HB1.out
    have HBzW : Hid (B ≤ W.heap.size) := Lib.hid (by rw [HBB.out]; exact Nat.le_refl _)
    have HD2 : Hid (∃ V, DkAt B g bm (0 + 2) V quota (fn : Int) false w2) := Lib.hid ⟨_, hD2⟩
    have HB2 := Lib.hid hB2
    clear hfc hS hD2 hB2 HB1 HF hDs hD1
    go_wp2_with fail
    go_loopw [40, 10] (fun i dn wr => ∃ k d : Nat, k ≤ nl ∧ k ≤ 100 ∧ i = .int .i64 k ∧ dn = .int .i64 d ∧ d ≤ fn ∧ Hid (∃ V, DkAt B g bm (2 * k + 2) V quota ((fn : Int) - (d : Int)) false wr) ∧ Hid (Below B W wr)) (fun i _ _ => nl - (intOf i).toNat)
    case atStart => exact ⟨0, 0, by omega, by omega, rfl, rfl, by omega, Lib.hid (by simpa using HD2.out), HB2⟩
    case round =>
      obtain ⟨k, d, hk, hk1, rfl, rfl, hd, HDk, HBr⟩ := hrel
      clear HD2 HB2
      have HBz : Hid (B ≤ wr.heap.size) := Lib.hid (Nat.le_trans HBzW.out HBr.out.size)
      have HBz0 := HBzW
      obtain ⟨V, hDk⟩ := HDk.out
      have hDk2 := hDk
      obtain ⟨nn0, D0, L0, hD0, hV0⟩ := hDk2
      have HOff := Lib.hid (fun X (h : Below wr.heap.size wr X) => Off_v (hD0.later h))
      have HDV := Lib.hid hDk
      clear hDk hD0 hV0
      by_cases hkl : k < nl
      · have hki : k < l.length := by rw [HNL.out]; exact hkl
        obtain ⟨pp, cc, bb, ob, hv, rfl, hbl, c0, c1, c2, c3, c4, c5, hAI⟩ := cell_act10 HA.out hki
        simp only [Value.slice.injEq] at hv
        obtain ⟨rfl, -, rfl⟩ := hv
        have hidx := idx_a10 _ bb ob nl cap1 k rfl hkl
        obtain ⟨x, hx⟩ : ∃ x, l.getD k default = x := ⟨_, rfl⟩
        rw [hx] at c0 c1 c2 c3 c4 c5 hAI
        obtain ⟨a, vb, vp⟩ := x
        simp only at c0 c1 c2 c3 c4 c5 hAI
        have hWr : Below W.heap.size W wr := by rw [HBB.out]; exact HBr.out
        have c0 := cell_later hWr c0
        have c1 := cell_later hWr c1
        have c2 := cell_later hWr c2
        have c3 := cell_later hWr c3
        have c4 := cell_later hWr c4
        have c5 := cell_later hWr c5
        have HAI := Lib.hid hAI
        obtain ⟨what, nm, ot, bs, an, P⟩ := a
        simp only at c0 c1 c2 c3 c4 c5
        obtain ⟨pb, cb, rfl⟩ := hAI.bs.form
        obtain ⟨pq, cq, rfl, -⟩ := id hAI.pk
        simp only at c3 c5
        have HACT : Hid (∀ o, actO V quota ((fn : Int) - (d : Int)) false ⟨what, nm, ot, bs, an, P⟩ = o → True) := Lib.hid (fun _ _ => trivial)
        have HSh := Lib.hid (fun X (h : Below wr.heap.size wr X) => shape_any B g bm _ V quota _ false X (HDV.out.later h))
        have HDo := Lib.hid (fun X (h : Below wr.heap.size wr X) => do_any W B g bm _ V quota _ false ⟨what, nm, ot, bs, an, P⟩ _ _ X (HDV.out.later h) HBB.out.symm (below_then HBr.out (h.mono HBz.out)) HAI.out (by omega))
        have HKs := Lib.hid (fun (h : 0 ≤ what ∧ what ≤ 5) => act_kinds V quota ((fn : Int) - (d : Int)) ⟨what, nm, ot, bs, an, P⟩ h)
        unfold DoR at HDo
        obtain ⟨nb, hnb⟩ : ∃ n, bs.length = n := ⟨_, rfl⟩
        obtain ⟨np, hnp⟩ : ∃ n, P.length = n := ⟨_, rfl⟩
        obtain ⟨o, ho⟩ : ∃ o, actO V quota ((fn : Int) - (d : Int)) false ⟨what, nm, ot, bs, an, P⟩ = o := ⟨_, rfl⟩
        rw [ho] at HKs HDo
        simp only at HDo
        rw [hnb] at c3 HDo
        rw [hnp] at c5 HDo
        unfold encStr at c1 c2 HDo
        obtain ⟨S0, hS0⟩ : ∃ S, shapeS V false = S := ⟨_, rfl⟩
        have HS0 := Lib.hid hS0
        rw [hS0] at HSh
        clear hS0
        have HSS := Lib.hid (show True from trivial)
        clear hAI hx hWr hnb hnp ho hki hbl HACT HSS
        by_cases h100 : k = 100
        · subst h100
          have hidx3 : ∀ X, (Instr.indexAt 22 (.slice (some ⟨bb, ob, none⟩) nl cap1) (.int .i64 100)).run Try.prog X = .ok (.pointer (some ⟨bb, ob + 100 * 6, none⟩)) X := fun X => by simpa using hidx X
          have hBx := below_one wr (.cells #[.int .i64 what, .string ⟨nm.toArray⟩, .string ⟨ot.toArray⟩, .slice pb nb cb, .int .i64 an, .slice pq np cq] 34)
          have HAw := Lib.hid (awake10 (wr.alloc (.cells #[.int .i64 what, .string ⟨nm.toArray⟩, .string ⟨ot.toArray⟩, .slice pb nb cb, .int .i64 an, .slice pq np cq] 34)))
          have hdn : (d : Int) ≤ (fn : Int) := by omega
          have HBx := Lib.hid (below_then HBr.out (hBx.mono HBz.out))
          have HOff := Lib.hid (fun X (h : Below (wr.alloc (.cells #[.int .i64 what, .string ⟨nm.toArray⟩, .string ⟨ot.toArray⟩, .slice pb nb cb, .int .i64 an, .slice pq np cq] 34)).heap.size (wr.alloc (.cells #[.int .i64 what, .string ⟨nm.toArray⟩, .string ⟨ot.toArray⟩, .slice pb nb cb, .int .i64 an, .slice pq np cq] 34)) X) => HOff.out X (then_ hBx h))
          clear HDk HA HSh HDo HKs HAI HDV hBx hidx
          go_wp2_with fail
          refine HAw.out.mono ?_; rintro e w3 ⟨rfl, b3⟩
          have HB3 := Lib.hid (below_then HBx.out (b3.mono (Nat.le_trans HBzW.out HBx.out.size)))
          have HOf := Lib.hid (HOff.out _ b3)
          clear b3 HAw HOff
          go_wp2_with fail
          refine HOf.out.mono ?_; rintro e w4 ⟨rfl, b4⟩
          have HB4 := Lib.hid (below_then HB3.out (b4.mono (Nat.le_trans HBz0.out HB3.out.size)))
          clear b4 HOf HB3
          go_wp2_with fail
          go_ret
          exact ⟨rfl, by rw [HBB.out]; exact HB4.out⟩
        · skip
          have hBx := below_one wr (.cells #[.int .i64 what, .string ⟨nm.toArray⟩, .string ⟨ot.toArray⟩, .slice pb nb cb, .int .i64 an, .slice pq np cq] 34)
          have K := Blk.new wr 34 #[.int .i64 what, .string ⟨nm.toArray⟩, .string ⟨ot.toArray⟩, .slice pb nb cb, .int .i64 an, .slice pq np cq]
          have HBx := Lib.hid (below_then HBr.out (hBx.mono HBz.out))
          have hDx := HDV.out.later hBx
          have HSh0 := Lib.hid (HSh.out _ hBx)
          have hzx : (wr.alloc (.cells #[.int .i64 what, .string ⟨nm.toArray⟩, .string ⟨ot.toArray⟩, .slice pb nb cb, .int .i64 an, .slice pq np cq] 34)).heap.size = wr.heap.size + 1 := by simp
          obtain ⟨wx, hwx⟩ : ∃ wx, wr.alloc (.cells #[.int .i64 what, .string ⟨nm.toArray⟩, .string ⟨ot.toArray⟩, .slice pb nb cb, .int .i64 an, .slice pq np cq] 34) = wx := ⟨_, rfl⟩
          rw [hwx] at hBx K HBx hDx HSh0 hzx
          have HK := Lib.hid K
          have HDx := Lib.hid hDx
          have HXx := Lib.hid hBx
          have d0 := K.cell 0 (u := .int .i64 what) rfl
          clear hDx K hBx HDV HDk
          by_cases hw : 0 ≤ what ∧ what ≤ 5
          · have HKs := Lib.hid (HKs.out hw)
            have hw0 : ¬ (what < 0) := by omega
            have hw5 : ¬ (5 < what) := by omega
            go_wp2_with fail
            refine HSh0.out.mono ?_; rintro e w2 ⟨rfl, b2⟩
            have HXx2 := Lib.hid (then_ HXx.out b2)
            have HDo2 := Lib.hid (HDo.out _ HXx2.out)
            have K2 := HK.out.later b2
            have e0 := K2.cell 0 (u := .int .i64 what) rfl
            have e1 := K2.cell 1 (u := .string ⟨nm.toArray⟩) rfl
            have e2 := K2.cell 2 (u := .string ⟨ot.toArray⟩) rfl
            have e3 := K2.cell 3 (u := .slice pb nb cb) rfl
            have e4 := K2.cell 4 (u := .int .i64 an) rfl
            have e5 := K2.cell 5 (u := .slice pq np cq) rfl
            clear b2 HSh0 HDo hw HXx K2 d0 c0 c1 c2 c3 c4 c5 hidx
            go_wp2_with fail
            refine HDo2.out.mono ?_; rintro e w3 ⟨rfl, hD3, b3⟩
            have HB3 := Lib.hid b3
            have HD3 := Lib.hid hD3
            have HBz3 : Hid (B ≤ w3.heap.size) := Lib.hid (Nat.le_trans HBzW.out b3.size)
            clear hD3 b3 HDo2 e0 e1 e2 e3 e4 e5
            rcases HKs.out with ⟨c, hc0, hc8, ho⟩ | ⟨hf0, ho⟩ | ⟨hf0, V2, ho⟩
            · rw [ho] at HD3
              have hoc : o.c = c := by rw [ho]
              obtain ⟨nn3, D3, L3, hD3, hV3⟩ := id HD3.out
              have HOf3 := Lib.hid (fun X (h : Below w3.heap.size w3 X) => Off_v (hD3.later h))
              have HSh3 := Lib.hid (fun X (h : Below w3.heap.size w3 X) => shape_any B g bm _ V quota _ false X (HD3.out.later h))
              rw [HS0.out] at HSh3
              rw [hoc]
              clear hD3 hV3 ho hoc HKs
              go_wp2_with fail
              refine (HOf3.out _ (Below.refl _ _)).mono ?_; rintro e w4 ⟨rfl, b4⟩
              have HX4 := Lib.hid b4
              clear b4 HOf3
              go_wp2_with fail
              refine (HSh3.out _ HX4.out).mono ?_; rintro e w5 ⟨rfl, b5⟩
              have HX5 := Lib.hid (then_ HX4.out b5)
              clear b5 HSh3
              have HDn : Hid (∃ V, DkAt B g bm (2 * (k + 1) + 2) V quota ((fn : Int) - (d : Int)) false w5) := Lib.hid ⟨V, (HD3.out.later HX5.out).up (by omega)⟩
              have HBn := Lib.hid (below_then HB3.out (HX5.out.mono HBz3.out))
              go_wp2_with fail
              go_roundw
              case rel => exact ⟨k + 1, d, by omega, by omega, by go_num, rfl, hd, HDn, HBn⟩
              case measure => simp [intOf]; omega
            · rw [ho] at HD3
              have hoc : o.c = 8 := by rw [ho]
              have hdf : d = fn := by omega
              obtain ⟨nn3, D3, L3, hD3, hV3⟩ := id HD3.out
              have HOf3 := Lib.hid (fun X (h : Below w3.heap.size w3 X) => Off_v (hD3.later h))
              have HNm3 := Lib.hid (fun X (h : Below w3.heap.size w3 X) => Names_v (hD3.later h))
              have HAw := Lib.hid (awake10 w3)
              rw [show namesV (view L3) true = [] from rfl] at HNm3
              rw [hoc]
              clear hD3 hV3 ho hoc HKs hf0
              go_wp2_with fail
              refine HAw.out.mono ?_; rintro e w4 ⟨rfl, b4⟩
              have HX4 := Lib.hid b4
              clear b4 HAw
              go_wp2_with fail
              refine (HOf3.out _ HX4.out).mono ?_; rintro e w5 ⟨rfl, b5⟩
              have HX5 := Lib.hid (then_ HX4.out b5)
              clear b5 HOf3
              go_wp2_with fail
              refine (HNm3.out _ HX5.out).mono ?_; rintro e w6 ⟨v6, rfl, ho6, b6⟩
              obtain ⟨p6, c6, rfl⟩ := own_s ho6
              have HX6 := Lib.hid (below_then HB3.out ((then_ HX5.out b6).mono HBz3.out))
              rw [show ([] : List Nm).length = 0 from rfl]
              clear ho6 b6 HNm3
              go_wp2_with fail
              go_ret
              exact ⟨rfl, by rw [HBB.out]; exact HX6.out⟩
            · rw [ho] at HD3
              have hoc : o.c = 0 := by rw [ho]
              have hdl : d < fn := by omega
              have hfu : fuseN ((fn : Int) - (d : Int)) = (fn : Int) - ((d + 1 : Nat) : Int) := by unfold fuseN; rw [if_pos (by omega)]; omega
              have HDn : Hid (∃ V, DkAt B g bm (2 * (k + 1) + 2) V quota ((fn : Int) - ((d + 1 : Nat) : Int)) false w3) := Lib.hid ⟨V2, by have h := HD3.out; simp only at h; rw [hfu] at h; exact h.up (by omega)⟩
              rw [hoc]
              clear ho hoc HKs hf0 hfu HD3
              go_wp2_with fail
              go_roundw
              case rel => exact ⟨k + 1, d + 1, by omega, by omega, by go_num, by go_num, by omega, HDn, HB3⟩
              case measure => simp [intOf]; omega
          · have HDn : Hid (∃ V, DkAt B g bm (2 * (k + 1) + 2) V quota ((fn : Int) - (d : Int)) false wx) := Lib.hid ⟨V, HDx.out.up (by omega)⟩
            by_cases hw0 : what < 0
            · clear hw
              go_wp2_with fail
              go_roundw
              case rel => exact ⟨k + 1, d, by omega, by omega, by go_num, rfl, hd, HDn, HBx⟩
              case measure => simp [intOf]; omega
            · have hw5 : 5 < what := by omega
              clear hw
              go_wp2_with fail
              go_roundw
              case rel => exact ⟨k + 1, d, by omega, by omega, by go_num, rfl, hd, HDn, HBx⟩
              case measure => simp [intOf]; omega
      · obtain rfl : k = nl := by omega
        have HAw := Lib.hid (awake10 wr)
        have hdn : (d : Int) ≤ (fn : Int) := by omega
        clear HDk HA
        go_wp2_with fail
        refine HAw.out.mono ?_; rintro e w3 ⟨rfl, b3⟩
        have HB3 := Lib.hid (below_then HBr.out (b3.mono HBz.out))
        have HOf := Lib.hid (HOff.out _ b3)
        clear b3 HAw HOff
        go_wp2_with fail
        refine HOf.out.mono ?_; rintro e w4 ⟨rfl, b4⟩
        have HB4 := Lib.hid (below_then HB3.out (b4.mono (Nat.le_trans HBz0.out HB3.out.size)))
        clear b4 HOf HB3
        go_wp2_with fail
        go_ret
        exact ⟨rfl, by rw [HBB.out]; exact HB4.out⟩
  · have HNw := Lib.hid (new_no quota hq W)
    have HAw := Lib.hid (fun X => awake10 X)
    generalize l.length = nl at *
    clear hA hll hq
    go_enter Try.func5, Try.ntmps5
    go_wp2_with fail
    refine HNw.out.mono ?_; rintro e w1 ⟨rfl, b1⟩
    have HB1 := Lib.hid b1
    clear b1 HNw
    go_wp2_with fail
    refine (HAw.out _).mono ?_; rintro e w2 ⟨rfl, b2⟩
    have HB2 := Lib.hid (then_ HB1.out b2)
    clear b2
    go_wp2_with fail
    go_ret
    exact ⟨rfl, HB2.out⟩
end Go.Proofs.Ytnhdnmlclnndoaa.Gm
