/- The walk of FrameKnown. -/
import Derived.Test.YtnhdnmlclnndoaaDoorFmv
import Derived.Laws.MakeOwn
set_option linter.unusedSimpArgs false
set_option linter.unusedVariables false
namespace Go.Proofs.YtnhdnmlclnndoaaDoor.Crc
open Go Go.RowKit Gm
attribute [local go_sem ↓] Go.wp_at_zero Go.wp_at_succ

def zeros (n : Nat) : List UInt8 := List.replicate n 0
theorem zeros_length (n : Nat) : (zeros n).length = n := List.length_replicate
theorem zeros_getD (n i : Nat) (h : i < n) : (zeros n).getD i 0 = 0 := by
  unfold zeros
  rw [List.getD_eq_getElem?_getD, List.getElem?_replicate, if_pos h]; rfl
def Zs (n : Nat) : Array Value := madeCells (Value.int .u8 0).cells (n * 1)
theorem mkz (n : Nat) (hn : n ≤ 100000) (W : World) : (Instr.makeSlice 22 (.int .i64 (n : Int)) (.int .i64 (n : Int))).run Tryd.prog W = .ok (.slice (some ⟨W.heap.size, 0, none⟩) n n) (W.alloc (.cells (Zs n) 5)) := by
  obtain ⟨i0, ii, iz0, iz1, iz2⟩ := info_parts infoB
  have h := run_makeSlice (P := Tryd.prog) (w := W) 22 5 i0 (.int .u8 0) Tryd.underlying22 ii iz0 .i64 .i64 (n : Int) (n : Int) (by omega) (Int.le_refl _) (by rw [iz1]; omega) (by rw [iz2]; omega) (by omega)
  rw [iz1] at h
  simpa [Zs] using h
theorem Zs_at (n i : Nat) (h : i < n) : (Zs n)[i]? = some (byteV 0) := by
  unfold Zs madeCells
  simp [h, Value.cells, Nat.mod_one]
theorem bs_zeros (W : World) (n : Nat) : Bs (W.alloc (.cells (Zs n) 5)) (.slice (some ⟨W.heap.size, 0, none⟩) n n) (zeros n) := by
  refine .inr ⟨⟨W.heap.size, 0, none⟩, n, by rw [zeros_length], by rw [zeros_length]; exact Nat.le_refl _, fun _ => ⟨W.heap.size, 0, rfl, by simp, fun i hi => ?_⟩⟩
  rw [zeros_length] at hi
  rw [zeros_getD n i hi, Nat.zero_add]
  exact (Blk.new W 5 (Zs n)).cell i (Zs_at n i hi)
theorem kn_may : mayR (zeros 2048) = true := by rw [mayR_iff, zeros_length]; omega
theorem kn_one : splitR (frm (zeros 2048)) = [zeros 2048] := by
  have h := split_app [zeros 2048] [] (by intro r hr; rw [List.mem_singleton] at hr; rw [hr]; exact kn_may)
  rw [List.append_nil, frms_cons, frms_nil, List.append_nil] at h
  rw [h]; rfl
theorem kn_cut : splitR ((frm (zeros 2048)).take 2055) = [] := split_none (one_cut kn_may (by rw [zeros_length]; omega))
theorem kn_nil : splitR [] = [] := rfl
def kn_long : List UInt8 := [1, 0, 0, 1, 120, 0, 0, 0, 0, 0, 0]
theorem kn_lo : splitR kn_long = [] := split_none (by decide +kernel)
theorem kn_size : sizeR (zeros 2049) = 0 := by
  unfold sizeR
  have : mayR (zeros 2049) = false := by
    have h := mayR_iff (zeros 2049)
    rw [zeros_length] at h
    cases e : mayR (zeros 2049) with
    | false => rfl
    | true => have := h.1 e; omega
  rw [this]; rfl
theorem kn_put : putE (zeros 2049) = 3 ∧ putB (zeros 2049) = [] := put_long (by rw [zeros_length]; omega)
set_option maxHeartbeats 16000000 in
set_option maxRecDepth 100000 in
theorem law_fknown (W : World) (hE : Env W) : Calls Tryd.prog 8 #[] W (Gives (.bool true) W) := by
  have HE := Lib.hid hE
  have m1 : ∀ X : World, (Instr.makeSlice 22 (.int .i64 2048) (.int .i64 2048)).run Tryd.prog X = .ok (.slice (some ⟨X.heap.size, 0, none⟩) 2048 2048) (X.alloc (.cells (Zs 2048) 5)) := fun X => mkz 2048 (by decide) X
  have m2 : ∀ X : World, (Instr.makeSlice 22 (.int .i64 2049) (.int .i64 2049)).run Tryd.prog X = .ok (.slice (some ⟨X.heap.size, 0, none⟩) 2049 2049) (X.alloc (.cells (Zs 2049) 5)) := fun X => mkz 2049 (by decide) X
  obtain ⟨Z1, hZ1⟩ : ∃ Z, Zs 2048 = Z := ⟨_, rfl⟩
  obtain ⟨Z2, hZ2⟩ : ∃ Z, Zs 2049 = Z := ⟨_, rfl⟩
  have HZ1 := Lib.hid (fun X => by have := bs_zeros X 2048; rw [hZ1] at this; exact this)
  have HZ2 := Lib.hid (fun X => by have := bs_zeros X 2049; rw [hZ2] at this; exact this)
  rw [hZ1] at m1
  rw [hZ2] at m2
  clear hE hZ1 hZ2
  go_enter Tryd.func8, Tryd.ntmps8
  go_wp2_with fail
  have B0 := below_one W (.cells Z1 5)
  have HP := Lib.hid (fput_any _ (zeros 2048) _ (HE.out.below B0) (HZ1.out W))
  refine HP.out.mono ?_; intro e w1 h1
  obtain ⟨p1, c1, rfl, ho1, b1⟩ := h1.good kn_may
  rw [zeros_length] at ho1 ⊢
  have HB1 := Lib.hid (then_ B0 b1)
  have HO1 := Lib.hid ho1.bs
  clear h1 ho1 b1 HP B0 HZ1 m1
  have hlf : (frm (zeros 2048)).length = 2056 := by rw [frm_length, zeros_length]
  go_wp2_with fail
  have B1 := then_ HB1.out (below_one w1 (.cells Z2 5))
  have HP := Lib.hid (fput_any _ (zeros 2049) _ (HE.out.below B1) (HZ2.out w1))
  unfold PutR at HP
  rw [kn_put.1, kn_put.2] at HP
  refine HP.out.mono ?_; rintro e w2 ⟨v2, rfl, ho2, b2⟩
  obtain ⟨p2, c2, rfl⟩ := ho2.form
  rw [show ([] : List UInt8).length = 0 from rfl]
  have HB2 := Lib.hid (then_ B1 b2)
  have HO2 := Lib.hid (HO1.out.below ((below_one w1 (.cells Z2 5)).trans (b2.mono (by simp))))
  clear HP ho2 b2 B1 HO1
  have hO : Bs w2 (.slice p1 2056 c1) (frm (zeros 2048)) := HO2.out
  have hO' : Bs w2 (.slice p1 (frm (zeros 2048)).length c1) (frm (zeros 2048)) := by rw [hlf]; exact hO
  obtain ⟨pu, cu, ru, hu⟩ := slice_upto hO' (k := 2055) (by rw [hlf]; omega)
  rw [hlf] at ru
  have ru' : ∀ X : World, (Instr.slice 22 (.slice p1 2056 c1) none (some (.int .i64 2055)) none).run Tryd.prog X = .ok (.slice pu 2055 cu) X := ru
  have HU := Lib.hid hu
  have HSp := Lib.hid (split_any _ _ w2 (HE.out.below HB2.out) hO (by rw [hlf]; unfold maxSp; omega))
  clear hO hO' ru hu
  go_wp2_with fail
  refine HSp.out.mono ?_; intro e w3 h3
  obtain ⟨p3, c3, rfl, hr3, b3⟩ := h3.is kn_one
  rw [show ([zeros 2048] : List (List UInt8)).length = 1 from rfl] at hr3 ⊢
  rw [show wholeL [zeros 2048] = 2056 by rw [wholeL_cons, zeros_length]; rfl]
  have HB3 := Lib.hid (then_ HB2.out b3)
  have HR3 := Lib.hid hr3
  have HSp := Lib.hid (split_any _ _ w3 (HE.out.below HB3.out) (HU.out.below b3) (by rw [List.length_take, hlf]; unfold maxSp; omega))
  clear h3 hr3 b3 HU
  go_wp2_with fail
  refine HSp.out.mono ?_; intro e w4 h4
  obtain ⟨p4, c4, rfl, -, b4⟩ := h4.is kn_cut
  rw [show ([] : List (List UInt8)).length = 0 from rfl, show wholeL [] = 0 from rfl]
  have HB4 := Lib.hid (then_ HB3.out b4)
  have HR4 := Lib.hid (HR3.out.later b4)
  have HSp := Lib.hid (split_any _ [] w4 (HE.out.below HB4.out) (Bs.nil w4) (by decide))
  clear h4 b4 HR3
  go_wp2_with fail
  refine HSp.out.mono ?_; intro e w5 h5
  obtain ⟨p5, c5, rfl, -, b5⟩ := h5.is kn_nil
  rw [show ([] : List (List UInt8)).length = 0 from rfl, show wholeL [] = 0 from rfl]
  have HB5 := Lib.hid (then_ HB4.out b5)
  have HR5 := Lib.hid (HR4.out.later b5)
  clear h5 b5 HR4 HSp
  go_wp2_with fail
  have B6 := below_one w5 (.cells (cellsB kn_long).toArray 5)
  have HSp := Lib.hid (split_any _ kn_long _ (HE.out.below (then_ HB5.out B6)) (bs_const w5 kn_long _ 11 (0, 0) rfl rfl) (by decide))
  refine HSp.out.mono ?_; intro e w6 h6
  obtain ⟨p6, c6, rfl, -, b6⟩ := h6.is kn_lo
  rw [show ([] : List (List UInt8)).length = 0 from rfl, show wholeL [] = 0 from rfl]
  have HB6 := Lib.hid (then_ HB5.out (then_ B6 b6))
  have HR6 := Lib.hid (HR5.out.later (then_ B6 b6))
  clear h6 b6 HR5 HSp B6
  obtain ⟨g8, o8, x0, rfl, q0, t0⟩ := row_at HR6.out (k := 0) (by decide)
  rw [show ([zeros 2048] : List (List UInt8)).getD 0 [] = zeros 2048 from rfl] at t0
  obtain ⟨pa, ca, rfl⟩ := t0.form
  rw [zeros_length] at q0
  rw [Nat.add_zero] at q0
  have hidx0 := idx_r (some ⟨g8, o8, none⟩) g8 o8 1 c3 0 rfl (by decide)
  rw [Nat.add_zero] at hidx0
  clear t0 HR6
  go_wp2_with fail
  have B7 := below_one w6 (.cells Z2 5)
  have HSz := Lib.hid (size_any _ (zeros 2049) (by rw [zeros_length]; decide) _ (HZ2.out w6))
  rw [kn_size] at HSz
  have HB7 := Lib.hid (then_ HB6.out B7)
  refine HSz.out.mono ?_; rintro e w7 ⟨rfl, rfl⟩
  have HWK := Lib.hid (wakes_any _ (HE.out.below HB7.out))
  clear HSz B7
  go_wp2_with fail
  refine HWK.out.mono ?_; rintro e w8 ⟨rfl, b8⟩
  have HB8 := Lib.hid (then_ HB7.out b8)
  clear HWK b8
  go_wp2_with fail
  go_ret
  exact ⟨rfl, HB8.out⟩
end Go.Proofs.YtnhdnmlclnndoaaDoor.Crc
