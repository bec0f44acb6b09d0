/- The walk of CrcKnown. -/
import Derived.Test.YthoccemfdndkhaaDoorYs
import Derived.Test.YthoccemfdndkhaaDoorYr
set_option linter.unusedSimpArgs false
set_option linter.unusedVariables false
namespace Go.Proofs.YthoccemfdndkhaaDoor.Crc
open Go Go.RowKit Gm
attribute [local go_sem ↓] Go.wp_at_zero Go.wp_at_succ

abbrev z32 : Array Value := #[.int .u8 0, .int .u8 0, .int .u8 0, .int .u8 0, .int .u8 0, .int .u8 0, .int .u8 0, .int .u8 0, .int .u8 0, .int .u8 0, .int .u8 0, .int .u8 0, .int .u8 0, .int .u8 0, .int .u8 0, .int .u8 0, .int .u8 0, .int .u8 0, .int .u8 0, .int .u8 0, .int .u8 0, .int .u8 0, .int .u8 0, .int .u8 0, .int .u8 0, .int .u8 0, .int .u8 0, .int .u8 0, .int .u8 0, .int .u8 0, .int .u8 0, .int .u8 0]
def no32 : List UInt8 := List.replicate 32 0
def ff32 : List UInt8 := List.replicate 32 255
def up32 : List UInt8 := (List.range 32).map UInt8.ofNat
def no4 : List UInt8 := List.replicate 4 0
theorem z32_is : z32 = (cellsB no32).toArray := by rfl
theorem mk32 (W : World) : (Instr.makeSlice 22 (.int .i64 32) (.int .i64 32)).run Tryd.prog W = .ok (.slice (some ⟨W.heap.size, 0, none⟩) 32 32) (W.alloc (.cells z32 5)) := by kernel_rfl
theorem mk4 (W : World) : (Instr.makeSlice 22 (.int .i64 4) (.int .i64 4)).run Tryd.prog W = .ok (.slice (some ⟨W.heap.size, 0, none⟩) 4 4) (W.alloc (.cells #[.int .u8 0, .int .u8 0, .int .u8 0, .int .u8 0] 5)) := by kernel_rfl
theorem k1 : ((sumL no32).toNat : Int) = 2324772522 := by decide +kernel
theorem k2 : ((sumL ff32).toNat : Int) = 1655221059 := by decide +kernel
theorem k3 : ((sumL up32).toNat : Int) = 1188919630 := by decide +kernel
theorem n1 : takeE [] = 4 ∧ takeB [] = [] := by decide +kernel
theorem n2 : takeE no4 = 0 ∧ takeB no4 = [] := by decide +kernel
theorem ff_at {k : Nat} (h : k < 32) : ff32.getD k 0 = 255 := by
  rw [List.getD_eq_getElem?_getD, List.getElem?_eq_getElem (by simp [ff32, h])]
  simp only [ff32, List.getElem_replicate, Option.getD_some]
theorem up_at {k : Nat} (h : k < 32) : up32.getD k 0 = UInt8.ofNat k := by
  simp [up32, List.getD_eq_getElem?_getD, h]
theorem p0ff : partZ ff32 0 = no32 := by decide +kernel
theorem p0up : partZ up32 0 = no32 := by decide +kernel
theorem pff : partZ ff32 32 = ff32 := by decide +kernel
theorem pup : partZ up32 32 = up32 := by decide +kernel
theorem Row.other {w : World} {g b i : Nat} {M : List UInt8} (h : Row w g M) (hb : g ≠ b) (u : Value) : Row (w.setCell ⟨b, i, none⟩ u) g M := Blk.other h hb u
theorem Row.below {w w' : World} {g : Nat} {M : List UInt8} (h : Row w g M) (hb : Below w.heap.size w w') : Row w' g M := Blk.later h hb
theorem two_rows (W : World) : Row ((W.alloc (.cells z32 5)).alloc (.cells z32 5)).drew W.heap.size no32 ∧ Row ((W.alloc (.cells z32 5)).alloc (.cells z32 5)).drew (W.heap.size + 1) no32 ∧ Below W.heap.size W ((W.alloc (.cells z32 5)).alloc (.cells z32 5)).drew := by
  refine ⟨?_, ?_, ((below_one W _).alloc (by simp) _).drew⟩
  · exact Blk.later (Blk.new W 5 z32) ((below_one (W.alloc (.cells z32 5)) (.cells z32 5)).drew)
  · have h := Blk.new (W.alloc (.cells z32 5)) 5 z32
    have e : (W.alloc (.cells z32 5)).heap.size = W.heap.size + 1 := by simp
    rw [e] at h
    exact h
theorem up_conv {k : Nat} (h : k < 32) : IntKind.u8.wrap (k : Int) = ((UInt8.ofNat k).toNat : Int) ∧ (k : Int) % 256 = ((UInt8.ofNat k).toNat : Int) ∧ (k : Int) = ((UInt8.ofNat k).toNat : Int) := by
  rw [IntKind.wrap_u8', UInt8.toNat_ofNat']
  omega
set_option maxHeartbeats 4000000 in
set_option maxRecDepth 100000 in
theorem law_cknown (W : World) (hE : Env W) : Calls Tryd.prog 9 #[] W (Gives (.bool true) W) := by
  have HE := Lib.hid hE
  clear hE
  have hm := mk32
  have hm4 := mk4
  go_enter Tryd.func9, Tryd.ntmps9
  go_upto_region 1 with (fail)
  go_cut [1, 2] from 8 to 60 (fun x y wq => ∃ g1 g2, x = .slice (some ⟨g1, 0, none⟩) 32 32 ∧ y = .slice (some ⟨g2, 0, none⟩) 32 32 ∧ Hid (Row wq g1 no32 ∧ Row wq g2 no32 ∧ g1 ≠ g2 ∧ W.heap.size ≤ g1 ∧ W.heap.size ≤ g2 ∧ Below W.heap.size W wq))
  case first =>
    go_region
    all_goals
      obtain ⟨a1, a2, a3⟩ := two_rows W
      have A1 := Lib.hid a1
      have A2 := Lib.hid a2
      have A3 := Lib.hid a3
      clear a1 a2 a3
      go_wp2_with fail
      go_meet
      first
        | exact ⟨W.heap.size, W.heap.size + 1, rfl, rfl, Lib.hid ⟨A1.out, A2.out, by omega, by omega, by omega, A3.out⟩⟩
        | exact ⟨W.heap.size + 1, W.heap.size, rfl, rfl, Lib.hid ⟨A2.out, A1.out, by omega, by omega, by omega, A3.out⟩⟩
  case rest =>
    obtain ⟨g1, g2, rfl, rfl, HH⟩ := hcut
    have hne := HH.out.2.2.1
    go_wp2_with fail
    go_loopw [3] (fun i wr => ∃ (k : Nat), k ≤ 32 ∧ i = .int .i64 k ∧ Hid (Row wr g1 (partZ ff32 k)) ∧ Hid (Row wr g2 (partZ up32 k)) ∧ Hid (Below W.heap.size W wr)) (fun i _ => 32 - (intOf i).toNat)
    case atStart => exact ⟨0, by omega, rfl, Lib.hid (by rw [p0ff]; exact HH.out.1), Lib.hid (by rw [p0up]; exact HH.out.2.1), Lib.hid HH.out.2.2.2.2.2⟩
    case round =>
      obtain ⟨k, hk, rfl, HR1, HR2, HBr⟩ := hrel
      by_cases hk32 : k < 32
      · obtain ⟨u1, u2, u3⟩ := up_conv hk32
        have s1 := partZ_set ff32 (k := k) (by simpa [ff32] using hk32)
        have s2 := partZ_set up32 (k := k) (by simpa [up32] using hk32)
        rw [ff_at hk32] at s1
        rw [up_at hk32] at s2
        obtain ⟨c, hc⟩ : ∃ c, UInt8.ofNat k = c := ⟨_, rfl⟩
        rw [hc] at u1 u2 u3 s2
        have S1 := Lib.hid s1
        have S2 := Lib.hid s2
        have l1 := HR1.out.at (k := k) (by rw [partZ_length _ (by simp [ff32]; omega)]; simpa [ff32] using hk32)
        have f1 := Blk.free HR1.out k
        have R1 : Row (wr.setCell ⟨g1, k, none⟩ (.int .u8 255)) g1 ((partZ ff32 k).set k 255) := HR1.out.set k 255
        have R2 := HR2.out.other (i := k) (b := g1) (Ne.symm hne) (.int .u8 255)
        have l2 := R2.at (k := k) (by rw [partZ_length _ (by simp [up32]; omega)]; simpa [up32] using hk32)
        have f2 := Blk.free R2 k
        have R3 := R1.other (i := k) (b := g2) hne (byteV c)
        have R4 := R2.set k c
        rw [S1.out] at R3
        rw [S2.out] at R4
        have HR3 := Lib.hid R3
        have HR4 := Lib.hid R4
        have hBn : Below W.heap.size W ((wr.setCell ⟨g1, k, none⟩ (.int .u8 255)).setCell ⟨g2, k, none⟩ (byteV c)) :=
          (only_grown (grown_set (World.grownBy.refl (wr.setCell ⟨g1, k, none⟩ (.int .u8 255)) (some g2)) _)).below ((only_grown (grown_set (World.grownBy.refl wr (some g1)) _)).below HBr.out (by intro j hj; rw [List.mem_singleton.1 hj]; exact HH.out.2.2.2.1) HBr.out.size) (by intro j hj; rw [List.mem_singleton.1 hj]; exact HH.out.2.2.2.2.1) (by have := HBr.out.size; simpa using this)
        have HBn := Lib.hid hBn
        generalize (partZ ff32 k).getD k 0 = y1 at l1
        generalize (partZ up32 k).getD k 0 = y2 at l2
        clear R1 R2 R3 R4 s1 s2 hBn hc u3
        go_wp2_with fail
        go_roundw
        case rel => exact ⟨k + 1, by omega, by go_num, HR3, HR4, HBn⟩
        case measure => simp [intOf]; omega
      · obtain rfl : k = 32 := by omega
        rw [pff] at HR1
        rw [pup] at HR2
        have HS1 := Lib.hid (HR1.out.bs (n := 32) (by simp [ff32]))
        have HS2 := Lib.hid (HR2.out.bs (n := 32) (by simp [up32]))
        have HWo := HBr.out
        clear hne HH
        go_wp2_with fail
        refine (take_any _ [] _ (HE.out.below HBr.out) (Bs.nil _) (by decide)).mono ?_
        intro e w2 h
        obtain ⟨p2, m2, c2, rfl, ho2, b2⟩ := h.is n1.1
        have HB2 := Lib.hid (then_ HBr.out b2)
        have T1 := Lib.hid (HS1.out.below b2)
        have T2 := Lib.hid (HS2.out.below b2)
        clear h ho2 b2 HWo
        go_wp2_with fail
        have B3 := below_one w2 (.cells #[.int .u8 0, .int .u8 0, .int .u8 0, .int .u8 0] 5)
        refine (take_any _ no4 _ ((HE.out.below HB2.out).below B3) (bs_lit w2 no4 #[.int .u8 0, .int .u8 0, .int .u8 0, .int .u8 0] 4 rfl rfl (by decide)) (by decide)).mono ?_
        intro e w3 h
        obtain ⟨p3, m3, c3, rfl, ho3, b3⟩ := h.is n2.1
        rw [n2.2] at ho3
        have z := own_zero ho3
        subst z
        have HB3 := Lib.hid (then_ (then_ HB2.out B3) b3)
        have T3 := Lib.hid ((T1.out.below B3).below b3)
        have T4 := Lib.hid ((T2.out.below B3).below b3)
        clear h ho3 b3 B3
        go_wp2_with fail
        have B4 := below_one w3 (.cells z32 5)
        refine (sum_any _ no32 _ ((HE.out.below HB3.out).below B4) (bs_lit w3 no32 z32 32 rfl rfl (by decide)) (by decide)).mono ?_
        rintro e w4 ⟨rfl, b4⟩
        have q1 := k1
        have HB4 := Lib.hid (then_ (then_ HB3.out B4) b4)
        have T5 := Lib.hid ((T3.out.below B4).below b4)
        have T6 := Lib.hid ((T4.out.below B4).below b4)
        clear b4 B4
        go_wp2_with fail
        refine (sum_any _ ff32 _ (HE.out.below HB4.out) T5.out (by decide)).mono ?_
        rintro e w5 ⟨rfl, b5⟩
        have q2 := k2
        have HB5 := Lib.hid (then_ HB4.out b5)
        have T7 := Lib.hid (T6.out.below b5)
        clear b5
        go_wp2_with fail
        refine (sum_any _ up32 _ (HE.out.below HB5.out) T7.out (by decide)).mono ?_
        rintro e w6 ⟨rfl, b6⟩
        have q3 := k3
        have HB6 := Lib.hid (then_ HB5.out b6)
        clear b6
        go_wp2_with fail
        refine (wakes_any _ (HE.out.below HB6.out)).mono ?_
        rintro e w7 ⟨rfl, b7⟩
        have HB7 := Lib.hid (then_ HB6.out b7)
        clear b7
        go_wp2_with fail
        go_ret
        exact ⟨rfl, HB7.out⟩
end Go.Proofs.YthoccemfdndkhaaDoor.Crc
