/- Layer 10: awake. -/
import Derived.Test.YtnhdnmlclnndoaaDkzc
import Derived.Test.YtnhdnmlclnndoaaDkzd
import Derived.Test.YtnhdnmlclnndoaaGd
import Derived.Test.YtnhdnmlclnndoaaGe
set_option linter.unusedSimpArgs false
set_option linter.unusedVariables false
namespace Go.Proofs.Ytnhdnmlclnndoaa.Gm
open Go Go.RowKit Go.Maps
attribute [local go_sem ↓] Go.wp_at_zero Go.wp_at_succ
def z5 : List UInt8 := [0, 0, 0, 0, 0]
def va1 : View := [([97], [], 0)]
def va2 : View := [([97], z5, 0)]
def va4 : View := [([97], z5, 5)]
def va5 : View := [([97], [0, 0, 0, 0, 0, 120, 121], 5)]
def va6 : View := [([97], [0, 0, 0, 0, 0, 135], 6)]
def va7 : View := [([97], [0, 0, 0, 0, 0, 135], 6), ([98], [], 0)]
theorem ao1 : offV [] (-1) false (runV [] (-1) (createC [] [97]) (putV [] ([97], [], 0))) = ⟨0, va1, -1, false⟩ := by rfl
theorem ao2 : offV va1 (-1) false (runV va1 (-1) (appendC va1 [97] z5.length 9) (setV va1 [97] ((fileOf va1 [97]).1 ++ z5) (fileOf va1 [97]).2)) = ⟨0, va2, -1, false⟩ := by rfl
theorem ao3 : offV va2 (-1) false (runV va2 (-1) (appendC va2 [97] z5.length 9) (setV va2 [97] ((fileOf va2 [97]).1 ++ z5) (fileOf va2 [97]).2)) = ⟨7, va2, -1, false⟩ := by rfl
theorem ao4 : offV va2 (-1) false (runV va2 (-1) (lackC va2 [97]) (setV va2 [97] (fileOf va2 [97]).1 (fileOf va2 [97]).1.length)) = ⟨0, va4, -1, false⟩ := by rfl
theorem ao5 : offV va4 (-1) false (runV va4 (-1) (appendC va4 [97] [(120 : UInt8), 121].length 9) (setV va4 [97] ((fileOf va4 [97]).1 ++ [120, 121]) (fileOf va4 [97]).2)) = ⟨0, va5, -1, false⟩ := by rfl
theorem ao6 : crashS [7] [255] (unsV va5) (unsV va5).length va5 = va6 := by rfl
theorem ao7 : offV va6 1 false (runV va6 1 (createC va6 [98]) (putV va6 ([98], [], 0))) = ⟨0, va7, 0, false⟩ := by rfl
theorem ao8 : offV va7 0 false (runV va7 0 (createC va7 [99]) (putV va7 ([99], [], 0))) = ⟨8, va7, -1, true⟩ := by rfl
theorem ao9 : crashS [] [] (unsV va7) (unsV va7).length va7 = va7 := by rfl
theorem ao10 : offV va7 (-1) false (runV va7 (-1) (createC va7 [66]) (putV va7 ([66], [], 0))) = ⟨1, va7, -1, false⟩ := by rfl
theorem al5 : looseV va5 [97] false = 2 := by rfl
theorem ar6 : readB va6 [97] false = [0, 0, 0, 0, 0, 135] ∧ readC va6 [97] false = 0 := by constructor <;> rfl
theorem an7 : namesV va7 true = [] ∧ namesV va7 false = [[97], [98]] := by constructor <;> rfl
theorem bs_new (w : World) (L : List UInt8) (cs : Array Value) (n : Nat) (hn : L.length = n) (hc : cs.toList = cellsB L) : Bs (w.alloc (.cells cs 5)) (.slice (some ⟨w.heap.size, 0, none⟩) n n) L := by
  subst hn
  refine .inr ⟨⟨w.heap.size, 0, none⟩, L.length, rfl, Nat.le_refl _, fun _ => ⟨w.heap.size, 0, rfl, by simp, fun i hi => ?_⟩⟩
  have h1 : cs[i]? = some (byteV (L.getD i 0)) := by rw [← Array.getElem?_toList, hc, cellsB_at hi]
  rw [Nat.zero_add]
  exact (Blk.new w 5 cs).cell i h1
theorem mk5 (W : World) : (Instr.makeSlice 31 (.int .i64 5) (.int .i64 5)).run Try.prog W = .ok (.slice (some ⟨W.heap.size, 0, none⟩) 5 5) (W.alloc (.cells #[.int .u8 0, .int .u8 0, .int .u8 0, .int .u8 0, .int .u8 0] 5)) := by kernel_rfl
theorem Dsk.went {B g bm t nn : Nat} {w0 w w' : World} {D : DataW Value} {L : List Ent} {q fu : Int} {off : Bool} (h : Dsk B g bm t nn w D L q fu off) (hb : Below B w0 w) (hC : Chg (Inn g bm L) w w') : Below B w0 w' := below_then hb (hC.toBelow h.inB h.base.1)
theorem Below.low {B : Nat} {w w' : World} (h : Below w.heap.size w w') (hB : B ≤ w.heap.size) : Below B w w' := below_less h hB
theorem foreign_nil (I : Nat → Prop) (w : World) : Foreign I w (.slice none 0 0) (.slice none 0 0) [] [] :=
  ⟨fun W _ => ⟨none, 0, rfl, fun k hk => by simp at hk⟩, fun W _ => Bs.nil _, fun k => by simp, by simp, by simp⟩
theorem foreign_new (I : Nat → Prop) (w : World) (hI : ∀ k, I k → k < w.heap.size) (p : Nat) (hp : p < 65536) (c : UInt8) :
    Foreign I ((w.alloc (.cells #[.int .u16 (p : Nat)] 61)).alloc (.cells #[byteV c] 5)) (.slice (some ⟨w.heap.size, 0, none⟩) 1 1) (.slice (some ⟨w.heap.size + 1, 0, none⟩) 1 1) [p] [c] := by
  have k1 := (Blk.new w 61 #[.int .u16 (p : Nat)]).later (below_one _ (.cells #[byteV c] 5))
  have k2 := Blk.new (w.alloc (.cells #[.int .u16 (p : Nat)] 61)) 5 #[byteV c]
  have hs : (w.alloc (.cells #[.int .u16 (p : Nat)] 61)).heap.size = w.heap.size + 1 := by simp
  rw [hs] at k2
  refine ⟨fun W hC => ⟨_, 1, rfl, fun k hk => ?_⟩, fun W hC => ?_, fun k => ?_, by simp, by simp⟩
  · have hk0 : k = 0 := by simpa using hk
    subst hk0
    refine ⟨w.heap.size, 0, rfl, ?_⟩
    have h1 := (World.cell?_of_block (a := ⟨w.heap.size, 0, none⟩) (hC.2.2.2.2 w.heap.size k1.lt (fun h => by have := hI _ h; omega))).trans (k1.cell 0 rfl)
    simpa using h1
  · refine .inr ⟨⟨w.heap.size + 1, 0, none⟩, 1, rfl, Nat.le_refl _, fun _ => ⟨w.heap.size + 1, 0, rfl, Nat.lt_of_lt_of_le k2.lt hC.size, fun i hi => ?_⟩⟩
    have hi0 : i = 0 := by simpa using hi
    subst hi0
    have h1 := (World.cell?_of_block (a := ⟨w.heap.size + 1, 0, none⟩) (hC.2.2.2.2 (w.heap.size + 1) k2.lt (fun h => by have := hI _ h; omega))).trans (k2.cell 0 rfl)
    simpa using h1
  · cases k with
    | zero => simpa using hp
    | succ k => simp
set_option maxHeartbeats 8000000 in
set_option maxRecDepth 100000 in
theorem awake10 (w : World) : Calls Try.prog 6 #[] w (Gives (.bool true) w) := by
  have HN := Lib.hid (fun W => new_yes 9 (by omega) W)
  have hmk := mk5
  have hcv := conv_const
  go_enter Try.func6, Try.ntmps6
  go_wp2_with fail
  refine (HN.out _).mono ?_; rintro e w1 ⟨g, bm, rfl, hD, hgl, hbl, b1⟩
  have HB := Lib.hid b1
  have HD := Lib.hid hD
  have HV : Hid (view [] = []) := Lib.hid rfl
  clear b1 hD HN hgl hbl
  go_wp2_with fail
  have hDa := HD.out
  have hBa := HB.out
  have hc := Create_v hDa (by omega) [97] (by decide)
  rw [HV.out, ao1] at hc
  refine hc.mono ?_; rintro e w2 ⟨rfl, L2, ⟨nn2, D2, hD', hC', hI'⟩, hV'⟩
  have HBn := Lib.hid (hDa.went hBa hC')
  clear hc hDa hBa HB HD HV hC' hI'
  have HB := HBn
  have HD := Lib.hid hD'
  have HV := Lib.hid hV'
  clear hD' hV' HBn
  go_wp2_with fail
  have bl := below_one w2 (.cells #[.int .u8 0, .int .u8 0, .int .u8 0, .int .u8 0, .int .u8 0] 5)
  have hbs := bs_const w2 z5 #[.int .u8 0, .int .u8 0, .int .u8 0, .int .u8 0, .int .u8 0] 5 (0, 0) rfl rfl
  have hDa := HD.out.later bl
  have hBa := then_ HB.out bl
  have hc := Append_v hDa (by omega) [97] (by decide) _ _ z5 (by decide) hbs
  rw [HV.out, ao2] at hc
  refine hc.mono ?_; rintro e w3 ⟨rfl, L3, ⟨nn3, D3, hD', hC', hI'⟩, hV'⟩
  have HBn := Lib.hid (hDa.went hBa hC')
  clear hc hDa hBa HB HD HV hC' hI' bl hbs
  have HB := HBn
  have HD := Lib.hid hD'
  have HV := Lib.hid hV'
  clear hD' hV' HBn
  go_wp2_with fail
  have bl := below_one w3 (.cells #[.int .u8 0, .int .u8 0, .int .u8 0, .int .u8 0, .int .u8 0] 5)
  have hbs := bs_const w3 z5 #[.int .u8 0, .int .u8 0, .int .u8 0, .int .u8 0, .int .u8 0] 5 (0, 0) rfl rfl
  have hDa := HD.out.later bl
  have hBa := then_ HB.out bl
  have hc := Append_v hDa (by omega) [97] (by decide) _ _ z5 (by decide) hbs
  rw [HV.out, ao3] at hc
  refine hc.mono ?_; rintro e w4 ⟨rfl, L4, ⟨nn4, D4, hD', hC', hI'⟩, hV'⟩
  have HBn := Lib.hid (hDa.went hBa hC')
  clear hc hDa hBa HB HD HV hC' hI' bl hbs
  have HB := HBn
  have HD := Lib.hid hD'
  have HV := Lib.hid hV'
  clear hD' hV' HBn
  go_wp2_with fail
  have hDa := HD.out
  have hBa := HB.out
  have hc := Sync_v hDa (by omega) [97] (by decide)
  rw [HV.out, ao4] at hc
  refine hc.mono ?_; rintro e w5 ⟨rfl, L5, ⟨nn5, D5, hD', hC', hI'⟩, hV'⟩
  have HBn := Lib.hid (hDa.went hBa hC')
  clear hc hDa hBa HB HD HV hC' hI'
  have HB := HBn
  have HD := Lib.hid hD'
  have HV := Lib.hid hV'
  clear hD' hV' HBn
  go_wp2_with fail
  have bl := below_one w5 (.cells #[.int .u8 120, .int .u8 121] 5 (2, 3))
  have hbs := bs_const w5 [120, 121] #[.int .u8 120, .int .u8 121] 2 (2, 3) rfl rfl
  have hDa := HD.out.later bl
  have hBa := then_ HB.out bl
  have hc := Append_v hDa (by omega) [97] (by decide) _ _ [120, 121] (by decide) hbs
  rw [HV.out, ao5] at hc
  refine hc.mono ?_; rintro e w6 ⟨rfl, L6, ⟨nn6, D6, hD', hC', hI'⟩, hV'⟩
  have HBn := Lib.hid (hDa.went hBa hC')
  clear hc hDa hBa HB HD HV hC' hI' bl hbs
  have HB := HBn
  have HD := Lib.hid hD'
  have HV := Lib.hid hV'
  clear hD' hV' HBn
  go_wp2_with fail
  have hc := Loose_v HD.out [97] (by decide)
  rw [HV.out, al5] at hc
  refine hc.mono ?_; rintro e w7 ⟨rfl, b7⟩
  have HBn := Lib.hid (then_ HB.out b7)
  have hDn := HD.out.later b7
  clear hc HB HD b7
  have HB := HBn
  have HD := Lib.hid hDn
  clear hDn HBn
  go_wp2_with fail
  have bl1 := below_one w7 (.cells #[.int .u16 7] 61)
  have bl2 := below_one (w7.alloc (.cells #[.int .u16 7] 61)) (.cells #[.int .u8 255] 5)
  have hF := foreign_new (Inn g bm L6) w7 HD.out.lt 7 (by decide) 255
  have hDa := HD.out.later (then_ bl1 bl2)
  have hBa := then_ HB.out (then_ bl1 bl2)
  have hc := Crash_v hDa _ _ _ _ hF
  rw [HV.out, ao6] at hc
  refine hc.mono ?_; rintro e w8 ⟨rfl, L8, ⟨nn8, D8, hD', hC', hI'⟩, hV'⟩
  have HBn := Lib.hid (hDa.went hBa hC')
  clear hc hDa hBa HB HD HV hC' hI' bl1 bl2 hF
  have HB := HBn
  have HD := Lib.hid hD'
  have HV := Lib.hid hV'
  clear hD' hV' HBn
  go_wp2_with fail
  have hc := Read_v HD.out [97] (by decide)
  rw [HV.out, ar6.1, ar6.2] at hc
  refine hc.mono ?_; rintro e w9 ⟨v9, rfl, ho9, b7⟩
  obtain ⟨p9, c9, rfl⟩ := ho9.form
  have HO9 := Lib.hid ho9.bs
  clear ho9
  have HBn := Lib.hid (then_ HB.out b7)
  have hDn := HD.out.later b7
  clear hc HB HD b7
  have HB := HBn
  have HD := Lib.hid hDn
  clear hDn HBn
  go_wp2_with fail
  have bl := below_one w9 (.cells #[.int .u8 0, .int .u8 0, .int .u8 0, .int .u8 0, .int .u8 0, .int .u8 135] 5)
  have hc := equal_any _ _ _ _ _ (HO9.out.below bl) (bs_const w9 [0, 0, 0, 0, 0, 135] #[.int .u8 0, .int .u8 0, .int .u8 0, .int .u8 0, .int .u8 0, .int .u8 135] 6 (0, 0) rfl rfl)
  rw [show (([0, 0, 0, 0, 0, 135] : List UInt8) == [0, 0, 0, 0, 0, 135]) = true from rfl] at hc
  refine hc.mono ?_; rintro e w10 ⟨rfl, b10⟩
  have hw10 : Below w9.heap.size w9 w10 := by rw [b10]; exact bl
  have HBn := Lib.hid (then_ HB.out hw10)
  have hDn := HD.out.later hw10
  clear hc HB HD HO9 bl b10 hw10
  have HB := HBn
  have HD := Lib.hid hDn
  clear hDn HBn
  go_wp2_with fail
  have hDa := HD.out
  have hBa := HB.out
  have hc := Fuse_v hDa 1 (by decide)
  rw [HV.out, show fuseC 1 false = 0 from rfl, if_pos rfl] at hc
  refine hc.mono ?_; rintro e w11 ⟨rfl, L11, ⟨nn11, D11, hD', hC', hI'⟩, hV'⟩
  have HBn := Lib.hid (hDa.went hBa hC')
  clear hc hDa hBa HB HD HV hC' hI'
  have HB := HBn
  have HD := Lib.hid hD'
  have HV := Lib.hid hV'
  clear hD' hV' HBn
  go_wp2_with fail
  have hDa := HD.out
  have hBa := HB.out
  have hc := Create_v hDa (by omega) [98] (by decide)
  rw [HV.out, ao7] at hc
  refine hc.mono ?_; rintro e w12 ⟨rfl, L12, ⟨nn12, D12, hD', hC', hI'⟩, hV'⟩
  have HBn := Lib.hid (hDa.went hBa hC')
  clear hc hDa hBa HB HD HV hC' hI'
  have HB := HBn
  have HD := Lib.hid hD'
  have HV := Lib.hid hV'
  clear hD' hV' HBn
  go_wp2_with fail
  have hDa := HD.out
  have hBa := HB.out
  have hc := Create_v hDa (by omega) [99] (by decide)
  rw [HV.out, ao8] at hc
  refine hc.mono ?_; rintro e w13 ⟨rfl, L13, ⟨nn13, D13, hD', hC', hI'⟩, hV'⟩
  have HBn := Lib.hid (hDa.went hBa hC')
  clear hc hDa hBa HB HD HV hC' hI'
  have HB := HBn
  have HD := Lib.hid hD'
  have HV := Lib.hid hV'
  clear hD' hV' HBn
  go_wp2_with fail
  have hc := Off_v HD.out
  refine hc.mono ?_; rintro e w14 ⟨rfl, b7⟩
  have HBn := Lib.hid (then_ HB.out b7)
  have hDn := HD.out.later b7
  clear hc HB HD b7
  have HB := HBn
  have HD := Lib.hid hDn
  clear hDn HBn
  go_wp2_with fail
  have hc := Names_v HD.out
  rw [HV.out, an7.1] at hc
  refine hc.mono ?_; rintro e w15 ⟨v15, rfl, ho15, b7⟩
  obtain ⟨p15, c15, rfl⟩ := own_s ho15
  clear ho15
  have HBn := Lib.hid (then_ HB.out b7)
  have hDn := HD.out.later b7
  clear hc HB HD b7
  have HB := HBn
  have HD := Lib.hid hDn
  clear hDn HBn
  go_wp2_with fail
  have hDa := HD.out
  have hBa := HB.out
  have hc := Crash_v hDa _ _ _ _ (foreign_nil _ _)
  rw [HV.out, ao9] at hc
  refine hc.mono ?_; rintro e w16 ⟨rfl, L16, ⟨nn16, D16, hD', hC', hI'⟩, hV'⟩
  have HBn := Lib.hid (hDa.went hBa hC')
  clear hc hDa hBa HB HD HV hC' hI'
  have HB := HBn
  have HD := Lib.hid hD'
  have HV := Lib.hid hV'
  clear hD' hV' HBn
  go_wp2_with fail
  have hc := Names_v HD.out
  rw [HV.out, an7.2] at hc
  refine hc.mono ?_; rintro e w17 ⟨v17, rfl, ho17, b7⟩
  obtain ⟨p17, c17, rfl⟩ := own_s ho17
  have HO17 := Lib.hid (own_rowS ho17)
  clear ho17
  have HBn := Lib.hid (then_ HB.out b7)
  have hDn := HD.out.later b7
  clear hc HB HD b7
  have HB := HBn
  have HD := Lib.hid hDn
  clear hDn HBn
  go_wp2_with fail
  have bl := below_one w17 (.cells #[.string ⟨#[97]⟩, .string ⟨#[98]⟩] 9)
  have hk := Blk.new w17 9 #[.string ⟨#[97]⟩, .string ⟨#[98]⟩]
  have hR : RowS (w17.alloc (.cells #[.string ⟨#[97]⟩, .string ⟨#[98]⟩] 9)) (.slice (some ⟨w17.heap.size, 0, none⟩) 2 2) [[97], [98]] := ⟨_, 2, rfl, fun k hk2 => ⟨w17.heap.size, 0, rfl, hk.lt, by
    simp only [List.length_cons, List.length_nil] at hk2
    rcases (show k = 0 ∨ k = 1 by omega) with rfl | rfl
    · exact hk.cell 0 rfl
    · exact hk.cell 1 rfl⟩⟩
  have hc := samenames_any _ _ [[97], [98]] [[97], [98]] _ (HO17.out.later bl) hR (by simp) (by simp)
  rw [show decide (([[97], [98]] : List Nm) = [[97], [98]]) = true from rfl] at hc
  refine hc.mono ?_; rintro e w18 ⟨rfl, b18⟩
  have HBn := Lib.hid (then_ HB.out (then_ bl b18))
  have hDn := HD.out.later (then_ bl b18)
  clear hc HB HD HO17 bl hk hR b18
  have HB := HBn
  have HD := Lib.hid hDn
  clear hDn HBn
  go_wp2_with fail
  have hDa := HD.out
  have hBa := HB.out
  have hc := Create_v hDa (by omega) [66] (by decide)
  rw [HV.out, ao10] at hc
  refine hc.mono ?_; rintro e w19 ⟨rfl, L19, ⟨nn19, D19, hD', hC', hI'⟩, hV'⟩
  have HBn := Lib.hid (hDa.went hBa hC')
  clear hc hDa hBa HB HD HV hC' hI' hD' hV'
  go_wp2_with fail
  go_ret
  exact ⟨rfl, HBn.out⟩
end Go.Proofs.Ytnhdnmlclnndoaa.Gm
