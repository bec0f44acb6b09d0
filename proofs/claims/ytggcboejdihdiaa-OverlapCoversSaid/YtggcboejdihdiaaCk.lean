/- The contract of package cover's behindBegun. -/
import Derived.Test.YtggcboejdihdiaaCi
import Derived.Lib.SlBytesRow
import Derived.StillTailTactics
set_option linter.unusedSimpArgs false
set_option linter.unusedVariables false
namespace Go.Proofs.Ytggcboejdihdiaa.Gm
open Go Go.RowKit
attribute [local go_sem ↓] Go.wp_at_zero Go.wp_at_succ

theorem index_s (t : ByteArray) (k : Nat) (h : k < t.size) (W : World) : (Instr.index 9 (.string t) (.int .i64 (k : Int))).run Try.prog W = .ok (.int .u8 ((t.data.toList.getD k 0).toNat : Int)) W := by
  rw [run_index_string W 9 t .i64 _ Try.underlying9, dif_pos ⟨by omega, by omega⟩]
  have e : ((k : Int)).toNat = k := by omega
  simp only [e]
  have e2 : t.data.toList.getD k 0 = t[k] := by
    have hk : k < t.data.toList.length := by simpa using h
    rw [List.getD_eq_getElem?_getD, List.getElem?_eq_getElem hk]
    rfl
  rw [e2]
theorem slice_s (t : ByteArray) (k : Nat) (h : k ≤ t.size) (W : World) : (Instr.slice 9 (.string t) none (some (.int .i64 (k : Int))) none).run Try.prog W = .ok (.string (t.extract 0 k)) W := by
  have h1 : ¬ ((t.size : Int) < (k : Int)) := by omega
  go_simp
theorem begL_yes {s : ByteArray} {k : Nat} {c : UInt8} (hc : s.data.toList.getD k 0 = c) (h : c.toNat < 255) : begL s (k + 1) = ahd (strV (s.extract 0 k ++ ⟨#[c + 1]⟩)) := by
  simp only [begL]; rw [hc, if_pos h]
theorem begL_no {s : ByteArray} {k : Nat} {c : UInt8} (hc : s.data.toList.getD k 0 = c) (h : ¬ c.toNat < 255) : begL s (k + 1) = begL s k := by
  simp only [begL]; rw [hc, if_neg h]
theorem u8_wrap (n : Nat) (h : n < 255) : IntKind.u8.wrap ((n : Int) + 1) = (n : Int) + 1 := by
  rw [IntKind.wrap_u8]; omega
theorem conv_one (c : UInt8) (h : c.toNat < 255) (w : World) : (convert 128 9 (.slice (some ⟨w.heap.size, 0, none⟩) 1 1)).run Try.prog ((w.alloc (.cells #[.int .u8 ((c.toNat : Int) + 1)] 5)).drew) = .ok (.string ⟨#[c + 1]⟩) ((w.alloc (.cells #[.int .u8 ((c.toNat : Int) + 1)] 5)).drew) := by
  have hc : (((w.alloc (.cells #[.int .u8 ((c.toNat : Int) + 1)] 5)).drew).cell? ⟨w.heap.size, 0 + 0, none⟩) = some (.int .u8 ((c.toNat : Int) + 1)) := by
    have := (Blk.new w 5 #[.int .u8 ((c.toNat : Int) + 1)]).cell 0 (u := .int .u8 ((c.toNat : Int) + 1)) rfl
    simp
  have := run_convert_bytes_arg (P := Try.prog) ((w.alloc (.cells #[.int .u8 ((c.toNat : Int) + 1)] 5)).drew) 128 5 Try.underlying128 Try.underlying5 w.heap.size 0 1 1 [(c.toNat : Int) + 1] rfl (fun i hi => by
    obtain rfl : i = 0 := by omega
    simp) 9 Try.underlying9
  rw [this]
  have e : strOfNums [(c.toNat : Int) + 1] = ⟨#[c + 1]⟩ := by
    unfold strOfNums
    have e2 : UInt8.ofNat ((c.toNat : Int) + 1).toNat = c + 1 := by
      apply UInt8.toNat_inj.1
      rw [UInt8.toNat_add, UInt8.toNat_ofNat']
      have : ((c.toNat : Int) + 1).toNat = c.toNat + 1 := by omega
      rw [this]; rfl
    simp [e2]
  rw [e]
set_option maxHeartbeats 4000000 in
set_option maxRecDepth 100000 in
theorem behind_any (s : ByteArray) (hs : s.size ≤ 1048576) (w : World) : Calls Try.prog 82 #[.string s] w (Gives (ctv (begC s)) w) := by
  have HS := Lib.hid hs
  have HN : Hid (begC s = begL s s.size) := Lib.hid rfl
  rw [HN.out]
  clear HN
  have HK0 := Lib.hid (Blk.new w 77 ctz)
  have HB0 := Lib.hid (below_one w (.cells ctz 77))
  have hw0 : IntKind.i64.wrap ((s.size : Int) - 1) = (s.size : Int) - 1 := wrap_i _ ⟨by omega, by omega⟩
  clear hs
  go_enter Try.func82, Try.ntmps82
  go_wp2
  go_loopw [3] (fun i wr => ∃ (n : Nat), n ≤ s.size ∧ i = .int .i64 ((n : Int) - 1) ∧ Hid (begL s s.size = begL s n) ∧ Hid (Blk wr w.heap.size 77 ctz) ∧ Hid (Below w.heap.size w wr)) (fun i _ => (intOf i + 1).toNat)
  case atStart => exact ⟨s.size, Nat.le_refl _, rfl, Lib.hid rfl, HK0, HB0⟩
  case round =>
    obtain ⟨n, hn, rfl, HE, HK, HBel⟩ := hrel
    cases n with
    | zero =>
      clear hw0
      go_wp2_with fail
      refine (end_any _).mono ?_; rintro e w2 ⟨rfl, b2⟩
      have HB2 := Lib.hid (then_ HBel.out b2)
      have HK2 := Lib.hid (HK.out.later b2)
      clear b2
      have k0 := HK2.out.cell 0 rfl
      have k1 := HK2.out.cell 1 rfl
      have k2 := HK2.out.cell 2 rfl
      have k3 := HK2.out.cell 3 rfl
      have k4 := HK2.out.cell 4 rfl
      have f0 := HK2.out.free 0
      have f1 := HK2.out.free 1
      have f2 := HK2.out.free 2
      have f3 := HK2.out.free 3
      have f4 := HK2.out.free 4
      go_wp2_with fail
      exact post_cut (c := fin) HK2.out (fun W hW => by have e0 := hW.cell 0 rfl; have e1 := hW.cell 1 rfl; have e2 := hW.cell 2 rfl; have e3 := hW.cell 3 rfl; have e4 := hW.cell 4 rfl; clear HK HK2 HBel HB2 k0 k1 k2 k3 k4 f0 f1 f2 f3 f4; simp [results, Try.results82, go_sem, e0, e1, e2, e3, e4]) rfl ⟨by rw [HE.out]; rfl, give5 HB2.out (Nat.le_refl _) _⟩

    | succ k =>
      have hi := index_s s k (by omega)
      have hsl := slice_s s k (by omega)
      rw [show ((k + 1 : Nat) : Int) - 1 = (k : Int) by omega]
      generalize hc : s.data.toList.getD k 0 = c at hi
      have HCc := Lib.hid hc
      clear hc hw0
      by_cases h : c.toNat < 255
      · have h1 : decide ((c.toNat : Int) < 255) = true := by simp; omega
        have hwr := u8_wrap c.toNat h
        have hcv := conv_one c h wr
        have hq : ¬ 9223372036854775807 < min k s.size + 1 := by have := HS.out; omega
        have HH := Lib.hid h
        clear h
        go_wp2_with fail
        obtain ⟨t, ht⟩ : ∃ t, s.extract 0 k ++ (⟨#[c + 1]⟩ : ByteArray) = t := ⟨_, rfl⟩
        have HT := Lib.hid ht
        go_region_law (first | (go_simp; go_at_call 28; (try simp only [ht]); refine (str_any t _).mono ?_; rintro e w1 ⟨rfl, b1⟩; have HB1 := Lib.hid (then_ HBel.out (below_new (show Below (wr.alloc (.cells #[.int .u8 ((c.toNat : Int) + 1)] 5)).heap.size (wr.alloc (.cells #[.int .u8 ((c.toNat : Int) + 1)] 5)) w1 from ⟨b1.os, b1.tape, b1.output, b1.size, b1.block⟩))); have HK1 := Lib.hid (HK.out.later (below_new (show Below (wr.alloc (.cells #[.int .u8 ((c.toNat : Int) + 1)] 5)).heap.size (wr.alloc (.cells #[.int .u8 ((c.toNat : Int) + 1)] 5)) w1 from ⟨b1.os, b1.tape, b1.output, b1.size, b1.block⟩))); clear b1; try go_wp2_with fail) | (go_simp; go_at_call 78; refine (ahead_any (strV t) _).mono ?_; rintro e w2 ⟨rfl, b2⟩; have HB2 := Lib.hid (then_ HB1.out b2); have HK2 := Lib.hid (HK1.out.later b2); clear b2; have k0 := HK2.out.cell 0 rfl; have k1 := HK2.out.cell 1 rfl; have k2 := HK2.out.cell 2 rfl; have k3 := HK2.out.cell 3 rfl; have k4 := HK2.out.cell 4 rfl; have f0 := HK2.out.free 0; have f1 := HK2.out.free 1; have f2 := HK2.out.free 2; have f3 := HK2.out.free 3; have f4 := HK2.out.free 4; try go_wp2_with fail))
        all_goals (try go_wp2_with fail)
        exact post_cut (c := ahd (strV t)) HK2.out (fun W hW => by have e0 := hW.cell 0 rfl; have e1 := hW.cell 1 rfl; have e2 := hW.cell 2 rfl; have e3 := hW.cell 3 rfl; have e4 := hW.cell 4 rfl; clear HK HK1 HK2 HBel HB1 HB2 k0 k1 k2 k3 k4 f0 f1 f2 f3 f4 ht hcv hi hsl hq hwr; simp [results, Try.results82, go_sem, e0, e1, e2, e3, e4]) rfl ⟨by rw [HE.out, begL_yes HCc.out HH.out, HT.out], give5 HB2.out (Nat.le_refl _) _⟩
      · have h1 : decide ((c.toNat : Int) < 255) = false := by simp; omega
        have hwk : IntKind.i64.wrap ((k : Int) - 1) = (k : Int) - 1 := wrap_i _ ⟨by omega, by have := HS.out; omega⟩
        go_wp2_with fail
        go_roundw
        case rel => exact ⟨k, by omega, by simp, Lib.hid (by rw [HE.out]; exact begL_no HCc.out h), HK, HBel⟩
        case measure => simp [intOf]
end Go.Proofs.Ytggcboejdihdiaa.Gm
