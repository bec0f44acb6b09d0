/- Layer 12: strconv.FormatUint at base 10; a number's text in a name. -/
import Derived.Test.YtelocbohiddpgaaDoorSgc
import Derived.Test.YtelocbohiddpgaaDoorKL
import Derived.Test.YtelocbohiddpgaaDoorSgb
import Derived.Test.YtelocbohiddpgaaDoorShelf
import Derived.Lib.ItoaMem
import Derived.Lib.AppendIntMem
import Derived.Deep.RegionWith
set_option linter.unusedSimpArgs false
set_option linter.unusedVariables false
namespace Go.Proofs.YtelocbohiddpgaaDoor.Crc
open Go Go.RowKit Gm Go.Shelf Go.Sort Go.Lib
attribute [local go_sem ↓] Go.wp_at_zero Go.wp_at_succ

theorem gPow12 : Tryd.prog.globalNamed "internal/strconv.uint64pow10" = some 1 := by kernel_rfl
theorem gSyntax12 : Tryd.prog.globalNamed "strconv.ErrSyntax" = some 2 := by kernel_rfl
theorem var_stays12 {w w' : World} {n : String} {g : Nat} {cs : Array Value} (hg : Tryd.prog.globalNamed n = some g) (hb : Below w.heap.size w w') (hv : w.var? Tryd.prog n = some cs) : w'.var? Tryd.prog n = some cs := by
  refine var?_below hb hg ?_ hv
  unfold World.var? at hv
  simp only [hg, Option.bind_some] at hv
  rcases Nat.lt_or_ge g w.heap.size with h' | h'
  · exact h'
  · simp [Array.getElem?_eq_none h'] at hv
/-- What the calls on names ask of the library's variables. -/
def EnvN (w : World) : Prop := Lib.TabIs Tryd.prog w "internal/strconv.uint64pow10" .u64 Lib.pow10Tab ∧ ∃ tp p, w.var? Tryd.prog "strconv.ErrSyntax" = some #[.iface tp p]
theorem EnvN.below {w w' : World} (h : EnvN w) (hb : Below w.heap.size w w') : EnvN w' := by
  obtain ⟨h1, t2, p2, h2⟩ := h
  exact ⟨var_stays12 gPow12 hb h1, t2, p2, var_stays12 gSyntax12 hb h2⟩
set_option maxHeartbeats 6400000 in
set_option maxRecDepth 100000 in
theorem fmtu_in (u : Nat) (hu64 : u < 18446744073709551616) (w : World) (hN : EnvN w) : Calls Tryd.prog 43 #[.int .u64 (u : Int), .int .i64 10] w (Gives (.string ⟨(Lib.decDigits u).toArray⟩) w) := by
  by_cases hs : u < 100
  · have iu : (u : Int) < 100 := by omega
    have iw : IntKind.i64.wrap (u : Int) = (u : Int) := by rw [IntKind.wrap_i64]; omega
    have HS := Lib.hid (Tryd.internal_strconv_small u hs)
    go_enter Tryd.func43, Tryd.ntmps43
    go_wp2_with fail
    refine (HS.out _).mono ?_; rintro e w1 ⟨rfl, rfl⟩
    go_wp2_with fail
    go_ret
    exact ⟨rfl, Below.refl _ _⟩
  · have hu1 : 1 ≤ u := by omega
    have iu : ¬ ((u : Int) < 100) := by omega
    have hnd20 : Lib.nDigits u ≤ 20 := by have := Lib.numDigits_eq u hu1 hu64; split at this <;> omega
    have hal : Tryd.prog.arrayLen 115 = 24 := by simp [Program.arrayLen, Tryd.underlying115]
    have hsl : ∀ W, (Instr.sliceAt 115 (.pointer (some ⟨w.heap.size, 0, none⟩)) none (some (.int .i64 (Lib.nDigits u : Int))) none).run Tryd.prog W = .ok (.slice (some ⟨w.heap.size, 0, none⟩) (Lib.nDigits u) 24) W := fun W => by
      rw [run_sliceAt_array_h W 115 ⟨w.heap.size, 0, none⟩ (by simp [Program.arrayLen, Program.elem, Tryd.underlying115]) .i64 (Lib.nDigits u : Int) (by omega) (by rw [hal]; omega)]
      go_simp
    have hH0 := Lib.holds_zero0 w 115 (Lib.nDigits u) (by omega)
    have hfmt := Tryd.internal_strconv_formatBase10 w.heap.size 0 24 u (Array.replicate (Lib.nDigits u) 0) (w.alloc (.cells Lib.zeros24 115)) hH0 (by rw [Array.size_replicate]; exact Lib.lt_pow_nDigits u) hu64 (by rw [Array.size_replicate]; omega)
    rw [Array.size_replicate] at hfmt
    have HH0 := Lib.hid hH0
    have HFmt := Lib.hid hfmt
    have HND := Lib.hid (Tryd.internal_strconv_numDigits u hu1 hu64 _ (Lib.tabIs_alloc hN.1 (.cells Lib.zeros24 115)))
    clear hH0 hal hN hfmt
    go_enter Tryd.func43, Tryd.ntmps43
    go_wp2_with fail
    refine HND.out.mono ?_; rintro e w' ⟨rfl, rfl⟩
    go_wp2_with fail
    refine HFmt.out.mono ?_; rintro e w' ⟨rfl, k, v', dk, rfl, hF⟩
    obtain ⟨os, eo⟩ := Lib.fin_at w (.cells Lib.zeros24 115) dk k 0
    have hB := Lib.below_grow w.heap.size w (Nat.le_refl _) k os
    rw [← eo] at hB
    have hcells : ∀ j (hj : j < (Lib.decDigits u).length), ((putRow (fun (b : UInt8) => Value.int .u8 (b.toNat : Int)) (w.alloc (.cells Lib.zeros24 115)) w.heap.size 0 dk).drewN k).cell? ((⟨w.heap.size, 0, none⟩ : Addr).add j) = some (.int .u8 ((Lib.decDigits u)[j].toNat : Int)) := fun j hj => by
      rw [Lib.row_is_numeral hF j hj, Lib.add_plain, World.cell?_drewN]
      exact cell?_putRow (fun (b : UInt8) => Value.int .u8 (b.toNat : Int)) _ w.heap.size 0 _ dk HH0.out (by rw [hF.size, Array.size_replicate]) j (by rw [hF.size]; rw [Lib.decDigits_length] at hj; exact hj)
    have hcv := run_convert_bytes_back (P := Tryd.prog) _ 34 9 5 ⟨w.heap.size, 0, none⟩ 24 (Lib.decDigits u) Tryd.underlying34 Tryd.underlying5 Tryd.underlying9 hcells
    rw [Lib.decDigits_length] at hcv
    obtain ⟨W2, hW2⟩ : ∃ W2, (putRow (fun (b : UInt8) => Value.int .u8 (b.toNat : Int)) (w.alloc (.cells Lib.zeros24 115)) w.heap.size 0 dk).drewN k = W2 := ⟨_, rfl⟩
    rw [hW2] at hB hcv ⊢
    have HB := Lib.hid hB
    clear hcells hF hW2 eo hB HFmt HND HH0
    go_wp2_with fail
    go_ret
    exact ⟨rfl, HB.out⟩
theorem fmtu_any (u : Nat) (hu64 : u < 18446744073709551616) (w : World) (hN : EnvN w) : Calls Tryd.prog 32 #[.int .u64 (u : Int), .int .i64 10] w (Gives (.string ⟨(Lib.decDigits u).toArray⟩) w) := by
  have HF := Lib.hid (fmtu_in u hu64 w hN)
  clear hN
  go_enter Tryd.func32, Tryd.ntmps32
  go_wp2_with fail
  refine HF.out.mono ?_; rintro e w1 ⟨rfl, b1⟩
  go_wp2_with fail
  go_ret
  exact ⟨rfl, b1⟩
theorem repeat_48 (c : Nat) (w : World) (hc : c ≤ 100) : Calls Tryd.prog 33 #[.string ⟨#[48]⟩, .int .i64 (c : Int)] w (Gives (.string ⟨(List.replicate c (48 : UInt8)).toArray⟩) w) := by
  have h := Tryd.strings_Repeat ⟨#[48]⟩ c w (by omega) (by have : (⟨#[48]⟩ : ByteArray).size = 1 := rfl; rw [this]; omega)
  have e : Lib.repeatL (⟨#[48]⟩ : ByteArray).data.toList c = List.replicate c 48 := by
    have := Lib.repeatL_replicate 48 1 c
    rw [Nat.mul_one] at this
    exact this
  rw [e] at h
  exact h
theorem str_app12 (a b : List UInt8) : (⟨a.toArray⟩ : ByteArray) ++ ⟨b.toArray⟩ = ⟨(a ++ b).toArray⟩ := by
  apply ByteArray.ext
  simp
set_option maxHeartbeats 4000000 in
set_option maxRecDepth 100000 in
/-- A number's text: what is ahead, noughts, the digits. -/
theorem ptext_any (a : List UInt8) (ha : a.length ≤ 100) (d l m n : Nat) (hd : d ≤ 100) (hd1 : 1 ≤ d) (hn : n < 10 ^ d) (hn64 : n < 18446744073709551616) (w : World) (hN : EnvN w) : Calls Tryd.prog 21 #[partV ⟨a.toArray⟩ d l m, .int .u64 (n : Int)] w (Gives (.string ⟨(a ++ low10 d n).toArray⟩) w) := by
  obtain ⟨hlen, hpad⟩ := low10_pad d n hd1 hn
  have B0 := below_one w (.cells #[.string ⟨a.toArray⟩, .int .i64 (d : Int), .int .u64 (l : Int), .int .u64 (m : Int)] 58)
  have K0 := Blk.new w 58 #[.string ⟨a.toArray⟩, .int .i64 (d : Int), .int .u64 (l : Int), .int .u64 (m : Int)]
  obtain ⟨W0, hW0⟩ : ∃ W0, w.alloc (.cells #[.string ⟨a.toArray⟩, .int .i64 (d : Int), .int .u64 (l : Int), .int .u64 (m : Int)] 58) = W0 := ⟨_, rfl⟩
  rw [hW0] at B0 K0
  have HF := Lib.hid (fmtu_any n hn64 W0 (hN.below B0))
  have hsz : (⟨(Lib.decDigits n).toArray⟩ : ByteArray).size = (Lib.decDigits n).length := by simp [ByteArray.size]
  obtain ⟨D, hD⟩ : ∃ D, Lib.decDigits n = D := ⟨_, rfl⟩
  rw [hD] at hlen hpad HF hsz
  obtain ⟨nd, hnd⟩ : ∃ k, D.length = k := ⟨_, rfl⟩
  rw [hnd] at hlen hpad hsz
  obtain ⟨c, hc⟩ : ∃ c, d - nd = c := ⟨_, rfl⟩
  rw [hc] at hpad
  have hsub : (d : Int) - (nd : Int) = (c : Int) := by omega
  have HRp := Lib.hid (fun X => repeat_48 c X (by omega))
  have HW0 := Lib.hid hW0
  have HB0 := Lib.hid B0
  have HK0 := Lib.hid K0
  have HPad := Lib.hid hpad
  have hsa : (⟨a.toArray⟩ : ByteArray).size = a.length := by simp [ByteArray.size]
  have hsr : (⟨(List.replicate c (48 : UInt8)).toArray⟩ : ByteArray).size = c := by simp [ByteArray.size]
  have HS := Lib.hid hsa
  have HS2 := Lib.hid hsr
  clear hN hW0 B0 K0 hD hnd hpad hsa hsr
  go_enter Tryd.func21, Tryd.ntmps21
  go_wp2_with fail
  rw [HW0.out]
  go_wp2_with fail
  refine HF.out.mono ?_; rintro e w1 ⟨rfl, b1⟩
  have K1 := HK0.out.later b1
  have k0 := K1.cell 0 rfl
  have k1 := K1.cell 1 rfl
  have HB1 := Lib.hid (then_ HB0.out b1)
  clear b1 HF K1
  have hfin : (⟨a.toArray⟩ : ByteArray) ++ ⟨(List.replicate c (48 : UInt8)).toArray⟩ ++ ⟨D.toArray⟩ = ⟨(a ++ low10 d n).toArray⟩ := by
    rw [str_app12, str_app12, HPad.out, List.append_assoc]
  have HFin := Lib.hid hfin
  obtain ⟨sa, hsa⟩ : ∃ s : ByteArray, ⟨a.toArray⟩ = s := ⟨_, rfl⟩
  obtain ⟨sr, hsr⟩ : ∃ s : ByteArray, ⟨(List.replicate c (48 : UInt8)).toArray⟩ = s := ⟨_, rfl⟩
  obtain ⟨sd, hsd⟩ : ∃ s : ByteArray, ⟨D.toArray⟩ = s := ⟨_, rfl⟩
  rw [hsa] at HFin k0 HS ⊢
  rw [hsr] at HFin HRp HS2
  rw [hsd] at HFin hsz ⊢
  have z1 : sa.size ≤ 100 := by rw [HS.out]; exact ha
  have z2 : sr.size ≤ 100 := by rw [HS2.out]; omega
  have z3 : sd.size ≤ 100 := by omega
  have z4 : (sa ++ sr).size ≤ 200 := by rw [ByteArray.size_append]; omega
  have y1 : (sa.size : Int) ≤ 8388608 := by omega
  have y2 : (sr.size : Int) ≤ 8388608 := by omega
  have y3 : (sd.size : Int) ≤ 8388608 := by omega
  have y4 : ((sa ++ sr).size : Int) ≤ 8388608 := by omega
  have hwc : IntKind.i64.wrap (c : Int) = (c : Int) := by rw [IntKind.wrap_i64]; omega
  have a1 := fun X : World => run_string_add (P := Tryd.prog) X sa sr y1 y2
  have a2 := fun X : World => run_string_add (P := Tryd.prog) X (sa ++ sr) sd y4 y3
  clear z1 z2 z3 z4
  have q0 := fun (z : Later w1) => Later.cell k0 z
  have q1 := fun (z : Later w1) => Later.cell k1 z
  clear hfin hsa hsr hsd k0 k1
  go_wp2_with fail
  refine wp_region_later (by kernel_rfl) (by kernel_rfl) ?_
  repeat (quiet_step ((first | (go_at_call 33; with_reducible exact later_call _ (HRp.out _)))))
  refine wpQuiet_nil ?_
  intro wz hw'
  obtain ⟨⟨_, hbz⟩, rfl⟩ := hw'
  have HBz := Lib.hid (then_ HB1.out hbz)
  clear hbz q0 q1
  go_wp2_with fail
  go_ret
  exact ⟨by rw [HFin.out]; rfl, HBz.out⟩
end Go.Proofs.YtelocbohiddpgaaDoor.Crc
