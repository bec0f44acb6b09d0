/- Frames: package crc's seal and Put; the document's Put. -/
import Derived.Test.YtmbfhmjcphoddaaGreatDoorYb
import Derived.Test.YtmbfhmjcphoddaaGreatDoorGb
import Derived.Lib.LaidTab
import Derived.Lib.SmallJoins
import Derived.Laws.BitsAllLaws
import Derived.Lib.AppendZeros
import Derived.Lib.BufferMore
/- Sums: package crc's Extend and Sum; the document's. -/
/- The program's table of steps of four bits, and one step, as plain functions; what a row lists of the table; the call step. -/
set_option linter.unusedSimpArgs false
set_option linter.unusedVariables false
namespace Go.Proofs.YtmbfhmjcphoddaaGreatDoor.Crc
open Go Go.RowKit Gm
attribute [local go_sem ↓] Go.wp_at_zero Go.wp_at_succ

/-- A sum as a value. -/
abbrev u32V (s : BitVec 32) : Value := .int .u32 (s.toNat : Int)
theorem xor_w (a b : BitVec 32) : bits .xor .u32 (a.toNat : Int) (b.toNat : Int) = ((a ^^^ b).toNat : Int) := by
  rw [u32_xor_nat _ _ a.isLt b.isLt, BitVec.toNat_xor]
theorem shr_w (a : BitVec 32) : (a.toNat : Int) / 16 = ((a >>> 4).toNat : Int) := by
  rw [BitVec.toNat_ushiftRight, Nat.shiftRight_eq_div_pow]; rfl
theorem and_w (a : BitVec 32) : bits .and .u32 (a.toNat : Int) 15 = ((a &&& 15#32).toNat : Int) := by
  have := u32_and_nat a.toNat 15 a.isLt (by decide)
  rw [show ((15 : Nat) : Int) = 15 from rfl] at this
  rw [this, BitVec.toNat_and]; rfl
def stepsTab : List Int := [0, 274646895, 549293790, 820201905, 1098587580, 1361435347, 1640403810, 1905808397, 2197175160, 2460548119, 2722870694, 2987750089, 3280807620, 3553878443, 3811616794, 4084100981]
theorem tab_ok : (List.range 16).all (fun i => stepsTab.getD i 0 == ((stps 4 (BitVec.ofNat 32 i)).toNat : Int)) = true := by decide +kernel
theorem low_lt (s : BitVec 32) : (s &&& 15#32).toNat < 16 := by
  rw [BitVec.toNat_and]
  exact Nat.lt_of_le_of_lt Nat.and_le_right (by decide)
theorem tab_at (s : BitVec 32) : stepsTab.getD (s &&& 15#32).toNat 0 = ((stps 4 (s &&& 15#32)).toNat : Int) := by
  have := List.all_eq_true.1 tab_ok _ (List.mem_range.2 (low_lt s))
  rw [beq_iff_eq] at this
  rw [this, BitVec.ofNat_toNat, BitVec.setWidth_eq]
theorem stp_even {x : BitVec 32} (h : x.getLsbD 0 = false) : stp x = x >>> 1 := by
  unfold stp; rw [h]; simp
theorem stps_even : ∀ (n : Nat) (x : BitVec 32), (∀ i, i < n → x.getLsbD i = false) → stps n x = x >>> n
  | 0, x, _ => by simp [stps]
  | n + 1, x, h => by
    show stps n (stp x) = _
    rw [stp_even (h 0 (by omega)), stps_even n _ fun i hi => by rw [BitVec.getLsbD_ushiftRight, Nat.add_comm]; exact h (i + 1) (by omega)]
    rw [← BitVec.shiftRight_add, Nat.add_comm]
/-- A step of four bits by the table. -/
theorem step_four (s : BitVec 32) : (s >>> 4) ^^^ stps 4 (s &&& 15#32) = stps 4 s := by
  have hs : s = (s &&& ~~~15#32) ^^^ (s &&& 15#32) := by
    refine BitVec.eq_of_getLsbD_eq fun i hi => ?_
    simp only [BitVec.getLsbD_xor, BitVec.getLsbD_and, BitVec.getLsbD_not]
    cases s.getLsbD i <;> cases (15#32).getLsbD i <;> simp [hi]
  have h15 : ∀ i, i < 4 → (15#32).getLsbD i = true := by decide
  have h1 : stps 4 (s &&& ~~~15#32) = s >>> 4 := by
    rw [stps_even 4 _ fun i hi => by rw [BitVec.getLsbD_and, BitVec.getLsbD_not, h15 i hi]; simp]
    refine BitVec.eq_of_getLsbD_eq fun i hi => ?_
    rw [BitVec.getLsbD_ushiftRight, BitVec.getLsbD_ushiftRight, BitVec.getLsbD_and, BitVec.getLsbD_not]
    by_cases h : 4 + i < 32
    · have : (15#32).getLsbD (4 + i) = false := by
        have h2 : ∀ j, j < 28 → (15#32).getLsbD (4 + j) = false := by decide
        exact h2 i (by omega)
      rw [this]; simp [h]
    · rw [BitVec.getLsbD_of_ge _ _ (by omega)]; simp
  conv => rhs; rw [hs, stps_xor, h1]
theorem stps_eight (s : BitVec 32) : stps 4 (stps 4 s) = stps 8 s := (stps_add 4 4 s).symm

/-- What the calls ask of the world: the table reads as the program lays it. -/
def Env (w : World) : Prop := Lib.TabIs Tryz.prog w "pneumatic/crc.steps" .u32 stepsTab
theorem gSteps : Tryz.prog.globalNamed "pneumatic/crc.steps" = some 0 := by kernel_rfl
theorem Env.below {w w' : World} (h : Env w) (hb : Below w.heap.size w w') : Env w' := Joins.tab_stays gSteps h hb (Nat.le_refl _)
theorem Env.alloc {w : World} (h : Env w) (o : Obj) : Env (w.alloc o) := h.below ((Below.refl _ w).alloc (Nat.le_refl _) o)
theorem Env.lt {w : World} (h : Env w) : 0 < w.heap.size := by
  have := Lib.TabIs.cell h gSteps 0 (by decide)
  rcases Nat.lt_or_ge 0 w.heap.size with h' | h'
  · exact h'
  · simp [World.cell?, Array.getElem?_eq_none h'] at this
theorem Env.grown {w w' : World} {R : Nat} (h : Env w) (hg : w.grownBy w' (some R)) (hR : 0 ≠ R) : Env w' := by
  have hl := h.lt
  unfold Env Lib.TabIs World.var? at h ⊢
  rw [gSteps] at h ⊢
  simp only [Option.bind_some] at h ⊢
  rw [hg.block _ hl (by rintro he; exact hR (Option.some.inj he))]
  exact h

theorem step_nat (n hi l t r : Nat) (w : World) (hc : w.cell? ⟨0, l, none⟩ = some (.int .u32 (t : Int))) (h1 : (n : Int) / 16 = (hi : Int)) (h2 : bits .and .u32 (n : Int) 15 = (l : Int)) (h3 : bits .xor .u32 (hi : Int) (t : Int) = (r : Int)) (h4 : (l : Int) < 16) :
    Calls Tryz.prog 101 #[.int .u32 (n : Int)] w (Quits (.int .u32 (r : Int)) w) := by
  go_enter Tryz.func101, Tryz.ntmps101
  go_wp2
  go_ret
  exact ⟨rfl, rfl⟩
theorem step_any (s : BitVec 32) (w : World) (hE : Env w) : Calls Tryz.prog 101 #[u32V s] w (Quits (u32V (stps 4 s)) w) := by
  have hc := Lib.TabIs.cell hE gSteps (s &&& 15#32).toNat (low_lt s)
  rw [tab_at] at hc
  have h3 := xor_w (s >>> 4) (stps 4 (s &&& 15#32))
  rw [step_four] at h3
  exact step_nat _ _ _ _ _ w hc (shr_w s) (and_w s) h3 (by have := low_lt s; omega)
end Go.Proofs.YtmbfhmjcphoddaaGreatDoor.Crc
/- The calls of package crc that make sums: the closure of Extend, each, Extend, Sum. -/
set_option linter.unusedSimpArgs false
set_option linter.unusedVariables false
namespace Go.Proofs.YtmbfhmjcphoddaaGreatDoor.Crc
open Go Go.RowKit Gm
attribute [local go_sem ↓] Go.wp_at_zero Go.wp_at_succ

/-- What the closure of Extend does: one byte goes into the register. -/
def Takes (g : Nat) (s : BitVec 32) (w : World) (e : Ending) (w' : World) : Prop := e = .returned (.tuple #[]) ∧ Blk w' g 63 #[u32V s] ∧ w.grownBy w' (some g)
theorem conv_w (c : UInt8) : IntKind.u32.wrap (c.toNat : Int) = (c.toNat : Int) := by
  rw [IntKind.wrap_u32']
  have := c.toNat_lt
  omega
theorem xor_b (s : BitVec 32) (c : UInt8) : bits .xor .u32 (s.toNat : Int) (c.toNat : Int) = ((s ^^^ byteW c).toNat : Int) := by
  have := xor_w s (byteW c)
  rwa [byteW_toNat] at this
set_option maxHeartbeats 1000000 in
theorem take_one (g : Nat) (s : BitVec 32) (c : UInt8) (w : World) (hE : Env w) (hb : Blk w g 63 #[u32V s]) (hg : 0 ≠ g) :
    Calls Tryz.prog 100 #[byteV c, .pointer (some ⟨g, 0, none⟩)] w (Takes g (crcB s c) w) := by
  have hx := xor_b s c
  have hk := conv_w c
  obtain ⟨x, hxx⟩ : ∃ x : BitVec 32, s ^^^ byteW c = x := ⟨_, rfl⟩
  rw [hxx] at hx
  have hcell := hb.cell 0 rfl
  have hfree := hb.free 0
  have hb1 := hb.set (u32V x)
  have c1 := hb1.cell 0 rfl
  have f1 := hb1.free 0
  have hE1 : Env (w.setCell ⟨g, 0, none⟩ (u32V x)) := hE.grown (grown_set (World.grownBy.refl _ _) _) hg
  have H1 := Lib.hid (step_any x _ hE1)
  have H2 := Lib.hid (step_any (stps 4 x) _ hE1)
  rw [stps_eight] at H2
  have hr : crcB s c = stps 8 x := by unfold crcB; rw [hxx]
  have HR := Lib.hid hr
  have HB := Lib.hid hb1
  have hgr : w.grownBy ((w.setCell ⟨g, 0, none⟩ (u32V x)).setCell ⟨g, 0, none⟩ (u32V (stps 8 x))) (some g) := (grown_set (World.grownBy.refl _ _) _).trans (grown_set (World.grownBy.refl _ _) _)
  have HG := Lib.hid hgr
  clear hE hE1 hb hb1 hg hxx hr hgr
  unfold u32V at *
  go_enter Tryz.func100, Tryz.ntmps100
  go_wp2_with fail
  refine H1.out.mono ?_; rintro e w1 ⟨rfl, rfl⟩
  go_wp2_with fail
  refine H2.out.mono ?_; rintro e w1 ⟨rfl, rfl⟩
  go_wp2_with fail
  go_end0
  exact ⟨rfl, by rw [HR.out]; exact HB.out.set _, HG.out⟩
theorem idx_b (p : Option Addr) (b o n cap k : Nat) (hp : p = some ⟨b, o, none⟩) (hk : k < n) (W : World) : (Instr.indexAt 25 (.slice p n cap) (.int .i64 (k : Int))).run Tryz.prog W = .ok (.pointer (some ⟨b, o + k, none⟩)) W := by subst hp; go_simp
theorem bs_at {w : World} {v : Value} {L : List UInt8} (h : Bs w v L) {i : Nat} (hi : i < L.length) : ∃ p cap b o, v = .slice p L.length cap ∧ p = some ⟨b, o, none⟩ ∧ b < w.heap.size ∧ w.cell? ⟨b, o + i, none⟩ = some (byteV (L.getD i 0)) := by
  rcases h with ⟨_, rfl⟩ | ⟨a, cap, rfl, h2, h3⟩
  · simp at hi
  · obtain ⟨b, o, rfl, hb, hc⟩ := h3 (by rintro rfl; simp at hi)
    exact ⟨_, cap, b, o, rfl, rfl, hb, hc i hi⟩
theorem crcL_snoc (s : BitVec 32) (L : List UInt8) {k : Nat} (hk : k < L.length) : crcB (crcL s (L.take k)) (L.getD k 0) = crcL s (L.take (k + 1)) := by
  rw [List.take_add_one, List.getElem?_eq_getElem hk, crcL_append, List.getD_eq_getElem?_getD, List.getElem?_eq_getElem hk]
  rfl
/-- Bytes whose lengths the program's numbers bear. -/
def maxB : Nat := 281474976710656
set_option maxHeartbeats 2000000 in
theorem each_any (v : Value) (L : List UInt8) (g : Nat) (s : BitVec 32) (w0 w : World) (hE : Env w) (hB : Bs w0 v L) (hl : L.length ≤ maxB) (hw : Below w0.heap.size w0 w) (hg : w0.heap.size ≤ g) (hb : Blk w g 63 #[u32V s]) (hne : 0 ≠ g) :
    Calls Tryz.prog 99 #[v, .func (.func 100) #[] #[.pointer (some ⟨g, 0, none⟩)]] w (Takes g (crcL s L) w) := by
  obtain ⟨p, cap, rfl⟩ := hB.form
  have HB := Lib.hid hB
  have HE := Lib.hid hE
  have HW := Lib.hid hw
  have HG := Lib.hid hg
  have HK := Lib.hid hb
  have HN := Lib.hid hne
  have hM : L.length ≤ 281474976710656 := hl
  clear hB hE hw hg hb hne hl
  go_enter Tryz.func99, Tryz.ntmps99
  go_wp2
  go_loopw [8] (fun i wr => ∃ (k : Nat), k ≤ L.length ∧ i = .int .i64 k ∧ Hid (Blk wr g 63 #[u32V (crcL s (L.take k))]) ∧ Hid (w.grownBy wr (some g))) (fun i _ => L.length - (intOf i).toNat)
  case atStart => exact ⟨0, Nat.zero_le _, rfl, HK, Lib.hid (World.grownBy.refl _ _)⟩
  case round =>
    obtain ⟨k, hk, rfl, HK1, HG1⟩ := hrel
    by_cases hkl : k < L.length
    · have hbr : Below w0.heap.size w0 wr := (only_grown HG1.out).below HW.out (by intro j hj; rw [List.mem_singleton.1 hj]; exact HG.out) HW.out.size
      obtain ⟨p1, cap1, b, o, hv, hp, hbl, h4⟩ := bs_at (HB.out.below hbr) hkl
      simp only [Value.slice.injEq] at hv
      obtain ⟨rfl, -, rfl⟩ := hv
      have hidx := idx_b p b o L.length cap k hp hkl
      have HT := Lib.hid (take_one g (crcL s (L.take k)) (L.getD k 0) wr (HE.out.grown HG1.out HN.out) HK1.out HN.out)
      rw [crcL_snoc s L hkl] at HT
      obtain ⟨c, hc⟩ : ∃ c, L.getD k 0 = c := ⟨_, rfl⟩
      rw [hc] at h4 HT
      clear hp hbl hbr hc
      go_wp2_with fail
      refine HT.out.mono ?_; rintro e w1 ⟨rfl, k2, g2⟩
      have HK2 := Lib.hid k2
      have HG2 := Lib.hid (HG1.out.trans g2)
      clear k2 g2
      go_wp2_with fail
      go_roundw
      case rel => exact ⟨k + 1, by omega, by go_num, HK2, HG2⟩
      case measure => simp [intOf]; omega
    · have hke : k = L.length := by omega
      subst hke
      rw [List.take_length] at HK1
      go_wp2_with fail
      go_end0
      exact ⟨rfl, HK1.out, HG1.out⟩
end Go.Proofs.YtmbfhmjcphoddaaGreatDoor.Crc
set_option linter.unusedSimpArgs false
set_option linter.unusedVariables false
namespace Go.Proofs.YtmbfhmjcphoddaaGreatDoor.Crc
open Go Go.RowKit Gm
attribute [local go_sem ↓] Go.wp_at_zero Go.wp_at_succ

theorem not_w (s : BitVec 32) : bits .xor .u32 IntKind.u32.max (s.toNat : Int) = ((ones ^^^ s).toNat : Int) := by
  have := xor_w ones s
  rwa [show (ones.toNat : Int) = IntKind.u32.max from by decide] at this
set_option maxHeartbeats 1000000 in
theorem extend_any (sum : BitVec 32) (v : Value) (L : List UInt8) (w : World) (hE : Env w) (hB : Bs w v L) (hl : L.length ≤ maxB) : Calls Tryz.prog 84 #[u32V sum, v] w (Gives (u32V (extL sum L)) w) := by
  have h1 := not_w sum
  have h2 := not_w (crcL (ones ^^^ sum) L)
  have hb : Blk (w.alloc (.cells #[u32V (ones ^^^ sum)] 63)) w.heap.size 63 #[u32V (ones ^^^ sum)] := Blk.new w _ _
  have HC := Lib.hid (each_any v L w.heap.size (ones ^^^ sum) w _ (hE.alloc _) hB hl (below_one w _) (Nat.le_refl _) hb (by have := hE.lt; omega))
  have HX : Hid (extL sum L = ones ^^^ crcL (ones ^^^ sum) L) := Lib.hid rfl
  obtain ⟨x, hx⟩ : ∃ x, ones ^^^ sum = x := ⟨_, rfl⟩
  rw [hx] at h1 h2 HC HX
  obtain ⟨y, hy⟩ : ∃ y, crcL x L = y := ⟨_, rfl⟩
  rw [hy] at h2 HC HX
  obtain ⟨z, hz⟩ : ∃ z, ones ^^^ y = z := ⟨_, rfl⟩
  rw [hz] at h2 HX
  clear hx hy hz hE hB hb hl
  unfold u32V at *
  go_enter Tryz.func84, Tryz.ntmps84
  go_wp2_with fail
  refine HC.out.mono ?_; rintro e w1 ⟨rfl, k1, g1⟩
  have c1 := k1.cell 0 rfl
  have HB1 : Hid (Below w.heap.size w w1) := Lib.hid ((only_grown g1).below (below_one w _) (by intro j hj; rw [List.mem_singleton.1 hj]; omega) (by simp))
  clear g1 HC
  go_wp2_with fail
  go_ret
  exact ⟨by rw [HX.out]; rfl, HB1.out⟩
theorem sum_any (v : Value) (L : List UInt8) (w : World) (hE : Env w) (hB : Bs w v L) (hl : L.length ≤ maxB) : Calls Tryz.prog 62 #[v] w (Gives (u32V (sumL L)) w) := by
  have HC := Lib.hid (extend_any 0#32 v L w hE hB hl)
  have HX : Hid (extL 0#32 L = sumL L) := Lib.hid rfl
  rw [HX.out] at HC
  rw [show u32V 0#32 = .int .u32 0 from rfl] at HC
  go_enter Tryz.func62, Tryz.ntmps62
  go_wp2_with fail
  refine HC.out.mono ?_; rintro e w1 ⟨rfl, b1⟩
  go_wp2_with fail
  go_ret
  exact ⟨rfl, b1⟩

/-! ### The document's -/
theorem sub_w (s : BitVec 32) : IntKind.u32.wrap (4294967295 - (s.toNat : Int)) = ((ones ^^^ s).toNat : Int) := by
  have h := s.isLt
  have e : (ones ^^^ s).toNat = 4294967295 - s.toNat := by
    rw [show (ones ^^^ s) = ~~~s from by rw [show ones = BitVec.allOnes 32 from by decide, BitVec.allOnes_xor], BitVec.toNat_not]
  rw [e, IntKind.wrap_u32']
  omega
theorem stp_odd {s : BitVec 32} (h : s.toNat % 2 = 1) : bits .xor .u32 ((s.toNat : Int) / 2) 2197175160 = ((stp s).toNat : Int) := by
  have hb : s.getLsbD 0 = true := by
    rw [BitVec.getLsbD, Nat.testBit_zero]; simpa using h
  have := xor_w (s >>> 1) poly
  rw [show ((s >>> 1).toNat : Int) = (s.toNat : Int) / 2 from by rw [BitVec.toNat_ushiftRight, Nat.shiftRight_eq_div_pow]; rfl] at this
  rw [show (poly.toNat : Int) = 2197175160 from by decide] at this
  rw [this]
  unfold stp; rw [hb]; rfl
theorem stp_evn {s : BitVec 32} (h : s.toNat % 2 = 0) : (s.toNat : Int) / 2 = ((stp s).toNat : Int) := by
  have hb : s.getLsbD 0 = false := by
    rw [BitVec.getLsbD, Nat.testBit_zero]; simp [h]
  rw [stp_even hb, BitVec.toNat_ushiftRight, Nat.shiftRight_eq_div_pow]; rfl
theorem stps_snoc (n : Nat) (s : BitVec 32) : stp (stps n s) = stps (n + 1) s := (stps_add n 1 s).symm
end Go.Proofs.YtmbfhmjcphoddaaGreatDoor.Crc
/- slices.Grow, slices.Concat of two rows of bytes and slices.Clone, walked. -/
set_option linter.unusedSimpArgs false
set_option linter.unusedVariables false
namespace Go.Proofs.YtmbfhmjcphoddaaGreatDoor.Gm
open Go Go.RowKit
attribute [local go_sem ↓] Go.wp_at_zero Go.wp_at_succ

theorem zeros_sizeB (z : Value) (k : Nat) : (Builtin.zeroCells z.cells k).size = k * z.cells.size := by
  unfold Builtin.zeroCells
  simp
set_option maxHeartbeats 4000000 in
set_option maxRecDepth 100000 in
/-- slices.Grow of no slice: an own row of no byte. -/
theorem growB_any (N : Nat) (hN : N ≤ 140737488355328) (w : World) : Calls Tryz.prog 46 #[.slice none 0 0, .int .i64 (N : Int)] w fun e w' => ∃ p c, e = .returned (.slice p 0 c) ∧ w'.ownsRow w.heap.size 5 1 (.slice p 0 c) 0 [] ∧ Below w.heap.size w w' := by
  obtain ⟨i0, ii, iz0, iz1, iz2⟩ := info_parts infoB
  by_cases h0 : N = 0
  · subst h0
    go_enter Tryz.func46, Tryz.ntmps46
    go_wp2
    go_ret
    exact ⟨none, 0, rfl, World.ownsRow_nil _ _ _ _, Below.refl _ _⟩
  · have hr0 := Lib.run_append_nil_zeros (P := Tryz.prog) w 25 3 25 5 i0 (.int .u8 0) .i64 .i64 Tryz.underlying25 Tryz.underlying3 ii iz0 N (by omega) (by omega) (by omega) (by rw [iz2]; omega)
    have hc1 := grownCap_ge w N 0 5
    have hc2 := grownCap_le_maxLen w N 0 5 (by unfold maxLen; omega)
    obtain ⟨C, hC⟩ : ∃ C, grownCap w N 0 5 = C := ⟨_, rfl⟩
    rw [hC] at hr0 hc1 hc2
    obtain ⟨Z, hZ⟩ : ∃ Z, Builtin.zeroCells (Value.int .u8 0).cells N ++ Builtin.zeroCells (Value.int .u8 0).cells (C - N) = Z := ⟨_, rfl⟩
    have hZs : Z.size = C * 1 := by
      rw [← hZ, Array.size_append, zeros_sizeB, zeros_sizeB]
      show N * 1 + (C - N) * 1 = C * 1
      omega
    rw [hZ] at hr0
    have hr := Lib.hid hr0
    have HB : Hid (Below w.heap.size w (w.drew.alloc (.cells Z 5))) := Lib.hid (((Below.refl _ w).drew).alloc (Nat.le_refl _) _)
    have HK : Hid (Blk (w.drew.alloc (.cells Z 5)) w.heap.size 5 Z) := Lib.hid (Blk.new w.drew 5 Z)
    have HZ := Lib.hid hZs
    have HM := Lib.hid hc2
    have hn : 0 < N := by omega
    clear h0 hr0 hC hZ hZs hc2
    go_enter Tryz.func46, Tryz.ntmps46
    go_wp2_with (at_builtin; refine Lib.wpList_append_run _ rfl _ _ _ _ rfl _ _ rfl rfl _ _ hr.out ?_)
    go_ret
    refine ⟨_, C, rfl, ⟨rfl, .inr ⟨w.heap.size, C, Z, rfl, Nat.le_refl _, HK.out, Nat.zero_le _, HM.out, HZ.out, by simp⟩⟩, HB.out⟩
/-- How many bytes the first k of two rows have. -/
def tot2B (m n k : Nat) : Nat := if k = 0 then 0 else if k = 1 then m else m + n
def part2B (p q : List UInt8) (k : Nat) : List Value := if k = 0 then [] else if k = 1 then cellsB p else cellsB p ++ cellsB q
set_option maxHeartbeats 8000000 in
set_option maxRecDepth 100000 in
theorem concatB_any (bb : Nat) (v0 v1 : Value) (p q : List UInt8) (w : World) (hK : Blk w bb 25 #[v0, v1]) (hP : Bs w v0 p) (hQ : Bs w v1 q) (lpq : p.length + q.length ≤ 140737488355328) : Calls Tryz.prog 25 #[.slice (some ⟨bb, 0, none⟩) 2 2] w (MadeB (p ++ q) w) := by
  obtain ⟨i0, ii, iz0, iz1, iz2⟩ := info_parts infoB
  obtain ⟨p0, c0, rfl⟩ := hP.form
  obtain ⟨p1, c1, rfl⟩ := hQ.form
  obtain ⟨m, hm⟩ : ∃ m, p.length = m := ⟨_, rfl⟩
  obtain ⟨n, hn⟩ : ∃ n, q.length = n := ⟨_, rfl⟩
  have HSa := Lib.hid (fun W (h : Below w.heap.size w W) => (hP.below h).src)
  have HSb := Lib.hid (fun W (h : Below w.heap.size w W) => (hQ.below h).src)
  have HK := Lib.hid hK
  rw [hm] at HSa lpq
  rw [hn] at HSb lpq
  have HM := Lib.hid hm
  have HN := Lib.hid hn
  rw [hm] at HK
  rw [hn] at HK
  clear hm hn hP hQ hK
  have k0 := HK.out.cell 0 rfl
  have k1 := HK.out.cell 1 rfl
  have wm : IntKind.i64.wrap (m : Int) = (m : Int) := by rw [IntKind.wrap_i64]; omega
  go_enter Tryz.func25, Tryz.ntmps25
  go_wp2_with fail
  go_loop [3, 11] (fun u i => ∃ k : Nat, k ≤ 2 ∧ i = .int .i64 k ∧ u = .int .i64 (tot2B m n k : Nat)) (fun _ i => 2 - (intOf i).toNat)
  case atStart => exact ⟨0, by omega, rfl, rfl⟩
  case round =>
    obtain ⟨k, hk, rfl, rfl⟩ := hrel
    obtain rfl | rfl | rfl : k = 0 ∨ k = 1 ∨ k = 2 := by omega
    · have t0 : tot2B m n 0 = 0 := rfl
      rw [t0]
      go_wp2_with fail
      go_round
      case rel => exact ⟨1, by omega, by simp, by rw [show tot2B m n 1 = m from rfl]⟩
      case measure => simp [intOf]
    · have t1 : tot2B m n 1 = m := rfl
      rw [t1]
      have h0 : 0 ≤ (m : Int) + (n : Int) := by omega
      go_wp2_with fail
      go_round
      case rel => exact ⟨2, by omega, by simp, by rw [show tot2B m n 2 = m + n from rfl]; go_num⟩
      case measure => simp [intOf]
    · have t2 : tot2B m n 2 = m + n := rfl
      rw [t2]
      have HG := Lib.hid (growB_any (m + n) (by omega) w)
      clear t2
      obtain ⟨N, hN⟩ : ∃ N, m + n = N := ⟨_, rfl⟩
      rw [hN] at HG ⊢
      have HNm := Lib.hid hN
      have hNl : N ≤ 140737488355328 := by omega
      have hmN : m ≤ N := by omega
      clear hN
      go_wp2_with fail
      refine HG.out.mono ?_; rintro e w1 ⟨pG, cG, rfl, hO1, hB1⟩
      have HO1 := Lib.hid hO1
      have HB1 := Lib.hid hB1
      have HK1 := Lib.hid (HK.out.later hB1)
      have hz := HK.out.lt
      clear HG hO1 hB1
      go_wp2_with fail
      go_loopw [6, 27] (fun u i wr => ∃ (k : Nat) (pU : Option Addr) (cU : Nat), k ≤ 2 ∧ i = .int .i64 k ∧ u = .slice pU (tot2B m n k) cU ∧ Hid (wr.ownsRow w.heap.size 5 1 (.slice pU (tot2B m n k) cU) (tot2B m n k) (part2B p q k)) ∧ Hid (Below w.heap.size w wr)) (fun _ i _ => 2 - (intOf i).toNat)
      case atStart => exact ⟨0, pG, cG, by omega, rfl, rfl, HO1, HB1⟩
      case round =>
        obtain ⟨k, pU, cU, hk, rfl, rfl, HO, HBel⟩ := hrel
        clear HO1 HB1 HK1
        have HKr := Lib.hid (HK.out.later HBel.out)
        have r0 := HKr.out.cell 0 rfl
        have r1 := HKr.out.cell 1 rfl
        have hzr := HBel.out.size
        obtain rfl | rfl | rfl : k = 0 ∨ k = 1 ∨ k = 2 := by omega
        · rw [show tot2B m n 0 = 0 from rfl, show part2B p q 0 = [] from rfl] at HO
          rw [show tot2B m n 0 = 0 from rfl]
          go_wp2_with (at_builtin; refine wpList_append_src rfl _ _ 25 (by rfl) w.heap.size 5 i0 (.int .u8 0) 1 1 Tryz.underlying25 ii iz0 iz1 iz2 rfl (by decide) _ _ _ (by rfl) HO.out _ m (cellsB p) (by rfl) (HSa.out _ HBel.out) m (by omega) (by unfold maxLen; omega) (by omega) hzr ?_; intro pA capA w3 hown3 hgrow3; have HO3 := Lib.hid hown3; have HB3 := Lib.hid (HBel.out.grown hgrow3 hzr (fun j hj => (World.ownsRow.lt HO.out j hj).1)); clear hown3 hgrow3)
          go_roundw
          case rel => exact ⟨1, pA, capA, by omega, by simp, rfl, HO3, HB3⟩
          case measure => simp [intOf]
        · rw [show tot2B m n 1 = m from rfl, show part2B p q 1 = cellsB p from rfl] at HO
          rw [show tot2B m n 1 = m from rfl]
          go_wp2_with (at_builtin; refine wpList_append_src rfl _ _ 25 (by rfl) w.heap.size 5 i0 (.int .u8 0) 1 1 Tryz.underlying25 ii iz0 iz1 iz2 rfl (by decide) _ _ _ (by rfl) HO.out _ n (cellsB q) (by rfl) (HSb.out _ HBel.out) (m + n) rfl (by unfold maxLen; omega) (by omega) hzr ?_; intro pA capA w3 hown3 hgrow3; have HO3 := Lib.hid hown3; have HB3 := Lib.hid (HBel.out.grown hgrow3 hzr (fun j hj => (World.ownsRow.lt HO.out j hj).1)); clear hown3 hgrow3)
          go_roundw
          case rel => exact ⟨2, pA, capA, by omega, by simp, rfl, HO3, HB3⟩
          case measure => simp [intOf]
        · rw [show tot2B m n 2 = m + n from rfl, show part2B p q 2 = cellsB p ++ cellsB q from rfl] at HO
          rw [show tot2B m n 2 = m + n from rfl]
          have HF : Hid (OwnB wr w.heap.size (.slice pU (m + n) cU) (p ++ q)) := Lib.hid (ownB_app HO.out (by rw [HM.out, HN.out]))
          go_wp2_with fail
          go_ret
          exact ⟨_, rfl, HF.out, HBel.out⟩
set_option maxHeartbeats 1000000 in
set_option maxRecDepth 100000 in
/-- slices.Clone of bytes. -/
theorem cloneB_any (v : Value) (L : List UInt8) (w : World) (hB : Bs w v L) (hl : L.length ≤ 140737488355328) : Calls Tryz.prog 52 #[v] w (MadeB L w) := by
  obtain ⟨i0, ii, iz0, iz1, iz2⟩ := info_parts infoB
  have HS := Lib.hid (fun W (h : Below w.heap.size w W) => (hB.below h).src)
  rcases hB with ⟨rfl, rfl⟩ | ⟨a, cap, rfl, h2, h3⟩
  · have hq := Lib.run_eql_slice_nil_nil (P := Tryz.prog) w (t := 25) 0 0 Tryz.underlying25
    go_enter Tryz.func52, Tryz.ntmps52
    go_wp2_with fail
    go_ret
    exact ⟨_, rfl, OwnB.nil _ _, Below.refl _ _⟩
  · obtain ⟨m, hm⟩ : ∃ m, L.length = m := ⟨_, rfl⟩
    have HM := Lib.hid hm
    rw [hm] at HS hl ⊢
    have hq := Lib.run_eql_slice_some_nil (P := Tryz.prog) w (t := 25) a m cap Tryz.underlying25
    have HO := Lib.hid (ownB_lit w [] #[] 0 rfl rfl (by simp))
    have HB := Lib.hid (below_one w (.cells #[] 5))
    clear hm h2 h3
    go_enter Tryz.func52, Tryz.ntmps52
    go_wp2_with (at_builtin; refine wpList_append_src rfl _ _ 25 (by rfl) w.heap.size 5 i0 (.int .u8 0) 1 1 Tryz.underlying25 ii iz0 iz1 iz2 rfl (by decide) _ _ _ (by rfl) HO.out _ m (cellsB L) (by rfl) (HS.out _ HB.out) m (by simp) (by unfold maxLen; omega) (by omega) (by simp) ?_; intro pA capA w3 hown3 hgrow3; have HO3 := Lib.hid hown3; have HB3 := Lib.hid (HB.out.grown hgrow3 (by simp) (fun j hj => (World.ownsRow.lt HO.out j hj).1)); clear hown3 hgrow3)
    go_ret
    exact ⟨_, rfl, ownB_app HO3.out (by rw [HM.out]; simp), HB3.out⟩
end Go.Proofs.YtmbfhmjcphoddaaGreatDoor.Gm
set_option linter.unusedSimpArgs false
set_option linter.unusedVariables false
namespace Go.Proofs.YtmbfhmjcphoddaaGreatDoor.Crc
open Go Go.RowKit Gm
attribute [local go_sem ↓] Go.wp_at_zero Go.wp_at_succ

/-- A number's lowest byte. -/
theorem low_byte (n : Nat) : IntKind.u8.wrap (n : Int) = ((UInt8.ofNat n).toNat : Int) := by
  rw [IntKind.wrap_u8', UInt8.toNat_ofNat']
  omega
theorem low_byte_1 (n : Nat) : (n : Int) / 256 % 256 = ((UInt8.ofNat (n / 256)).toNat : Int) := by
  rw [UInt8.toNat_ofNat']; omega
theorem low_byte_2 (n : Nat) : (n : Int) / 65536 % 256 = ((UInt8.ofNat (n / 65536)).toNat : Int) := by
  rw [UInt8.toNat_ofNat']; omega
theorem low_byte_3 (n : Nat) : (n : Int) / 16777216 % 256 = ((UInt8.ofNat (n / 16777216)).toNat : Int) := by
  rw [UInt8.toNat_ofNat']; omega
theorem blk_set {w : World} {g i : Nat} {t : TypeId} {cs : Array Value} (h : Blk w g t cs) (u : Value) : Blk (w.setCell ⟨g, i, none⟩ u) g t (cs.setIfInBounds i u) := Joins.block_setCell h u
theorem le4_eq (s : BitVec 32) : le4 s = [UInt8.ofNat s.toNat, UInt8.ofNat (s.toNat / 256), UInt8.ofNat (s.toNat / 65536), UInt8.ofNat (s.toNat / 16777216)] := rfl
/-- Four bytes as an array's value. -/
abbrev arr4 (a b c d : UInt8) : Value := .agg #[byteV a, byteV b, byteV c, byteV d]
set_option maxHeartbeats 1000000 in
theorem seal_at (v : Value) (L : List UInt8) (a b c d : UInt8) (h4 : le4 (sumL L) = [a, b, c, d]) (w : World) (hE : Env w) (hB : Bs w v L) (hl : L.length ≤ maxB) : Calls Tryz.prog 45 #[v] w (Gives (arr4 a b c d) w) := by
  rw [le4_eq] at h4
  simp only [List.cons.injEq, and_true] at h4
  obtain ⟨e0, e1, e2, e3⟩ := h4
  have HC := Lib.hid (sum_any v L _ (hE.alloc (.cells #[.int .u8 0, .int .u8 0, .int .u8 0, .int .u8 0] 86)) (hB.below (below_one w _)) hl)
  generalize sumL L = s at *
  have k0 := low_byte s.toNat
  have k1 := low_byte_1 s.toNat
  have k2 := low_byte_2 s.toNat
  have k3 := low_byte_3 s.toNat
  rw [e0] at k0
  rw [e1] at k1
  rw [e2] at k2
  rw [e3] at k3
  clear e0 e1 e2 e3 hE hB hl
  unfold u32V at *
  generalize s.toNat = n at *
  have HB := Lib.hid (below_one w (.cells #[.int .u8 0, .int .u8 0, .int .u8 0, .int .u8 0] 86))
  have HK := Lib.hid (Blk.new w 86 #[.int .u8 0, .int .u8 0, .int .u8 0, .int .u8 0])
  obtain ⟨W1, hW1⟩ : ∃ W1, w.alloc (.cells #[.int .u8 0, .int .u8 0, .int .u8 0, .int .u8 0] 86) = W1 := ⟨_, rfl⟩
  go_enter Tryz.func45, Tryz.ntmps45
  go_wp2_with fail
  rw [hW1] at HC HB HK
  clear hW1
  refine HC.out.mono ?_; rintro e w1 ⟨rfl, b1⟩
  have hk := HK.out.later b1
  have c0 := hk.cell 0 rfl
  have c1 := hk.cell 1 rfl
  have c2 := hk.cell 2 rfl
  have c3 := hk.cell 3 rfl
  have f0 := hk.free 0
  have f1 := hk.free 1
  have f2 := hk.free 2
  have f3 := hk.free 3
  have HK1 := Lib.hid hk
  have HB1 := Lib.hid (then_ HB.out b1)
  clear hk b1 HC
  go_wp2_with fail
  have hk4 := blk_set (i := 3) (blk_set (i := 2) (blk_set (i := 1) (blk_set (i := 0) HK1.out (byteV a)) (byteV b)) (byteV c)) (byteV d)
  have hb4 : Below w.heap.size w ((((w1.setCell ⟨w.heap.size, 0, none⟩ (byteV a)).setCell ⟨w.heap.size, 1, none⟩ (byteV b)).setCell ⟨w.heap.size, 2, none⟩ (byteV c)).setCell ⟨w.heap.size, 3, none⟩ (byteV d)) :=
    (only_grown (grown_set (grown_set (grown_set (grown_set (World.grownBy.refl w1 (some w.heap.size)) _) _) _) _)).below HB1.out (by intro j hj; rw [List.mem_singleton.1 hj]; omega) HB1.out.size
  obtain ⟨W4, hW4⟩ : ∃ W4, (((w1.setCell ⟨w.heap.size, 0, none⟩ (byteV a)).setCell ⟨w.heap.size, 1, none⟩ (byteV b)).setCell ⟨w.heap.size, 2, none⟩ (byteV c)).setCell ⟨w.heap.size, 3, none⟩ (byteV d) = W4 := ⟨_, rfl⟩
  rw [hW4] at hk4 hb4 ⊢
  have r0 := hk4.cell 0 rfl
  have r1 := hk4.cell 1 rfl
  have r2 := hk4.cell 2 rfl
  have r3 := hk4.cell 3 rfl
  refine bodyPost_ret (v := arr4 a b c d) (by simp [results, Tryz.results45, go_sem, r0, r1, r2, r3]) rfl ⟨rfl, hb4⟩
/-- Bytes in a block of an array, as a slice. -/
theorem bs_blk {w : World} {g : Nat} {t : TypeId} {cs : Array Value} (h : Blk w g t cs) (L : List UInt8) (n : Nat) (hn : L.length = n) (hc : ∀ i, i < L.length → cs[i]? = some (byteV (L.getD i 0))) : Bs w (.slice (some ⟨g, 0, none⟩) n n) L := by
  subst hn
  refine .inr ⟨⟨g, 0, none⟩, L.length, rfl, Nat.le_refl _, fun _ => ⟨g, 0, rfl, h.lt, fun i hi => ?_⟩⟩
  rw [Nat.zero_add]
  exact h.cell i (hc i hi)
/-- Bytes that come in are at most so many. -/
def maxIn : Nat := 140737488351232
theorem four_le (l : List UInt8) (h : l.length = 4) : ∃ a b c d, l = [a, b, c, d] := by
  match l, h with
  | [a, b, c, d], _ => exact ⟨a, b, c, d, rfl⟩
set_option maxHeartbeats 1000000 in
theorem put_any (v : Value) (L : List UInt8) (w : World) (hE : Env w) (hB : Bs w v L) (hl : L.length ≤ maxIn) : Calls Tryz.prog 24 #[v] w (MadeB (putL L) w) := by
  obtain ⟨a, b, c, d, h4⟩ := four_le (le4 (sumL L)) rfl
  obtain ⟨p, cp, rfl⟩ := hB.form
  have hl1 : L.length ≤ maxB := Nat.le_trans hl (by decide)
  have HC := Lib.hid (seal_at _ L a b c d h4 w hE hB hl1)
  have HB := Lib.hid hB
  have HL : Hid (L.length + [a, b, c, d].length ≤ 140737488355328) := Lib.hid (by simp only [List.length_cons, List.length_nil]; unfold maxIn at hl; omega)
  have HP : Hid (putL L = L ++ [a, b, c, d]) := Lib.hid (by unfold putL; rw [h4])
  clear h4 hE hB hl hl1
  go_enter Tryz.func24, Tryz.ntmps24
  go_wp2_with fail
  refine HC.out.mono ?_; rintro e w1 ⟨rfl, b1⟩
  have HB1 := Lib.hid b1
  obtain ⟨W2, hW2⟩ : ∃ W2, w1.alloc (.cells #[byteV a, byteV b, byteV c, byteV d] 86) = W2 := ⟨_, rfl⟩
  obtain ⟨g, hg⟩ : ∃ g, w1.heap.size = g := ⟨_, rfl⟩
  have HK2 : Hid (Blk W2 g 86 #[byteV a, byteV b, byteV c, byteV d]) := Lib.hid (by rw [← hW2, ← hg]; exact Blk.new w1 _ _)
  have HB2 : Hid (Below w.heap.size w W2) := Lib.hid (by rw [← hW2]; exact then_ b1 (below_one w1 _))
  clear b1 HC
  go_wp2_with fail
  have HB3 := Lib.hid (then_ HB2.out (below_one W2 (.cells #[.slice p L.length cp, .slice (some ⟨g, 0, none⟩) 4 4] 25)))
  have HQ := Lib.hid ((bs_blk HK2.out [a, b, c, d] 4 rfl (by intro i hi; match i, hi with | 0, _ => rfl | 1, _ => rfl | 2, _ => rfl | 3, _ => rfl)).below (below_one W2 (.cells #[.slice p L.length cp, .slice (some ⟨g, 0, none⟩) 4 4] 25)))
  have HC := Lib.hid (concatB_any W2.heap.size _ _ L [a, b, c, d] _ (Blk.new W2 25 #[.slice p L.length cp, .slice (some ⟨g, 0, none⟩) 4 4]) (HB.out.below HB3.out) HQ.out HL.out)
  refine HC.out.mono ?_; rintro e w4 ⟨vr, rfl, ho, b4⟩
  have HO4 := Lib.hid (ho.base (Below.size HB3.out))
  have HB4 := Lib.hid (then_ HB3.out b4)
  obtain ⟨pr, cr, rfl⟩ := ho.form
  clear ho b4 HC
  go_wp2_with fail
  go_ret
  refine ⟨Value.slice pr (L.length + 4) cr, rfl, ?_, HB4.out⟩
  have h := HO4.out
  rw [List.length_append] at h
  rw [HP.out]
  exact h
/-- What is left of a sum, byte by byte. -/
theorem quo_256 (s k : Nat) : s / 256 ^ k / 256 = s / 256 ^ (k + 1) := by rw [Nat.div_div_eq_div_mul, Nat.pow_succ]
theorem rem_byte (n : Nat) : IntKind.u8.wrap ((n : Int) % 256) = ((UInt8.ofNat n).toNat : Int) := by
  rw [IntKind.wrap_u8', UInt8.toNat_ofNat']
  omega
theorem rem_byte' (n : Nat) : (n : Int) % 256 = ((UInt8.ofNat n).toNat : Int) := by
  rw [UInt8.toNat_ofNat']
  omega
def le4k (s : Nat) (k : Nat) : List UInt8 := (List.range k).map fun i => UInt8.ofNat (s / 256 ^ i)
theorem le4k_snoc (s k : Nat) : le4k s k ++ [UInt8.ofNat (s / 256 ^ k)] = le4k s (k + 1) := by
  unfold le4k; rw [List.range_succ, List.map_append]; rfl
theorem le4k_length (s k : Nat) : (le4k s k).length = k := by unfold le4k; rw [List.length_map, List.length_range]
theorem le4k_four (s : BitVec 32) : le4k s.toNat 4 = le4 s := by
  simp [le4k, le4, List.range_succ]
end Go.Proofs.YtmbfhmjcphoddaaGreatDoor.Crc
