/- Sums: package crc's Extend and Sum; the document's. -/
import Derived.Test.YtelocbohiddpgaaGreatDoorYb
import Derived.Test.YtelocbohiddpgaaGreatDoorGb
import Derived.Lib.LaidTab
import Derived.Lib.SmallJoins
import Derived.Laws.BitsAllLaws
/- The calls of package crc that make sums: the closure of Extend, each, Extend, Sum. -/
/- The program's table of steps of four bits, and one step, as plain functions; what a row lists of the table; the call step. -/
set_option linter.unusedSimpArgs false
set_option linter.unusedVariables false
namespace Go.Proofs.YtelocbohiddpgaaGreatDoor.Crc
open Go Go.RowKit Gm
attribute [local go_sem ↓] Go.wp_at_zero Go.wp_at_succ

/-- A sum as a value. -/
abbrev u32V (s : BitVec 32) : Value := .int .u32 (s.toNat : Int)
theorem xor_w (a b : BitVec 32) : bits .xor .u32 (a.toNat : Int) (b.toNat : Int) = ((a ^^^ b).toNat : Int) := by
  rw [u32_xor_nat _ _ a.isLt b.isLt, BitVec.toNat_xor]
theorem shr_w (a : BitVec 32) : (a.toNat : Int) / 16 = ((a >>> 4).toNat : Int) := by
  rw [BitVec.toNat_ushiftRight, Nat.shiftRight_eq_div_pow]; rfl
theorem and_w (a : BitVec 32) : bits .and .u32 (a.toNat : Int) 15 = ((a &&& 15#32).toNat : Int) := by
  have := u32_and_nat a.toNat 15 a.isLt (by decide)
  rw [show ((15 : Nat) : Int) = 15 from rfl] at this
  rw [this, BitVec.toNat_and]; rfl
def stepsTab : List Int := [0, 274646895, 549293790, 820201905, 1098587580, 1361435347, 1640403810, 1905808397, 2197175160, 2460548119, 2722870694, 2987750089, 3280807620, 3553878443, 3811616794, 4084100981]
theorem tab_ok : (List.range 16).all (fun i => stepsTab.getD i 0 == ((stps 4 (BitVec.ofNat 32 i)).toNat : Int)) = true := by decide +kernel
theorem low_lt (s : BitVec 32) : (s &&& 15#32).toNat < 16 := by
  rw [BitVec.toNat_and]
  exact Nat.lt_of_le_of_lt Nat.and_le_right (by decide)
theorem tab_at (s : BitVec 32) : stepsTab.getD (s &&& 15#32).toNat 0 = ((stps 4 (s &&& 15#32)).toNat : Int) := by
  have := List.all_eq_true.1 tab_ok _ (List.mem_range.2 (low_lt s))
  rw [beq_iff_eq] at this
  rw [this, BitVec.ofNat_toNat, BitVec.setWidth_eq]
theorem stp_even {x : BitVec 32} (h : x.getLsbD 0 = false) : stp x = x >>> 1 := by
  unfold stp; rw [h]; simp
theorem stps_even : ∀ (n : Nat) (x : BitVec 32), (∀ i, i < n → x.getLsbD i = false) → stps n x = x >>> n
  | 0, x, _ => by simp [stps]
  | n + 1, x, h => by
    show stps n (stp x) = _
    rw [stp_even (h 0 (by omega)), stps_even n _ fun i hi => by rw [BitVec.getLsbD_ushiftRight, Nat.add_comm]; exact h (i + 1) (by omega)]
    rw [← BitVec.shiftRight_add, Nat.add_comm]
/-- A step of four bits by the table. -/
theorem step_four (s : BitVec 32) : (s >>> 4) ^^^ stps 4 (s &&& 15#32) = stps 4 s := by
  have hs : s = (s &&& ~~~15#32) ^^^ (s &&& 15#32) := by
    refine BitVec.eq_of_getLsbD_eq fun i hi => ?_
    simp only [BitVec.getLsbD_xor, BitVec.getLsbD_and, BitVec.getLsbD_not]
    cases s.getLsbD i <;> cases (15#32).getLsbD i <;> simp [hi]
  have h15 : ∀ i, i < 4 → (15#32).getLsbD i = true := by decide
  have h1 : stps 4 (s &&& ~~~15#32) = s >>> 4 := by
    rw [stps_even 4 _ fun i hi => by rw [BitVec.getLsbD_and, BitVec.getLsbD_not, h15 i hi]; simp]
    refine BitVec.eq_of_getLsbD_eq fun i hi => ?_
    rw [BitVec.getLsbD_ushiftRight, BitVec.getLsbD_ushiftRight, BitVec.getLsbD_and, BitVec.getLsbD_not]
    by_cases h : 4 + i < 32
    · have : (15#32).getLsbD (4 + i) = false := by
        have h2 : ∀ j, j < 28 → (15#32).getLsbD (4 + j) = false := by decide
        exact h2 i (by omega)
      rw [this]; simp [h]
    · rw [BitVec.getLsbD_of_ge _ _ (by omega)]; simp
  conv => rhs; rw [hs, stps_xor, h1]
theorem stps_eight (s : BitVec 32) : stps 4 (stps 4 s) = stps 8 s := (stps_add 4 4 s).symm

/-- What the calls ask of the world: the table reads as the program lays it. -/
def Env (w : World) : Prop := Lib.TabIs Tryz.prog w "pneumatic/crc.steps" .u32 stepsTab
theorem gSteps : Tryz.prog.globalNamed "pneumatic/crc.steps" = some 4 := by kernel_rfl
theorem Env.below {w w' : World} (h : Env w) (hb : Below w.heap.size w w') : Env w' := Joins.tab_stays gSteps h hb (Nat.le_refl _)
theorem Env.alloc {w : World} (h : Env w) (o : Obj) : Env (w.alloc o) := h.below ((Below.refl _ w).alloc (Nat.le_refl _) o)
theorem Env.lt {w : World} (h : Env w) : 4 < w.heap.size := by
  have := Lib.TabIs.cell h gSteps 0 (by decide)
  rcases Nat.lt_or_ge 4 w.heap.size with h' | h'
  · exact h'
  · simp [World.cell?, Array.getElem?_eq_none h'] at this
theorem Env.grown {w w' : World} {R : Nat} (h : Env w) (hg : w.grownBy w' (some R)) (hR : 4 ≠ R) : Env w' := by
  have hl := h.lt
  unfold Env Lib.TabIs World.var? at h ⊢
  rw [gSteps] at h ⊢
  simp only [Option.bind_some] at h ⊢
  rw [hg.block _ hl (by rintro he; exact hR (Option.some.inj he))]
  exact h

theorem step_nat (n hi l t r : Nat) (w : World) (hc : w.cell? ⟨4, l, none⟩ = some (.int .u32 (t : Int))) (h1 : (n : Int) / 16 = (hi : Int)) (h2 : bits .and .u32 (n : Int) 15 = (l : Int)) (h3 : bits .xor .u32 (hi : Int) (t : Int) = (r : Int)) (h4 : (l : Int) < 16) :
    Calls Tryz.prog 166 #[.int .u32 (n : Int)] w (Quits (.int .u32 (r : Int)) w) := by
  go_enter Tryz.func166, Tryz.ntmps166
  go_wp2
  go_ret
  exact ⟨rfl, rfl⟩
theorem step_any (s : BitVec 32) (w : World) (hE : Env w) : Calls Tryz.prog 166 #[u32V s] w (Quits (u32V (stps 4 s)) w) := by
  have hc := Lib.TabIs.cell hE gSteps (s &&& 15#32).toNat (low_lt s)
  rw [tab_at] at hc
  have h3 := xor_w (s >>> 4) (stps 4 (s &&& 15#32))
  rw [step_four] at h3
  exact step_nat _ _ _ _ _ w hc (shr_w s) (and_w s) h3 (by have := low_lt s; omega)
end Go.Proofs.YtelocbohiddpgaaGreatDoor.Crc
set_option linter.unusedSimpArgs false
set_option linter.unusedVariables false
namespace Go.Proofs.YtelocbohiddpgaaGreatDoor.Crc
open Go Go.RowKit Gm
attribute [local go_sem ↓] Go.wp_at_zero Go.wp_at_succ

/-- What the closure of Extend does: one byte goes into the register. -/
def Takes (g : Nat) (s : BitVec 32) (w : World) (e : Ending) (w' : World) : Prop := e = .returned (.tuple #[]) ∧ Blk w' g 104 #[u32V s] ∧ w.grownBy w' (some g)
theorem conv_w (c : UInt8) : IntKind.u32.wrap (c.toNat : Int) = (c.toNat : Int) := by
  rw [IntKind.wrap_u32']
  have := c.toNat_lt
  omega
theorem xor_b (s : BitVec 32) (c : UInt8) : bits .xor .u32 (s.toNat : Int) (c.toNat : Int) = ((s ^^^ byteW c).toNat : Int) := by
  have := xor_w s (byteW c)
  rwa [byteW_toNat] at this
set_option maxHeartbeats 1000000 in
theorem take_one (g : Nat) (s : BitVec 32) (c : UInt8) (w : World) (hE : Env w) (hb : Blk w g 104 #[u32V s]) (hg : 4 ≠ g) :
    Calls Tryz.prog 165 #[byteV c, .pointer (some ⟨g, 0, none⟩)] w (Takes g (crcB s c) w) := by
  have hx := xor_b s c
  have hk := conv_w c
  obtain ⟨x, hxx⟩ : ∃ x : BitVec 32, s ^^^ byteW c = x := ⟨_, rfl⟩
  rw [hxx] at hx
  have hcell := hb.cell 0 rfl
  have hfree := hb.free 0
  have hb1 := hb.set (u32V x)
  have c1 := hb1.cell 0 rfl
  have f1 := hb1.free 0
  have hE1 : Env (w.setCell ⟨g, 0, none⟩ (u32V x)) := hE.grown (grown_set (World.grownBy.refl _ _) _) hg
  have H1 := Lib.hid (step_any x _ hE1)
  have H2 := Lib.hid (step_any (stps 4 x) _ hE1)
  rw [stps_eight] at H2
  have hr : crcB s c = stps 8 x := by unfold crcB; rw [hxx]
  have HR := Lib.hid hr
  have HB := Lib.hid hb1
  have hgr : w.grownBy ((w.setCell ⟨g, 0, none⟩ (u32V x)).setCell ⟨g, 0, none⟩ (u32V (stps 8 x))) (some g) := (grown_set (World.grownBy.refl _ _) _).trans (grown_set (World.grownBy.refl _ _) _)
  have HG := Lib.hid hgr
  clear hE hE1 hb hb1 hg hxx hr hgr
  unfold u32V at *
  go_enter Tryz.func165, Tryz.ntmps165
  go_wp2_with fail
  refine H1.out.mono ?_; rintro e w1 ⟨rfl, rfl⟩
  go_wp2_with fail
  refine H2.out.mono ?_; rintro e w1 ⟨rfl, rfl⟩
  go_wp2_with fail
  go_end0
  exact ⟨rfl, by rw [HR.out]; exact HB.out.set _, HG.out⟩
theorem idx_b (p : Option Addr) (b o n cap k : Nat) (hp : p = some ⟨b, o, none⟩) (hk : k < n) (W : World) : (Instr.indexAt 23 (.slice p n cap) (.int .i64 (k : Int))).run Tryz.prog W = .ok (.pointer (some ⟨b, o + k, none⟩)) W := by subst hp; go_simp
theorem bs_at {w : World} {v : Value} {L : List UInt8} (h : Bs w v L) {i : Nat} (hi : i < L.length) : ∃ p cap b o, v = .slice p L.length cap ∧ p = some ⟨b, o, none⟩ ∧ b < w.heap.size ∧ w.cell? ⟨b, o + i, none⟩ = some (byteV (L.getD i 0)) := by
  rcases h with ⟨_, rfl⟩ | ⟨a, cap, rfl, h2, h3⟩
  · simp at hi
  · obtain ⟨b, o, rfl, hb, hc⟩ := h3 (by rintro rfl; simp at hi)
    exact ⟨_, cap, b, o, rfl, rfl, hb, hc i hi⟩
theorem crcL_snoc (s : BitVec 32) (L : List UInt8) {k : Nat} (hk : k < L.length) : crcB (crcL s (L.take k)) (L.getD k 0) = crcL s (L.take (k + 1)) := by
  rw [List.take_add_one, List.getElem?_eq_getElem hk, crcL_append, List.getD_eq_getElem?_getD, List.getElem?_eq_getElem hk]
  rfl
/-- Bytes whose lengths the program's numbers bear. -/
def maxB : Nat := 281474976710656
set_option maxHeartbeats 2000000 in
theorem each_any (v : Value) (L : List UInt8) (g : Nat) (s : BitVec 32) (w0 w : World) (hE : Env w) (hB : Bs w0 v L) (hl : L.length ≤ maxB) (hw : Below w0.heap.size w0 w) (hg : w0.heap.size ≤ g) (hb : Blk w g 104 #[u32V s]) (hne : 4 ≠ g) :
    Calls Tryz.prog 164 #[v, .func (.func 165) #[] #[.pointer (some ⟨g, 0, none⟩)]] w (Takes g (crcL s L) w) := by
  obtain ⟨p, cap, rfl⟩ := hB.form
  have HB := Lib.hid hB
  have HE := Lib.hid hE
  have HW := Lib.hid hw
  have HG := Lib.hid hg
  have HK := Lib.hid hb
  have HN := Lib.hid hne
  have hM : L.length ≤ 281474976710656 := hl
  clear hB hE hw hg hb hne hl
  go_enter Tryz.func164, Tryz.ntmps164
  go_wp2
  go_loopw [8] (fun i wr => ∃ (k : Nat), k ≤ L.length ∧ i = .int .i64 k ∧ Hid (Blk wr g 104 #[u32V (crcL s (L.take k))]) ∧ Hid (w.grownBy wr (some g))) (fun i _ => L.length - (intOf i).toNat)
  case atStart => exact ⟨0, Nat.zero_le _, rfl, HK, Lib.hid (World.grownBy.refl _ _)⟩
  case round =>
    obtain ⟨k, hk, rfl, HK1, HG1⟩ := hrel
    by_cases hkl : k < L.length
    · have hbr : Below w0.heap.size w0 wr := (only_grown HG1.out).below HW.out (by intro j hj; rw [List.mem_singleton.1 hj]; exact HG.out) HW.out.size
      obtain ⟨p1, cap1, b, o, hv, hp, hbl, h4⟩ := bs_at (HB.out.below hbr) hkl
      simp only [Value.slice.injEq] at hv
      obtain ⟨rfl, -, rfl⟩ := hv
      have hidx := idx_b p b o L.length cap k hp hkl
      have HT := Lib.hid (take_one g (crcL s (L.take k)) (L.getD k 0) wr (HE.out.grown HG1.out HN.out) HK1.out HN.out)
      rw [crcL_snoc s L hkl] at HT
      obtain ⟨c, hc⟩ : ∃ c, L.getD k 0 = c := ⟨_, rfl⟩
      rw [hc] at h4 HT
      clear hp hbl hbr hc
      go_wp2_with fail
      refine HT.out.mono ?_; rintro e w1 ⟨rfl, k2, g2⟩
      have HK2 := Lib.hid k2
      have HG2 := Lib.hid (HG1.out.trans g2)
      clear k2 g2
      go_wp2_with fail
      go_roundw
      case rel => exact ⟨k + 1, by omega, by go_num, HK2, HG2⟩
      case measure => simp [intOf]; omega
    · have hke : k = L.length := by omega
      subst hke
      rw [List.take_length] at HK1
      go_wp2_with fail
      go_end0
      exact ⟨rfl, HK1.out, HG1.out⟩
end Go.Proofs.YtelocbohiddpgaaGreatDoor.Crc
set_option linter.unusedSimpArgs false
set_option linter.unusedVariables false
namespace Go.Proofs.YtelocbohiddpgaaGreatDoor.Crc
open Go Go.RowKit Gm
attribute [local go_sem ↓] Go.wp_at_zero Go.wp_at_succ

theorem not_w (s : BitVec 32) : bits .xor .u32 IntKind.u32.max (s.toNat : Int) = ((ones ^^^ s).toNat : Int) := by
  have := xor_w ones s
  rwa [show (ones.toNat : Int) = IntKind.u32.max from by decide] at this
set_option maxHeartbeats 1000000 in
theorem extend_any (sum : BitVec 32) (v : Value) (L : List UInt8) (w : World) (hE : Env w) (hB : Bs w v L) (hl : L.length ≤ maxB) : Calls Tryz.prog 137 #[u32V sum, v] w (Gives (u32V (extL sum L)) w) := by
  have h1 := not_w sum
  have h2 := not_w (crcL (ones ^^^ sum) L)
  have hb : Blk (w.alloc (.cells #[u32V (ones ^^^ sum)] 104)) w.heap.size 104 #[u32V (ones ^^^ sum)] := Blk.new w _ _
  have HC := Lib.hid (each_any v L w.heap.size (ones ^^^ sum) w _ (hE.alloc _) hB hl (below_one w _) (Nat.le_refl _) hb (by have := hE.lt; omega))
  have HX : Hid (extL sum L = ones ^^^ crcL (ones ^^^ sum) L) := Lib.hid rfl
  obtain ⟨x, hx⟩ : ∃ x, ones ^^^ sum = x := ⟨_, rfl⟩
  rw [hx] at h1 h2 HC HX
  obtain ⟨y, hy⟩ : ∃ y, crcL x L = y := ⟨_, rfl⟩
  rw [hy] at h2 HC HX
  obtain ⟨z, hz⟩ : ∃ z, ones ^^^ y = z := ⟨_, rfl⟩
  rw [hz] at h2 HX
  clear hx hy hz hE hB hb hl
  unfold u32V at *
  go_enter Tryz.func137, Tryz.ntmps137
  go_wp2_with fail
  refine HC.out.mono ?_; rintro e w1 ⟨rfl, k1, g1⟩
  have c1 := k1.cell 0 rfl
  have HB1 : Hid (Below w.heap.size w w1) := Lib.hid ((only_grown g1).below (below_one w _) (by intro j hj; rw [List.mem_singleton.1 hj]; omega) (by simp))
  clear g1 HC
  go_wp2_with fail
  go_ret
  exact ⟨by rw [HX.out]; rfl, HB1.out⟩
theorem sum_any (v : Value) (L : List UInt8) (w : World) (hE : Env w) (hB : Bs w v L) (hl : L.length ≤ maxB) : Calls Tryz.prog 105 #[v] w (Gives (u32V (sumL L)) w) := by
  have HC := Lib.hid (extend_any 0#32 v L w hE hB hl)
  have HX : Hid (extL 0#32 L = sumL L) := Lib.hid rfl
  rw [HX.out] at HC
  rw [show u32V 0#32 = .int .u32 0 from rfl] at HC
  go_enter Tryz.func105, Tryz.ntmps105
  go_wp2_with fail
  refine HC.out.mono ?_; rintro e w1 ⟨rfl, b1⟩
  go_wp2_with fail
  go_ret
  exact ⟨rfl, b1⟩

/-! ### The document's -/
theorem sub_w (s : BitVec 32) : IntKind.u32.wrap (4294967295 - (s.toNat : Int)) = ((ones ^^^ s).toNat : Int) := by
  have h := s.isLt
  have e : (ones ^^^ s).toNat = 4294967295 - s.toNat := by
    rw [show (ones ^^^ s) = ~~~s from by rw [show ones = BitVec.allOnes 32 from by decide, BitVec.allOnes_xor], BitVec.toNat_not]
  rw [e, IntKind.wrap_u32']
  omega
theorem stp_odd {s : BitVec 32} (h : s.toNat % 2 = 1) : bits .xor .u32 ((s.toNat : Int) / 2) 2197175160 = ((stp s).toNat : Int) := by
  have hb : s.getLsbD 0 = true := by
    rw [BitVec.getLsbD, Nat.testBit_zero]; simpa using h
  have := xor_w (s >>> 1) poly
  rw [show ((s >>> 1).toNat : Int) = (s.toNat : Int) / 2 from by rw [BitVec.toNat_ushiftRight, Nat.shiftRight_eq_div_pow]; rfl] at this
  rw [show (poly.toNat : Int) = 2197175160 from by decide] at this
  rw [this]
  unfold stp; rw [hb]; rfl
theorem stp_evn {s : BitVec 32} (h : s.toNat % 2 = 0) : (s.toNat : Int) / 2 = ((stp s).toNat : Int) := by
  have hb : s.getLsbD 0 = false := by
    rw [BitVec.getLsbD, Nat.testBit_zero]; simp [h]
  rw [stp_even hb, BitVec.toNat_ushiftRight, Nat.shiftRight_eq_div_pow]; rfl
theorem stps_snoc (n : Nat) (s : BitVec 32) : stp (stps n s) = stps (n + 1) s := (stps_add n 1 s).symm
set_option maxHeartbeats 2000000 in
theorem rextend_any (sum : BitVec 32) (v : Value) (L : List UInt8) (w : World) (hB : Bs w v L) (hl : L.length ≤ maxB) : Calls Tryz.prog 116 #[u32V sum, v] w (Quits (u32V (extL sum L)) w) := by
  obtain ⟨p, cap, rfl⟩ := hB.form
  have HB := Lib.hid hB
  have h1 := sub_w sum
  have HX : Hid (extL sum L = ones ^^^ crcL (ones ^^^ sum) L) := Lib.hid rfl
  obtain ⟨x, hx⟩ : ∃ x, ones ^^^ sum = x := ⟨_, rfl⟩
  rw [hx] at h1 HX
  have hM : L.length ≤ 281474976710656 := hl
  clear hx hB hl
  unfold u32V at *
  go_enter Tryz.func116, Tryz.ntmps116
  go_wp2_with fail
  go_loop [5, 6] (fun r i => ∃ (k : Nat), k ≤ L.length ∧ i = .int .i64 k ∧ r = .int .u32 ((crcL x (L.take k)).toNat : Int)) (fun _ i => L.length - (intOf i).toNat)
  case atStart => exact ⟨0, Nat.zero_le _, rfl, rfl⟩
  case round =>
    obtain ⟨k, hk, rfl, rfl⟩ := hrel
    by_cases hkl : k < L.length
    · obtain ⟨p1, cap1, b, o, hv, hp, hbl, h4⟩ := bs_at HB.out hkl
      simp only [Value.slice.injEq] at hv
      obtain ⟨rfl, -, rfl⟩ := hv
      have hidx := idx_b p b o L.length cap k hp hkl
      have HS : Hid (stps 8 (crcL x (L.take k) ^^^ byteW (L.getD k 0)) = crcL x (L.take (k + 1))) := Lib.hid (crcL_snoc x L hkl)
      have hxb := xor_b (crcL x (L.take k)) (L.getD k 0)
      obtain ⟨c, hc⟩ : ∃ c, L.getD k 0 = c := ⟨_, rfl⟩
      rw [hc] at h4 hxb HS
      have hcv := conv_w c
      obtain ⟨y, hy⟩ : ∃ y, crcL x (L.take k) ^^^ byteW c = y := ⟨_, rfl⟩
      rw [hy] at hxb HS
      obtain ⟨q, hq⟩ : ∃ q, (crcL x (L.take k)).toNat = q := ⟨_, rfl⟩
      rw [hq] at hxb
      rw [hq]
      have HL : Hid (k < L.length) := Lib.hid hkl
      clear hp hbl hc hy hq
      go_wp2_with fail
      go_loop [5, 7] (fun r i => ∃ (j : Nat), j ≤ 8 ∧ i = .int .i64 j ∧ r = .int .u32 ((stps j y).toNat : Int)) (fun _ i => 8 - (intOf i).toNat)
      case atStart => exact ⟨0, by omega, rfl, rfl⟩
      case round =>
        obtain ⟨j, hj, rfl, rfl⟩ := hrel
        by_cases hj8 : j < 8
        · have HT := Lib.hid (stps_snoc j y)
          obtain ⟨z, hz⟩ : ∃ z, stps j y = z := ⟨_, rfl⟩
          rw [hz] at HT ⊢
          clear hz
          rcases Nat.mod_two_eq_zero_or_one z.toNat with h0 | h0
          · have he := stp_evn h0
            obtain ⟨r, hr⟩ : ∃ r, (stp z).toNat = r := ⟨_, rfl⟩
            rw [hr] at he
            have HR := Lib.hid hr
            clear hr
            obtain ⟨m, hm⟩ : ∃ m, z.toNat = m := ⟨_, rfl⟩
            rw [hm] at he h0 ⊢
            have hme : (m : Int) % 2 = 0 := by omega
            go_wp2_with fail
            go_round
            case rel => exact ⟨j + 1, by omega, by go_num, by rw [← HT.out, HR.out]⟩
            case measure => simp [intOf]; omega
          · have he := stp_odd h0
            obtain ⟨r, hr⟩ : ∃ r, (stp z).toNat = r := ⟨_, rfl⟩
            rw [hr] at he
            have HR := Lib.hid hr
            clear hr
            obtain ⟨m, hm⟩ : ∃ m, z.toNat = m := ⟨_, rfl⟩
            rw [hm] at he h0 ⊢
            have hme : (m : Int) % 2 = 1 := by omega
            go_wp2_with fail
            go_round
            case rel => exact ⟨j + 1, by omega, by go_num, by rw [← HT.out, HR.out]⟩
            case measure => simp [intOf]; omega
        · obtain rfl : j = 8 := by omega
          go_wp2_with fail
          go_round
          case rel => exact ⟨k + 1, by have := HL.out; omega, by go_num, by rw [← HS.out]⟩
          case measure => have := HL.out; simp [intOf]; omega
    · have hke : k = L.length := by omega
      subst hke
      rw [List.take_length]
      have h2 := sub_w (crcL x L)
      have HX2 := HX.out
      obtain ⟨y, hy⟩ : ∃ y, crcL x L = y := ⟨_, rfl⟩
      rw [hy] at h2 HX2 ⊢
      obtain ⟨z, hz⟩ : ∃ z, ones ^^^ y = z := ⟨_, rfl⟩
      rw [hz] at h2 HX2
      have HY := Lib.hid HX2
      clear hy hz HX HX2
      go_wp2_with fail
      go_ret
      exact ⟨by rw [HY.out]; rfl, rfl⟩
theorem rsum_any (v : Value) (L : List UInt8) (w : World) (hB : Bs w v L) (hl : L.length ≤ maxB) : Calls Tryz.prog 91 #[v] w (Quits (u32V (sumL L)) w) := by
  have HC := Lib.hid (rextend_any 0#32 v L w hB hl)
  have HX : Hid (extL 0#32 L = sumL L) := Lib.hid rfl
  rw [HX.out] at HC
  rw [show u32V 0#32 = .int .u32 0 from rfl] at HC
  go_enter Tryz.func91, Tryz.ntmps91
  go_wp2_with fail
  refine HC.out.mono ?_; rintro e w1 ⟨rfl, rfl⟩
  go_wp2_with fail
  go_ret
  exact ⟨rfl, rfl⟩
end Go.Proofs.YtelocbohiddpgaaGreatDoor.Crc
