/- The calls of package crc that make sums: the closure of Extend, each, Extend, Sum. -/
import Derived.Test.YtelocbohiddpgaaDoorYc
set_option linter.unusedSimpArgs false
set_option linter.unusedVariables false
namespace Go.Proofs.YtelocbohiddpgaaDoor.Crc
open Go Go.RowKit Gm
attribute [local go_sem ↓] Go.wp_at_zero Go.wp_at_succ

/-- What the closure of Extend does: one byte goes into the register. -/
def Takes (g : Nat) (s : BitVec 32) (w : World) (e : Ending) (w' : World) : Prop := e = .returned (.tuple #[]) ∧ Blk w' g 88 #[u32V s] ∧ w.grownBy w' (some g)
theorem conv_w (c : UInt8) : IntKind.u32.wrap (c.toNat : Int) = (c.toNat : Int) := by
  rw [IntKind.wrap_u32']
  have := c.toNat_lt
  omega
theorem xor_b (s : BitVec 32) (c : UInt8) : bits .xor .u32 (s.toNat : Int) (c.toNat : Int) = ((s ^^^ byteW c).toNat : Int) := by
  have := xor_w s (byteW c)
  rwa [byteW_toNat] at this
set_option maxHeartbeats 1000000 in
theorem take_one (g : Nat) (s : BitVec 32) (c : UInt8) (w : World) (hE : Env w) (hb : Blk w g 88 #[u32V s]) (hg : 7 ≠ g) :
    Calls Tryd.prog 101 #[byteV c, .pointer (some ⟨g, 0, none⟩)] w (Takes g (crcB s c) w) := by
  have hx := xor_b s c
  have hk := conv_w c
  obtain ⟨x, hxx⟩ : ∃ x : BitVec 32, s ^^^ byteW c = x := ⟨_, rfl⟩
  rw [hxx] at hx
  have hcell := hb.cell 0 rfl
  have hfree := hb.free 0
  have hb1 := hb.set (u32V x)
  have c1 := hb1.cell 0 rfl
  have f1 := hb1.free 0
  have hE1 : Env (w.setCell ⟨g, 0, none⟩ (u32V x)) := hE.grown (grown_set (World.grownBy.refl _ _) _) hg
  have H1 := Lib.hid (step_any x _ hE1)
  have H2 := Lib.hid (step_any (stps 4 x) _ hE1)
  rw [stps_eight] at H2
  have hr : crcB s c = stps 8 x := by unfold crcB; rw [hxx]
  have HR := Lib.hid hr
  have HB := Lib.hid hb1
  have hgr : w.grownBy ((w.setCell ⟨g, 0, none⟩ (u32V x)).setCell ⟨g, 0, none⟩ (u32V (stps 8 x))) (some g) := (grown_set (World.grownBy.refl _ _) _).trans (grown_set (World.grownBy.refl _ _) _)
  have HG := Lib.hid hgr
  clear hE hE1 hb hb1 hg hxx hr hgr
  unfold u32V at *
  go_enter Tryd.func101, Tryd.ntmps101
  go_wp2_with fail
  refine H1.out.mono ?_; rintro e w1 ⟨rfl, rfl⟩
  go_wp2_with fail
  refine H2.out.mono ?_; rintro e w1 ⟨rfl, rfl⟩
  go_wp2_with fail
  go_end0
  exact ⟨rfl, by rw [HR.out]; exact HB.out.set _, HG.out⟩
theorem idx_b (p : Option Addr) (b o n cap k : Nat) (hp : p = some ⟨b, o, none⟩) (hk : k < n) (W : World) : (Instr.indexAt 34 (.slice p n cap) (.int .i64 (k : Int))).run Tryd.prog W = .ok (.pointer (some ⟨b, o + k, none⟩)) W := by subst hp; go_simp
theorem bs_at {w : World} {v : Value} {L : List UInt8} (h : Bs w v L) {i : Nat} (hi : i < L.length) : ∃ p cap b o, v = .slice p L.length cap ∧ p = some ⟨b, o, none⟩ ∧ b < w.heap.size ∧ w.cell? ⟨b, o + i, none⟩ = some (byteV (L.getD i 0)) := by
  rcases h with ⟨_, rfl⟩ | ⟨a, cap, rfl, h2, h3⟩
  · simp at hi
  · obtain ⟨b, o, rfl, hb, hc⟩ := h3 (by rintro rfl; simp at hi)
    exact ⟨_, cap, b, o, rfl, rfl, hb, hc i hi⟩
theorem crcL_snoc (s : BitVec 32) (L : List UInt8) {k : Nat} (hk : k < L.length) : crcB (crcL s (L.take k)) (L.getD k 0) = crcL s (L.take (k + 1)) := by
  rw [List.take_add_one, List.getElem?_eq_getElem hk, crcL_append, List.getD_eq_getElem?_getD, List.getElem?_eq_getElem hk]
  rfl
/-- Bytes whose lengths the program's numbers bear. -/
def maxB : Nat := 281474976710656
set_option maxHeartbeats 2000000 in
theorem each_any (v : Value) (L : List UInt8) (g : Nat) (s : BitVec 32) (w0 w : World) (hE : Env w) (hB : Bs w0 v L) (hl : L.length ≤ maxB) (hw : Below w0.heap.size w0 w) (hg : w0.heap.size ≤ g) (hb : Blk w g 88 #[u32V s]) (hne : 7 ≠ g) :
    Calls Tryd.prog 100 #[v, .func (.func 101) #[] #[.pointer (some ⟨g, 0, none⟩)]] w (Takes g (crcL s L) w) := by
  obtain ⟨p, cap, rfl⟩ := hB.form
  have HB := Lib.hid hB
  have HE := Lib.hid hE
  have HW := Lib.hid hw
  have HG := Lib.hid hg
  have HK := Lib.hid hb
  have HN := Lib.hid hne
  have hM : L.length ≤ 281474976710656 := hl
  clear hB hE hw hg hb hne hl
  go_enter Tryd.func100, Tryd.ntmps100
  go_wp2
  go_loopw [8] (fun i wr => ∃ (k : Nat), k ≤ L.length ∧ i = .int .i64 k ∧ Hid (Blk wr g 88 #[u32V (crcL s (L.take k))]) ∧ Hid (w.grownBy wr (some g))) (fun i _ => L.length - (intOf i).toNat)
  case atStart => exact ⟨0, Nat.zero_le _, rfl, HK, Lib.hid (World.grownBy.refl _ _)⟩
  case round =>
    obtain ⟨k, hk, rfl, HK1, HG1⟩ := hrel
    by_cases hkl : k < L.length
    · have hbr : Below w0.heap.size w0 wr := (only_grown HG1.out).below HW.out (by intro j hj; rw [List.mem_singleton.1 hj]; exact HG.out) HW.out.size
      obtain ⟨p1, cap1, b, o, hv, hp, hbl, h4⟩ := bs_at (HB.out.below hbr) hkl
      simp only [Value.slice.injEq] at hv
      obtain ⟨rfl, -, rfl⟩ := hv
      have hidx := idx_b p b o L.length cap k hp hkl
      have HT := Lib.hid (take_one g (crcL s (L.take k)) (L.getD k 0) wr (HE.out.grown HG1.out HN.out) HK1.out HN.out)
      rw [crcL_snoc s L hkl] at HT
      obtain ⟨c, hc⟩ : ∃ c, L.getD k 0 = c := ⟨_, rfl⟩
      rw [hc] at h4 HT
      clear hp hbl hbr hc
      go_wp2_with fail
      refine HT.out.mono ?_; rintro e w1 ⟨rfl, k2, g2⟩
      have HK2 := Lib.hid k2
      have HG2 := Lib.hid (HG1.out.trans g2)
      clear k2 g2
      go_wp2_with fail
      go_roundw
      case rel => exact ⟨k + 1, by omega, by go_num, HK2, HG2⟩
      case measure => simp [intOf]; omega
    · have hke : k = L.length := by omega
      subst hke
      rw [List.take_length] at HK1
      go_wp2_with fail
      go_end0
      exact ⟨rfl, HK1.out, HG1.out⟩
end Go.Proofs.YtelocbohiddpgaaDoor.Crc
