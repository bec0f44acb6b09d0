/- The contract of the statements' first question: what the document's examples say. -/
import Derived.Test.YtapgjplcelbncaaWy
set_option linter.unusedSimpArgs false
set_option linter.unusedVariables false
namespace Go.Proofs.Ytapgjplcelbncaa
open Go.RowKit Gm
attribute [local go_sem ↓] Go.wp_at_zero Go.wp_at_succ

theorem RdW.below {w w' : World} {F : List Nat} {r : Value} {L : List UInt8} (h : RdW w F r L) (b : Below w.heap.size w w') : RdW w' F r L := h.frame b.size fun k hk => b.block k (h.lt k hk)

/-- A reader that lies from B on; below B nothing has changed since w0. -/
def Held (B : Nat) (w0 W : World) (r : Value) (L : List UInt8) : Prop := ∃ F, RdW W F r L ∧ (∀ k ∈ F, B ≤ k) ∧ Below B w0 W ∧ B ≤ W.heap.size
theorem Held.bel {B : Nat} {w0 W : World} {r : Value} {L : List UInt8} (h : Held B w0 W r L) : Below B w0 W := by obtain ⟨_, _, _, h, _⟩ := h; exact h
theorem Held.len {B : Nat} {w0 W : World} {r : Value} {L : List UInt8} (h : Held B w0 W r L) : L.length ≤ 140737488355328 := by obtain ⟨_, h, _⟩ := h; exact h.len
theorem Held.later {B : Nat} {w0 W W' : World} {r : Value} {L : List UInt8} (h : Held B w0 W r L) (b : Below W.heap.size W W') : Held B w0 W' r L := by
  obtain ⟨F, h1, h2, h3, h4⟩ := h
  exact ⟨F, h1.below b, h2, h3.trans (b.mono h4), Nat.le_trans h4 b.size⟩
theorem Held.step {B : Nat} {w0 W W' : World} {r : Value} {L' : List UInt8} {F F' : List Nat} (h2 : ∀ k ∈ F, B ≤ k) (h3 : Below B w0 W) (h4 : B ≤ W.heap.size) (g1 : RdW W' F' r L') (g2 : ∀ k ∈ F', k ∈ F ∨ W.heap.size ≤ k) (g3 : Only F W W') : Held B w0 W' r L' :=
  ⟨F', g1, fun k hk => (g2 k hk).elim (h2 k) (fun h => Nat.le_trans h4 h), g3.below h3 h2 h4, Nat.le_trans h4 g3.size⟩
theorem held_new (v : Value) (L : List UInt8) (w : World) (hB : Bs w v L) (hL : L.length ≤ 140737488355328) : Calls Try.prog 17 #[v] w (fun e w' => ∃ r, e = .returned r ∧ Held w.heap.size w w' r L) :=
  (wnew_any v L w hB hL).mono fun e w' ⟨r, F, he, h1, h2, h3⟩ => ⟨r, he, F, h1, h2, h3, h3.size⟩
theorem held_num {B : Nat} {w0 W : World} {r : Value} {L : List UInt8} (h : Held B w0 W r L) (most : Nat) (hm : most < 18446744073709551616) : Calls Try.prog 18 #[r, .int .u64 most] W (fun e W' => e = .returned (.tuple #[.int .u64 (numV L most : Nat), .int .i64 (numE L most : Nat)]) ∧ Held B w0 W' r (numR L most)) := by
  obtain ⟨F, h1, h2, h3, h4⟩ := h
  exact (wrnum_any F r L most hm W h1).mono fun e W' ⟨he, F', g1, g2, g3⟩ => ⟨he, Held.step h2 h3 h4 g1 g2 g3⟩
theorem held_int {B : Nat} {w0 W : World} {r : Value} {L : List UInt8} (h : Held B w0 W r L) : Calls Try.prog 20 #[r] W (fun e W' => e = .returned (.tuple #[.int .i64 (intV L), .int .i64 (intE L : Nat)]) ∧ Held B w0 W' r (intR L)) := by
  obtain ⟨F, h1, h2, h3, h4⟩ := h
  exact (wrint_any F r L W h1).mono fun e W' ⟨he, F', g1, g2, g3⟩ => ⟨he, Held.step h2 h3 h4 g1 g2 g3⟩
theorem held_bytes {B : Nat} {w0 W : World} {r : Value} {L : List UInt8} (h : Held B w0 W r L) (most : Int) (a1 : -9223372036854775808 ≤ most) (a2 : most ≤ 9223372036854775807) : Calls Try.prog 22 #[r, .int .i64 most] W (fun e W' => ∃ u, e = .returned (.tuple #[u, .int .i64 (bytE L most : Nat)]) ∧ OwnB W' W.heap.size u (bytV L most) ∧ Held B w0 W' r (bytR L most)) := by
  obtain ⟨F, h1, h2, h3, h4⟩ := h
  exact (wrbytes_any F r L most a1 a2 W h1).mono fun e W' ⟨u, he, hO, F', g1, g2, _, g3⟩ => ⟨u, he, hO, Held.step h2 h3 h4 g1 g2 g3⟩
theorem held_left {B : Nat} {w0 W : World} {r : Value} {L : List UInt8} (h : Held B w0 W r L) : Calls Try.prog 24 #[r] W (fun e W' => e = .returned (.int .i64 (L.length : Nat)) ∧ Held B w0 W' r L ∧ Below W.heap.size W W') := by
  obtain ⟨F, h1, h2, h3, h4⟩ := h
  exact (wleft_any F r L W h1).mono fun e W' ⟨he, b⟩ => ⟨he, Held.later ⟨F, h1, h2, h3, h4⟩ b, b⟩
theorem held_end {B : Nat} {w0 W : World} {r : Value} {L : List UInt8} (h : Held B w0 W r L) : Calls Try.prog 25 #[r] W (fun e W' => e = .returned (.int .i64 (if L = [] then 0 else 3)) ∧ Held B w0 W' r L ∧ Below W.heap.size W W') := by
  obtain ⟨F, h1, h2, h3, h4⟩ := h
  exact (wend_any F r L W h1).mono fun e W' ⟨he, b⟩ => ⟨he, Held.later ⟨F, h1, h2, h3, h4⟩ b, b⟩

set_option maxHeartbeats 4000000 in
set_option maxRecDepth 100000 in
theorem awake_any (w : World) : Calls Try.prog 16 #[] w (Gives (.bool true) w) := by
  have hcs := conv_const
  go_enter Try.func16, Try.ntmps16
  go_wp2_with fail
  have h1 := wnum_any (.slice none 0 0) [] 300 (by decide) w (Bs.nil w) (by simp)
  rw [List.nil_append, form_300] at h1
  refine h1.mono ?_; rintro e w1 ⟨v1, rfl, hO1, b1⟩
  obtain ⟨p1, cap1, rfl⟩ : ∃ p cap, v1 = .slice p 2 cap := hO1.form
  have HO1 := Lib.hid hO1
  have HB1 := Lib.hid b1
  clear h1 hO1 b1
  go_wp2_with fail
  have h2 := wint_any (.slice p1 2 cap1) [172, 2] (-65) (by decide) (by decide) w1 HO1.out.bs (by simp)
  rw [form_129] at h2
  refine h2.mono ?_; rintro e w2 ⟨v2, rfl, hO2, b2⟩
  obtain ⟨p2, cap2, rfl⟩ : ∃ p cap, v2 = .slice p 4 cap := hO2.form
  have HO2 := Lib.hid hO2
  have HB2 := Lib.hid (then_ HB1.out b2)
  clear h2 hO2 b2 HO1 HB1
  go_wp2_with fail
  have A3 := below_one w2 (.cells #[.int .u8 97, .int .u8 98] 5 (2, 3))
  have h3 := wbytes_any (.slice p2 4 cap2) [172, 2, 129, 1] (.slice (some ⟨w2.heap.size, 0, none⟩) 2 2) [97, 98] (w2.alloc (.cells #[.int .u8 97, .int .u8 98] 5 (2, 3))) (HO2.out.bs.below A3) (bs_const w2 [97, 98] _ 2 _ rfl rfl) (by simp)
  rw [show ([97, 98] : List UInt8).length = 2 from rfl, form_2] at h3
  have HB3 := Lib.hid (then_ HB2.out A3)
  refine h3.mono ?_; rintro e w4 ⟨v4, rfl, hO4, b4⟩
  obtain ⟨p4, cap4, rfl⟩ : ∃ p cap, v4 = .slice p 7 cap := hO4.form
  have HO4 := Lib.hid hO4
  have HB4 := Lib.hid (then_ HB3.out b4)
  clear A3 h3 hO4 b4 HO2 HB2 HB3
  go_wp2_with fail
  refine (held_new (.slice p4 7 cap4) wkB w4 HO4.out.bs (by decide)).mono ?_; rintro e w5 ⟨r, rfl, hR⟩
  have HR5 := Lib.hid hR
  clear hR
  go_wp2_with fail
  have h6 := held_num HR5.out 300 (by decide)
  rw [show numV wkB 300 = 300 from rfl, show numE wkB 300 = 0 from rfl, show numR wkB 300 = [129, 1, 2, 97, 98] from rfl] at h6
  refine h6.mono ?_; rintro e w6 ⟨rfl, hR⟩
  have HR6 := Lib.hid hR
  clear hR h6 HR5
  go_wp2_with fail
  have h7 := held_int HR6.out
  rw [show intV [129, 1, 2, 97, 98] = -65 from rfl, show intE [129, 1, 2, 97, 98] = 0 from rfl, show intR [129, 1, 2, 97, 98] = [2, 97, 98] from rfl] at h7
  refine h7.mono ?_; rintro e w7 ⟨rfl, hR⟩
  have HR7 := Lib.hid hR
  clear hR h7 HR6
  go_wp2_with fail
  have h8 := held_bytes HR7.out 2 (by decide) (by decide)
  rw [show bytV [2, 97, 98] 2 = [97, 98] from rfl, show bytE [2, 97, 98] 2 = 0 from rfl, show bytR [2, 97, 98] 2 = [] from rfl] at h8
  refine h8.mono ?_; rintro e w8 ⟨u8, rfl, hU, hR⟩
  obtain ⟨p8, cap8, rfl⟩ : ∃ p cap, u8 = .slice p 2 cap := hU.form
  have HR8 := Lib.hid hR
  have HU8 := Lib.hid hU
  clear hR hU h8 HR7
  go_wp2_with fail
  have A9 := below_one w8 (.cells #[.int .u8 128, .int .u8 0] 5)
  refine (held_new (.slice (some ⟨w8.heap.size, 0, none⟩) 2 2) [128, 0] _ (bs_lit w8 [128, 0] _ 2 rfl rfl (by decide)) (by decide)).mono ?_; rintro e w9 ⟨r9, rfl, hR⟩
  have HR9 := Lib.hid hR
  have HA9 := Lib.hid A9
  clear hR A9
  go_wp2_with fail
  have h10 := held_num HR9.out 9 (by decide)
  rw [show numV [128, 0] 9 = 0 from rfl, show numE [128, 0] 9 = 5 from rfl] at h10
  refine h10.mono ?_; rintro e w10 ⟨rfl, hR⟩
  have HB10 := Lib.hid (then_ HA9.out hR.bel)
  have HR10 := Lib.hid (HR8.out.later HB10.out)
  have HU10 := Lib.hid (HU8.out.bs.below HB10.out)
  clear hR h10 HR9 HA9 HR8 HU8
  have HO10 := Lib.hid (HO4.out.below HR10.out.bel)
  have HB := Lib.hid (then_ HB4.out HR10.out.bel)
  go_wp2_with fail
  have A11 := below_one w10 (.cells #[.int .u8 172, .int .u8 2, .int .u8 129, .int .u8 1, .int .u8 2, .int .u8 97, .int .u8 98] 5)
  have HR11 := Lib.hid (HR10.out.later A11)
  have HB11 := Lib.hid (then_ HB.out A11)
  have hcz := conv_bs (HU10.out.below A11) 9 Try.underlying9
  have hq := equal_any (.slice p4 7 cap4) (.slice (some ⟨w10.heap.size, 0, none⟩) 7 7) wkB wkB _ (HO10.out.bs.below A11) (bs_lit w10 wkB _ 7 rfl rfl (by decide))
  rw [show (wkB == wkB) = true from rfl] at hq
  refine hq.mono ?_; rintro e w11 ⟨rfl, rfl⟩
  clear hq A11 HR10 HU10 HO10 HB HO4 HB10
  go_wp2_with fail
  have h12 := held_end HR11.out
  rw [if_pos rfl] at h12
  refine h12.mono ?_; rintro e w12 ⟨rfl, hR, _⟩
  have HEnd := Lib.hid (then_ HB4.out hR.bel)
  clear hR h12 HR11 HB11 hcz
  go_wp2_with fail
  go_ret
  exact ⟨rfl, HEnd.out⟩
end Go.Proofs.Ytapgjplcelbncaa
