/- The contracts of WireBack's two helpers: lay, reads. -/
import Derived.Test.YtapgjplcelbncaaWb
import Derived.Test.YtapgjplcelbncaaWq
set_option linter.unusedSimpArgs false
set_option linter.unusedVariables false
namespace Go.Proofs.Ytapgjplcelbncaa
open Go.RowKit Gm
attribute [local go_sem ↓] Go.wp_at_zero Go.wp_at_succ

theorem MadeB.later {L : List UInt8} {w w1 : World} {e : Ending} {w' : World} (b : Below w.heap.size w w1) (h : MadeB L w1 e w') : MadeB L w e w' := by
  obtain ⟨v, h1, h2, h3⟩ := h
  exact ⟨v, h1, h2.base b.size, then_ b h3⟩
set_option maxHeartbeats 4000000 in
set_option maxRecDepth 100000 in
theorem lay_any (vb : Value) (L : List UInt8) (x : ThingV) (v : Value) (w : World) (hB : Bs w vb L) (hx : Bs w v x.b) (hn : x.n < 18446744073709551616) (hL : L.length + 10 + x.b.length ≤ 140737488355328) : Calls Try.prog 26 #[vb, .agg #[.int .i64 x.what, .int .u64 (x.n : Nat), v]] w (MadeB (L ++ formT x) w) := by
  obtain ⟨wh, n, b⟩ := x
  simp only at hx hn hL
  have A1 := below_one w (.cells #[.int .i64 wh, .int .u64 n, v] 59)
  have HB := Lib.hid (hB.below A1)
  have HX := Lib.hid (hx.below A1)
  have HA := Lib.hid A1
  obtain ⟨p, cap, rfl⟩ := hB.form
  obtain ⟨q, capq, rfl⟩ := hx.form
  clear hB hx A1
  unfold formT
  simp only
  by_cases h0 : wh = 0
  · subst h0
    rw [if_pos rfl]
    obtain ⟨M, hM⟩ : ∃ M, L ++ formN n = M := ⟨_, rfl⟩
    have c := fun W (hW : Bs W (.slice p L.length cap) L) (hX : Bs W (.slice q b.length capq) b) => wnum_any _ L n hn W hW (by omega)
    rw [hM] at c ⊢
    clear hM
    have C := Lib.hid c
    clear c
    go_enter Try.func26, Try.ntmps26
    go_wp2_with fail
    refine (C.out _ HB.out HX.out).mono ?_; rintro e w2 h2
    obtain ⟨u, rfl, hu, b2⟩ := MadeB.later HA.out h2
    obtain ⟨pu, capu, rfl⟩ := hu.form
    have HU := Lib.hid hu
    have HB2 := Lib.hid b2
    clear h2 hu b2
    go_wp2_with fail
    go_ret
    exact ⟨_, rfl, HU.out, HB2.out⟩
  · rw [if_neg h0]
    by_cases h1 : wh = 1
    · subst h1
      have hw := wrap64_fits (n : Int)
      rw [if_pos rfl]
      obtain ⟨M, hM⟩ : ∃ M, L ++ formN (foldI (wrap64 (n : Int))) = M := ⟨_, rfl⟩
      have c := fun W (hW : Bs W (.slice p L.length cap) L) (hX : Bs W (.slice q b.length capq) b) => wint_any _ L (wrap64 (n : Int)) hw.1 hw.2 W hW (by omega)
      rw [hM] at c ⊢
      clear hM
      clear hw
      have C := Lib.hid c
      clear c
      go_enter Try.func26, Try.ntmps26
      go_wp2_with fail
      refine (C.out _ HB.out HX.out).mono ?_; rintro e w2 h2
      obtain ⟨u, rfl, hu, b2⟩ := MadeB.later HA.out h2
      obtain ⟨pu, capu, rfl⟩ := hu.form
      have HU := Lib.hid hu
      have HB2 := Lib.hid b2
      clear h2 hu b2
      go_wp2_with fail
      go_ret
      exact ⟨_, rfl, HU.out, HB2.out⟩
    · rw [if_neg h1, ← List.append_assoc]
      obtain ⟨M, hM⟩ : ∃ M, L ++ formN b.length ++ b = M := ⟨_, rfl⟩
      have c := fun W (hW : Bs W (.slice p L.length cap) L) (hX : Bs W (.slice q b.length capq) b) => wbytes_any _ L _ b W hW hX (by omega)
      rw [hM] at c ⊢
      clear hM
      have C := Lib.hid c
      clear c
      go_enter Try.func26, Try.ntmps26
      go_wp2_with fail
      refine (C.out _ HB.out HX.out).mono ?_; rintro e w2 h2
      obtain ⟨u, rfl, hu, b2⟩ := MadeB.later HA.out h2
      obtain ⟨pu, capu, rfl⟩ := hu.form
      have HU := Lib.hid hu
      have HB2 := Lib.hid b2
      clear h2 hu b2
      go_wp2_with fail
      go_ret
      exact ⟨_, rfl, HU.out, HB2.out⟩

/-- A reader held, and a block that is not its own. -/
def Held3 (B : Nat) (w0 W : World) (r : Value) (L : List UInt8) (g : Nat) (t : TypeId) (cs : Array Value) : Prop := ∃ F, RdW W F r L ∧ (∀ k ∈ F, B ≤ k) ∧ Below B w0 W ∧ B ≤ W.heap.size ∧ Blk W g t cs ∧ g ∉ F
section
variable {B g : Nat} {w0 W : World} {r : Value} {L : List UInt8} {t : TypeId} {cs : Array Value}
theorem Held3.held (h : Held3 B w0 W r L g t cs) : Held B w0 W r L := by
  obtain ⟨F, h1, h2, h3, h4, _⟩ := h
  exact ⟨F, h1, h2, h3, h4⟩
theorem Held3.blk (h : Held3 B w0 W r L g t cs) : Blk W g t cs := by obtain ⟨F, _, _, _, _, h, _⟩ := h; exact h
theorem Held.put (h : Held B w0 W r L) (t : TypeId) (cs : Array Value) : Held3 B w0 (W.alloc (.cells cs t)) r L W.heap.size t cs := by
  have h' := h.later (below_one W (.cells cs t))
  obtain ⟨F, h1, h2, h3, h4⟩ := h
  have a := below_one W (.cells cs t)
  exact ⟨F, h1.below a, h2, h3.trans (a.mono h4), Nat.le_trans h4 a.size, Blk.new _ _ _, fun hm => by have := h1.lt _ hm; omega⟩
theorem Held3.step {W' : World} {L' : List UInt8} {F F' : List Nat} (h2 : ∀ k ∈ F, B ≤ k) (h3 : Below B w0 W) (h4 : B ≤ W.heap.size) (h5 : Blk W g t cs) (h6 : g ∉ F) (g1 : RdW W' F' r L') (g2 : ∀ k ∈ F', k ∈ F ∨ W.heap.size ≤ k) (g3 : Only F W W') : Held3 B w0 W' r L' g t cs :=
  ⟨F', g1, fun k hk => (g2 k hk).elim (h2 k) (fun h => Nat.le_trans h4 h), g3.below h3 h2 h4, Nat.le_trans h4 g3.size, h5.only g3 h6, not_new h6 g2 h5.lt⟩
theorem held3_num (h : Held3 B w0 W r L g t cs) (most : Nat) (hm : most < 18446744073709551616) : Calls Try.prog 18 #[r, .int .u64 most] W (fun e W' => e = .returned (.tuple #[.int .u64 (numV L most : Nat), .int .i64 (numE L most : Nat)]) ∧ Held3 B w0 W' r (numR L most) g t cs) := by
  obtain ⟨F, h1, h2, h3, h4, h5, h6⟩ := h
  exact (wrnum_any F r L most hm W h1).mono fun e W' ⟨he, F', g1, g2, g3⟩ => ⟨he, Held3.step h2 h3 h4 h5 h6 g1 g2 g3⟩
theorem held3_int (h : Held3 B w0 W r L g t cs) : Calls Try.prog 20 #[r] W (fun e W' => e = .returned (.tuple #[.int .i64 (intV L), .int .i64 (intE L : Nat)]) ∧ Held3 B w0 W' r (intR L) g t cs) := by
  obtain ⟨F, h1, h2, h3, h4, h5, h6⟩ := h
  exact (wrint_any F r L W h1).mono fun e W' ⟨he, F', g1, g2, g3⟩ => ⟨he, Held3.step h2 h3 h4 h5 h6 g1 g2 g3⟩
theorem held3_bytes (h : Held3 B w0 W r L g t cs) (most : Int) (a1 : -9223372036854775808 ≤ most) (a2 : most ≤ 9223372036854775807) : Calls Try.prog 22 #[r, .int .i64 most] W (fun e W' => ∃ u, e = .returned (.tuple #[u, .int .i64 (bytE L most : Nat)]) ∧ OwnB W' W.heap.size u (bytV L most) ∧ Held3 B w0 W' r (bytR L most) g t cs) := by
  obtain ⟨F, h1, h2, h3, h4, h5, h6⟩ := h
  exact (wrbytes_any F r L most a1 a2 W h1).mono fun e W' ⟨u, he, hO, F', g1, g2, _, g3⟩ => ⟨u, he, hO, Held3.step h2 h3 h4 h5 h6 g1 g2 g3⟩
end

set_option maxHeartbeats 4000000 in
set_option maxRecDepth 100000 in
theorem reads_any {w0 W : World} (R : Nat) (L : List UInt8) (x : ThingV) (v : Value) (h : Held w0.heap.size w0 W (.pointer (some ⟨R, 0, none⟩)) L) (hx : Bs w0 v x.b) : Calls Try.prog 27 #[.pointer (some ⟨R, 0, none⟩), .agg #[.int .i64 x.what, .int .u64 (x.n : Nat), v]] W (fun e W' => e = .returned (.tuple #[.bool (tOk L x), .int .i64 (tE L x : Nat)]) ∧ Held w0.heap.size w0 W' (.pointer (some ⟨R, 0, none⟩)) (tR L x)) := by
  obtain ⟨wh, n, b⟩ := x
  simp only at hx
  have HX := Lib.hid hx
  obtain ⟨q, capq, rfl⟩ := hx.form
  have H := Lib.hid (h.put 59 #[.int .i64 wh, .int .u64 n, .slice q b.length capq])
  clear h hx
  unfold tOk tE tR
  simp only
  by_cases h0 : wh = 0
  · subst h0
    simp only [if_pos]
    have c := held3_num H.out 18446744073709551615 (by omega)
    rw [show (18446744073709551615 : Nat) = m64 from rfl] at c
    obtain ⟨a, ha⟩ : ∃ a : Int, ((numV L m64 : Nat) : Int) = a := ⟨_, rfl⟩
    obtain ⟨e, he⟩ : ∃ e : Int, ((numE L m64 : Nat) : Int) = e := ⟨_, rfl⟩
    obtain ⟨D, hD⟩ : ∃ D, numR L m64 = D := ⟨_, rfl⟩
    rw [ha, he, hD] at c
    rw [ha, he, hD]
    clear ha he hD
    have C := Lib.hid c
    clear c
    go_enter Try.func27, Try.ntmps27
    go_wp2_with fail
    refine C.out.mono ?_; rintro e w2 ⟨rfl, h2⟩
    have H2 := Lib.hid h2
    have e1 := h2.blk.cell 1 (u := .int .u64 n) rfl
    clear h2 C H
    go_wp2_with fail
    go_ret2
    exact ⟨rfl, H2.out.held⟩
  · simp only [if_neg h0]
    by_cases h1 : wh = 1
    · subst h1
      simp only [if_pos]
      have c := held3_int H.out
      obtain ⟨a, ha⟩ : ∃ a : Int, intV L = a := ⟨_, rfl⟩
      obtain ⟨e, he⟩ : ∃ e : Int, ((intE L : Nat) : Int) = e := ⟨_, rfl⟩
      obtain ⟨D, hD⟩ : ∃ D, intR L = D := ⟨_, rfl⟩
      rw [ha, he, hD] at c
      rw [ha, he, hD]
      clear ha he hD
      have C := Lib.hid c
      clear c
      go_enter Try.func27, Try.ntmps27
      go_wp2_with fail
      refine C.out.mono ?_; rintro e w2 ⟨rfl, h2⟩
      have H2 := Lib.hid h2
      have e1 := h2.blk.cell 1 (u := .int .u64 n) rfl
      clear h2 C H
      go_wp2_with fail
      go_ret2
      exact ⟨rfl, H2.out.held⟩
    · simp only [if_neg h1]
      have c := held3_bytes H.out maxI (by unfold maxI; omega) (by unfold maxI; omega)
      obtain ⟨a, ha⟩ : ∃ a, bytV L maxI = a := ⟨_, rfl⟩
      obtain ⟨e, he⟩ : ∃ e : Int, ((bytE L maxI : Nat) : Int) = e := ⟨_, rfl⟩
      obtain ⟨D, hD⟩ : ∃ D, bytR L maxI = D := ⟨_, rfl⟩
      rw [ha, he, hD] at c
      rw [ha, he, hD]
      clear ha he hD
      have C := Lib.hid c
      clear c
      go_enter Try.func27, Try.ntmps27
      go_wp2_with fail
      refine C.out.mono ?_; rintro e w2 ⟨u, rfl, hu, h2⟩
      obtain ⟨pu, capu, rfl⟩ := hu.form
      have H2 := Lib.hid h2
      have HU := Lib.hid hu.bs
      have e2 := h2.blk.cell 2 (u := .slice q b.length capq) rfl
      clear h2 hu C H
      go_wp2_with fail
      refine (equal_any _ _ a b w2 HU.out (HX.out.below H2.out.held.bel)).mono ?_; rintro e w3 ⟨rfl, rfl⟩
      go_wp2_with fail
      go_ret2
      exact ⟨rfl, H2.out.held⟩
end Go.Proofs.Ytapgjplcelbncaa
