/- The contracts of package cover's regionOf at In and of any constraint that may be, and of Of. -/
import Derived.Test.YtggcboejdihdiaaCn
set_option linter.unusedSimpArgs false
set_option linter.unusedVariables false
namespace Go.Proofs.Ytggcboejdihdiaa.Gm
open Go Go.RowKit
attribute [local go_sem ↓] Go.wp_at_zero Go.wp_at_succ

def inF (r : Rg) (v : Vl) : Rg := orR r (stretchR 2 v)
theorem inR_step {l : List Vl} {k : Nat} (h : k < l.length) : (l.take (k + 1)).foldl inF zeroR = orR ((l.take k).foldl inF zeroR) (stretchR 2 (l.getD k default)) := by
  rw [List.take_succ_eq_append_getElem h, List.foldl_append]
  have : l.getD k default = l[k] := by simp [List.getD_eq_getElem?_getD, h]
  rw [this]; rfl
theorem inR_end (l : List Vl) : (l.take l.length).foldl inF zeroR = inR l := by rw [List.take_length]; rfl
theorem inR_len (l : List Vl) (k : Nat) : LeR ((l.take k).foldl inF zeroR) (k * 4) := (inR_le (l.take k) zeroR 0 (.zero 0)).mono (by have := List.length_take_le k l; omega)
theorem getD_all {l : List Vl} {P : Vl → Prop} (h : ∀ v ∈ l, P v) {k : Nat} (hk : k < l.length) : P (l.getD k default) := by
  have : l.getD k default = l[k] := by simp [List.getD_eq_getElem?_getD, hk]
  rw [this]; exact h _ (List.getElem_mem hk)
set_option maxHeartbeats 16000000 in
set_option maxRecDepth 100000 in
theorem regionOf9_any (c : Cn) (hop : c.op = 9) (hs : maySt c.set = true) (hr : ∀ x ∈ c.set, Rv x) (w : World) (hS : Vs w c.sv c.set) : Calls Try.prog 42 #[cc c] w (RetR (inR c.set) w) := by
  have H3 := three3 w 34 39 39 (cnc c) zRg zRg
  have HZ0 := Lib.hid H3.2.1
  have HK0 := Lib.hid H3.2.2.1
  have HB0 := Lib.hid H3.2.2.2
  clear H3
  have h1 : (c.op == 1) = false := by simp [hop]
  have h3 : (c.op == 3) = false := by simp [hop]
  have h9 : (c.op == 9) = true := by simp [hop]
  have hl6 := (cmay_set hs).1
  have HV := Lib.hid (fun (k : Nat) (hk : k < c.set.length) => (⟨getD_all (cmay_set hs).2 hk, getD_all hr hk, by have := getD_all (P := fun v => mayVl v = true) (by simp only [maySt, Bool.and_eq_true, List.all_eq_true] at hs; exact hs.2) hk; have := may_size this; omega⟩ : ((c.set.getD k default).k = 1 ∨ (c.set.getD k default).k = 2 ∨ (c.set.getD k default).k = 3) ∧ Rv (c.set.getD k default) ∧ (c.set.getD k default).s.size ≤ 1048576))
  have HS := Lib.hid hS
  clear hop hs hr hS
  obtain ⟨nm, op, v, sp, sc, set⟩ := c
  simp only at HV HS h1 h3 h9 hl6 HZ0 HK0 HB0 ⊢
  go_enter Try.func42, Try.ntmps42
  go_wp2
  go_loopw [25] (fun i wr => ∃ (k : Nat) (q : Rm), k ≤ set.length ∧ i = .int .i64 k ∧ Hid (Blk wr (w.heap.size + 1) 39 zRg) ∧ Hid (Blk wr (w.heap.size + 1 + 1) 39 (rgc q ((set.take k).foldl inF zeroR))) ∧ Hid (OwnR wr q ((set.take k).foldl inF zeroR)) ∧ Hid (Below w.heap.size w wr)) (fun i _ => set.length - (intOf i).toNat)
  case atStart => exact ⟨0, ⟨none, 0, none, 0, none, 0⟩, Nat.zero_le _, rfl, HZ0, HK0, Lib.hid ⟨OwnS.nil _ _, OwnS.nil _ _, OwnS.nil _ _⟩, HB0⟩
  case round =>
    obtain ⟨k, q, hk, rfl, HZ, HK, HO, HBel⟩ := hrel
    by_cases hkl : k < set.length
    · obtain ⟨p1, cap1, b, o, hv, hp, hb, h4⟩ := four_at (HS.out.later HBel.out).1 hkl
      simp only [Value.slice.injEq] at hv
      obtain ⟨rfl, _, rfl⟩ := hv
      have hidx := idx_v1 sp b o set.length sc k hp hkl
      have HSt := Lib.hid (inR_step hkl)
      have HLe := Lib.hid (inR_len set k)
      obtain ⟨x1, x2, x3⟩ := HV.out k hkl
      obtain ⟨x, hx⟩ : ∃ x, set.getD k default = x := ⟨_, rfl⟩
      rw [hx] at h4 HSt x1 x2 x3
      obtain ⟨r0, hr0⟩ : ∃ r0, (set.take k).foldl inF zeroR = r0 := ⟨_, rfl⟩
      rw [hr0] at HSt HLe HK HO
      have HC2 := Lib.hid (fun W => stretch_any 2 x x1 x2 x3 W)
      have HOr := Lib.hid (fun W q' (h : OwnR W q r0) (h' : OwnR W q' (stretchR 2 x)) => or_r q q' r0 (stretchR 2 x) (k * 4) 1 W (h.rg HLe.out (by omega)) (h'.rg (LeR.stretch _ _) (by omega)) HLe.out (LeR.stretch _ _) (by omega))
      obtain ⟨c0, c1, c2, c3⟩ := h4
      have hz := HBel.out.size
      clear hx hp hb x1 x2 x3 hr0
      generalize stretchR 2 x = xr at HC2 HOr HSt
      generalize orR r0 xr = y at HOr HSt
      have HA1 : Hid (Blk (wr.alloc (.cells (vlc x) 31)) wr.heap.size 31 (vlc x)) := Lib.hid (Blk.new _ _ _)
      have HZ1 : Hid (Blk (wr.alloc (.cells (vlc x) 31)) (w.heap.size + 1) 39 zRg) := Lib.hid (HZ.out.alloc _)
      have HK1 : Hid (Blk (wr.alloc (.cells (vlc x) 31)) (w.heap.size + 1 + 1) 39 (rgc q r0)) := Lib.hid (HK.out.alloc _)
      have HO1 : Hid (OwnR (wr.alloc (.cells (vlc x) 31)) q r0) := Lib.hid (HO.out.later (below_one _ _))
      have HB1 : Hid (Below w.heap.size w (wr.alloc (.cells (vlc x) 31))) := Lib.hid (HBel.out.alloc hz _)
      go_wp2_with fail
      obtain ⟨W1, hW1⟩ : ∃ W1, W1 = wr.alloc (.cells (vlc x) 31) := ⟨_, rfl⟩
      rw [← hW1] at HA1 HZ1 HK1 HO1 HB1 ⊢
      clear hW1 c0 c1 c2 c3 hidx
      have hz1 := HB1.out.size
      have HB1d : Hid (Below w.heap.size w W1.drew) := Lib.hid HB1.out.drew
      have p0 := HA1.out.cell 0 rfl
      have p1 := HA1.out.cell 1 rfl
      have p2 := HA1.out.cell 2 rfl
      have p3 := HA1.out.cell 3 rfl
      have y0 := HK1.out.cell 0 rfl
      have y1 := HK1.out.cell 1 rfl
      have y2 := HK1.out.cell 2 rfl
      have y3 := HK1.out.cell 3 rfl
      go_region_law (first | (go_simp; go_at_call 54; (with_reducible refine (HC2.out _).mono ?_); rintro e w2 ⟨q2, rfl, ho2, b9⟩; have HO2 := Lib.hid ho2; have b8 : Below W1.heap.size W1 w2 := ⟨b9.os, b9.tape, b9.output, b9.size, b9.block⟩; have HO12 := Lib.hid (HO1.out.later b8); have HZ2 := Lib.hid (HZ1.out.later b8); have HK2 := Lib.hid (HK1.out.later b8); have HB2 := Lib.hid (then_ HB1.out b8); clear b9 b8 ho2; have u0 := HK2.out.cell 0 rfl; have u1 := HK2.out.cell 1 rfl; have u2 := HK2.out.cell 2 rfl; have u3 := HK2.out.cell 3 rfl; try go_wp2_with fail) | (go_simp; go_at_call 55; (with_reducible refine (HOr.out _ _ HO12.out HO2.out).mono ?_); rintro e w3 ⟨q3, rfl, ho3, b9⟩; have HO3 := Lib.hid ho3; have HZ3 := Lib.hid (HZ2.out.later b9); have HK3 := Lib.hid (HK2.out.later b9); have HB3 := Lib.hid (then_ HB2.out b9); clear b9 ho3; have v0 := HK3.out.cell 0 rfl; have v1 := HK3.out.cell 1 rfl; have v2 := HK3.out.cell 2 rfl; have v3 := HK3.out.cell 3 rfl; have f0 := HK3.out.free 0; have f1 := HK3.out.free 1; have f2 := HK3.out.free 2; have f3 := HK3.out.free 3; try go_wp2_with fail))
      all_goals (try go_wp2_with fail)
      all_goals (try go_roundw)
      all_goals (try refine And.intro ?_ ?_)
      all_goals first
        | (simp [intOf]; omega)
        | (exact ⟨k + 1, q3, by omega, by simp, Lib.hid ((same4 w3 (w.heap.size + 1 + 1) q3 y).blk HZ3.out (by omega)), Lib.hid (by rw [HSt.out]; exact blkR HK3.out q3 y), Lib.hid (by rw [HSt.out]; exact HO3.out.put4 HK3.out), Lib.hid ((same4 w3 (w.heap.size + 1 + 1) q3 y).below HB3.out HB3.out.size (by omega))⟩)
    · have hke : k = set.length := by omega
      subst hke
      have HE := Lib.hid (inR_end set)
      rw [HE.out] at HK HO
      have k0 := HK.out.cell 0 rfl
      have k1 := HK.out.cell 1 rfl
      have k2 := HK.out.cell 2 rfl
      have k3 := HK.out.cell 3 rfl
      have z0 := HZ.out.cell 0 rfl
      have z1 := HZ.out.cell 1 rfl
      have z2 := HZ.out.cell 2 rfl
      have z3 := HZ.out.cell 3 rfl
      have f0 := HZ.out.free 0
      have f1 := HZ.out.free 1
      have f2 := HZ.out.free 2
      have f3 := HZ.out.free 3
      go_wp2_with fail
      exact post_rg (m := q) (r := (inR set)) HZ.out (fun W hW => by have e0 := hW.cell 0 rfl; have e1 := hW.cell 1 rfl; have e2 := hW.cell 2 rfl; have e3 := hW.cell 3 rfl; clear HZ HK HO HBel HZ0 HK0 HB0 HE HV HS k0 k1 k2 k3 z0 z1 z2 z3 f0 f1 f2 f3; simp [results, Try.results42, go_sem, e0, e1, e2, e3]) rfl ⟨q, rfl, OwnR.put4 HO.out HZ.out, (same4 _ _ _ _).below HBel.out HBel.out.size (by omega)⟩
theorem regionOf_any (c : Cn) (hm : mayCn c = true) (hr : RvC c) (w : World) (hS : Vs w c.sv c.set) : Calls Try.prog 42 #[cc c] w fun e w' => ∃ q, e = .returned (rgv q (regC c)) ∧ OwnR w' q (regC c) ∧ Below w.heap.size w w' := by
  unfold regC
  rcases may_parts hm with h | ⟨h, hs⟩ | ⟨h1, h2, hv, h8⟩
  · rw [if_pos h]; exact regionOf1_any c h w
  · rw [if_neg (by omega), if_neg (by omega), if_pos h]; exact regionOf9_any c h hs hr.2 w hS
  · rw [if_neg (by omega)]
    by_cases h3 : c.op = 3
    · rw [if_pos h3]; exact regionOf3_any c h3 hv hr.1 w
    · rw [if_neg h3, if_neg (by omega)]; exact regionOf2_any c ⟨by omega, h3, by omega⟩ hv hr.1 w
theorem rg_own0 (w : World) : OwnR w ⟨none, 0, none, 0, none, 0⟩ zeroR := ⟨OwnS.nil _ _, OwnS.nil _ _, OwnS.nil _ _⟩
/-- What a call leaves that returns a region and whether there is one. -/
def RetE (ok : Bool) (r : Rg) (w : World) (e : Ending) (w' : World) : Prop := ∃ m, e = .returned (.tuple #[rgv m (if ok then r else zeroR), .int .i64 (if ok then 0 else 30)]) ∧ OwnR w' m (if ok then r else zeroR) ∧ Below w.heap.size w w'
theorem post_re {P : Program} {fn : Func} {a : Act} {w1 : World} {g : Nat} {t : TypeId} {x y z u : Value} {m : Rm} {r : Rg} {i : Int} {Q9 : Ending → World → Prop} (hK : Blk w1 g t #[x, y, z, u]) (hr : ∀ W, Blk W g t (rgc m r) → (results fn a.tmps).run P W = .ok (.tuple #[rgv m r, .int .i64 i]) W) (hd : a.defers = []) (hR : Q9 (.returned (.tuple #[rgv m r, .int .i64 i])) (put4 w1 g m r)) : bodyPost P fn Q9 .ret a (put4 w1 g m r) :=
  bodyPost_ret (hr _ (blkR hK m r)) hd hR
end Go.Proofs.Ytggcboejdihdiaa.Gm
