/- The contracts of package cover's asked and Asked. -/
import Derived.Test.YtggcboejdihdiaaCo
set_option linter.unusedSimpArgs false
set_option linter.unusedVariables false
namespace Go.Proofs.Ytggcboejdihdiaa.Gm
open Go Go.RowKit
attribute [local go_sem ↓] Go.wp_at_zero Go.wp_at_succ

theorem ask_step {p : List Cn} {n : List UInt8} {k : Nat} (h : k < p.length) : (p.take (k + 1)).foldl (askF n) allR = askF n ((p.take k).foldl (askF n) allR) (p.getD k default) := by
  rw [List.take_succ_eq_append_getElem h, List.foldl_append]
  have : p.getD k default = p[k] := by simp [List.getD_eq_getElem?_getD, h]
  rw [this]; rfl
theorem ask_end (p : List Cn) (n : List UInt8) : (p.take p.length).foldl (askF n) allR = askedR p n := by rw [List.take_length]; rfl
theorem ask_len {p : List Cn} (h : ∀ c ∈ p, mayCn c = true) (n : List UInt8) (k : Nat) (hk : k ≤ p.length) : LeR ((p.take k).foldl (askF n) allR) (1 + k * 24) := (fold_le (p.take k) n allR 1 .all fun c hc => h c (List.mem_of_mem_take hc)).mono (by rw [List.length_take]; omega)
theorem getD_in {α : Type} [Inhabited α] {l : List α} {P : α → Prop} (h : ∀ v ∈ l, P v) {k : Nat} (hk : k < l.length) : P (l.getD k default) := by
  have : l.getD k default = l[k] := by simp [List.getD_eq_getElem?_getD, hk]
  rw [this]; exact h _ (List.getElem_mem hk)
theorem askF_yes {n : List UInt8} {r : Rg} {c : Cn} (h : (c.nm.data.toList == n) = true) : askF n r c = andR r (regC c) := by unfold askF; rw [h]; rfl
theorem askF_no {n : List UInt8} {r : Rg} {c : Cn} (h : (c.nm.data.toList == n) = false) : askF n r c = r := by unfold askF; rw [h]; rfl
set_option maxHeartbeats 16000000 in
set_option maxRecDepth 100000 in
theorem asked_any (v : Value) (p : List Cn) (nm : ByteArray) (w : World) (hA : Cs w v p) (hm : Mp p) : Calls Try.prog 25 #[v, .string nm] w fun e w' => ∃ q, e = .returned (rgv q (askedR p nm.data.toList)) ∧ OwnR w' q (askedR p nm.data.toList) ∧ Below w.heap.size w w' := by
  obtain ⟨sp, cap, rfl⟩ := hA.1.form
  have HA := Lib.hid hA
  have HM := Lib.hid hm
  have hl6 := hm.1
  have HZ0 := Lib.hid (Blk.new w 39 zRg)
  have HB0 := Lib.hid (below_one w (.cells zRg 39))
  clear hA hm
  show Calls Try.prog 25 #[.slice sp p.length cap, .string nm] w (RetR (askedR p nm.data.toList) w)
  go_enter Try.func25, Try.ntmps25
  go_wp2_with fail
  refine (all_r _).mono ?_; rintro e w1 ⟨q1, rfl, ho1, b1⟩
  have HO1 := Lib.hid ho1
  have HB1 := Lib.hid (then_ HB0.out b1)
  have HZ1 := Lib.hid (HZ0.out.later b1)
  clear b1 ho1
  have HO2 : Hid (OwnR (w1.alloc (.cells (rgc q1 allR) 39)) q1 allR) := Lib.hid (HO1.out.later (below_one _ _))
  have HB2 : Hid (Below w.heap.size w (w1.alloc (.cells (rgc q1 allR) 39))) := Lib.hid (HB1.out.alloc HB1.out.size _)
  have HZ2 : Hid (Blk (w1.alloc (.cells (rgc q1 allR) 39)) w.heap.size 39 zRg) := Lib.hid (HZ1.out.alloc _)
  have HK2 : Hid (Blk (w1.alloc (.cells (rgc q1 allR) 39)) w1.heap.size 39 (rgc q1 allR)) := Lib.hid (Blk.new _ _ _)
  have hgz := HZ1.out.lt
  go_wp2
  obtain ⟨G, hG⟩ : ∃ G, w1.heap.size = G := ⟨_, rfl⟩
  rw [hG] at hgz HK2 ⊢
  clear hG
  go_loopw [11] (fun i wr => ∃ (k : Nat) (q : Rm), k ≤ p.length ∧ i = .int .i64 k ∧ Hid (Blk wr w.heap.size 39 zRg) ∧ Hid (Blk wr G 39 (rgc q ((p.take k).foldl (askF nm.data.toList) allR))) ∧ Hid (OwnR wr q ((p.take k).foldl (askF nm.data.toList) allR)) ∧ Hid (Below w.heap.size w wr)) (fun i _ => p.length - (intOf i).toNat)
  case atStart => exact ⟨0, q1, Nat.zero_le _, rfl, HZ2, HK2, HO2, HB2⟩
  case round =>
    obtain ⟨k, q, hk, rfl, HZ, HK, HO, HBel⟩ := hrel
    by_cases hkl : k < p.length
    · obtain ⟨p1, cap1, b, o, hv, hp, hb, h4⟩ := seven_at (HA.out.later HBel.out).1 hkl
      simp only [Value.slice.injEq] at hv
      obtain ⟨rfl, _, rfl⟩ := hv
      have hidx := idx_c3 sp b o p.length cap k hp hkl
      have HSt := Lib.hid (ask_step (n := nm.data.toList) hkl)
      have HLe := Lib.hid (ask_len (fun c hc => (HM.out.2 c hc).1) nm.data.toList k hk)
      have hMk := getD_in HM.out.2 hkl
      have hVk := HA.out.at hkl
      obtain ⟨c, hx⟩ : ∃ c, p.getD k default = c := ⟨_, rfl⟩
      rw [hx] at h4 HSt hMk hVk
      obtain ⟨r0, hr0⟩ : ∃ r0, (p.take k).foldl (askF nm.data.toList) allR = r0 := ⟨_, rfl⟩
      rw [hr0] at HSt HLe HK HO
      have HC2 := Lib.hid (fun W (h : Below w.heap.size w W) => regionOf_any c hMk.1 hMk.2 W (hVk.later h))
      have HL2 := Lib.hid (LeR.reg hMk.1)
      have HOr := Lib.hid (fun W q' (h : OwnR W q r0) (h' : OwnR W q' (regC c)) => and_r q q' r0 (regC c) (1 + k * 24) 24 W (h.rg HLe.out (by omega)) (h'.rg HL2.out (by omega)) HLe.out HL2.out (by omega))
      obtain ⟨c0, c1, c2, c3, c4, c5, c6⟩ := h4
      have hz := HBel.out.size
      clear hx hp hb hr0 hMk hVk
      have HA1 : Hid (Blk (wr.alloc (.cells (cnc c) 34)) wr.heap.size 34 (cnc c)) := Lib.hid (Blk.new _ _ _)
      have HZ1 : Hid (Blk (wr.alloc (.cells (cnc c) 34)) w.heap.size 39 zRg) := Lib.hid (HZ.out.alloc _)
      have HK1 : Hid (Blk (wr.alloc (.cells (cnc c) 34)) G 39 (rgc q r0)) := Lib.hid (HK.out.alloc _)
      have HO1 : Hid (OwnR (wr.alloc (.cells (cnc c) 34)) q r0) := Lib.hid (HO.out.later (below_one _ _))
      have HB1 : Hid (Below w.heap.size w (wr.alloc (.cells (cnc c) 34))) := Lib.hid (HBel.out.alloc hz _)
      have hgk := HK.out.lt
      cases hn : c.nm.data.toList == nm.data.toList
      · have HSt2 := Lib.hid (askF_no (r := r0) hn)
        have hn2 : (c.nm.toList == nm.toList) = false := by rw [toList_data, toList_data]; exact hn
        clear hn
        go_wp2_with fail
        go_roundw
        case rel => exact ⟨k + 1, q, by omega, by simp, HZ1, Lib.hid (by rw [HSt.out, HSt2.out]; exact HK1.out), Lib.hid (by rw [HSt.out, HSt2.out]; exact HO1.out), HB1⟩
        case measure => simp [intOf]; omega
      · have HSt2 := Lib.hid (askF_yes (r := r0) hn)
        have hn2 : (c.nm.toList == nm.toList) = true := by rw [toList_data, toList_data]; exact hn
        clear hn
        go_wp2_with fail
        obtain ⟨W1, hW1⟩ : ∃ W1, W1 = wr.alloc (.cells (cnc c) 34) := ⟨_, rfl⟩
        rw [← hW1] at HA1 HZ1 HK1 HO1 HB1 ⊢
        clear hW1 c0 c1 c2 c3 c4 c5 c6 hidx hn2
        have hz1 := HB1.out.size
        have HB1d : Hid (Below w.heap.size w W1.drew) := Lib.hid HB1.out.drew
        have p0 := HA1.out.cell 0 rfl
        have p1 := HA1.out.cell 1 rfl
        have p2 := HA1.out.cell 2 rfl
        have p3 := HA1.out.cell 3 rfl
        have p4 := HA1.out.cell 4 rfl
        have p5 := HA1.out.cell 5 rfl
        have p6 := HA1.out.cell 6 rfl
        have y0 := HK1.out.cell 0 rfl
        have y1 := HK1.out.cell 1 rfl
        have y2 := HK1.out.cell 2 rfl
        have y3 := HK1.out.cell 3 rfl
        go_region_law (first | (go_simp; go_at_call 42; (with_reducible refine (HC2.out _ HB1d.out).mono ?_); rintro e w2 ⟨q2, rfl, ho2, b9⟩; have HO2' := Lib.hid ho2; have b8 : Below W1.heap.size W1 w2 := ⟨b9.os, b9.tape, b9.output, b9.size, b9.block⟩; have HO12 := Lib.hid (HO1.out.later b8); have HZ2' := Lib.hid (HZ1.out.later b8); have HK2' := Lib.hid (HK1.out.later b8); have HB2' := Lib.hid (then_ HB1.out b8); clear b9 b8 ho2; have u0 := HK2'.out.cell 0 rfl; have u1 := HK2'.out.cell 1 rfl; have u2 := HK2'.out.cell 2 rfl; have u3 := HK2'.out.cell 3 rfl; try go_wp2_with fail) | (go_simp; go_at_call 14; (with_reducible refine (HOr.out _ _ HO12.out HO2'.out).mono ?_); rintro e w3 ⟨q3, rfl, ho3, b9⟩; have HO3 := Lib.hid ho3; have HZ3 := Lib.hid (HZ2'.out.later b9); have HK3 := Lib.hid (HK2'.out.later b9); have HB3 := Lib.hid (then_ HB2'.out b9); clear b9 ho3; have v0 := HK3.out.cell 0 rfl; have v1 := HK3.out.cell 1 rfl; have v2 := HK3.out.cell 2 rfl; have v3 := HK3.out.cell 3 rfl; have f0 := HK3.out.free 0; have f1 := HK3.out.free 1; have f2 := HK3.out.free 2; have f3 := HK3.out.free 3; try go_wp2_with fail))
        all_goals (try go_wp2_with fail)
        all_goals (try go_roundw)
        all_goals (try refine And.intro ?_ ?_)
        all_goals first
          | (simp [intOf]; omega)
          | (exact ⟨k + 1, q3, by omega, by simp, Lib.hid ((same4 w3 G q3 (andR r0 (regC c))).blk HZ3.out (by omega)), Lib.hid (by rw [HSt.out, HSt2.out]; exact blkR HK3.out q3 (andR r0 (regC c))), Lib.hid (by rw [HSt.out, HSt2.out]; exact HO3.out.put4 HK3.out), Lib.hid ((same4 w3 G q3 (andR r0 (regC c))).below HB3.out HB3.out.size (by omega))⟩)
    · have hke : k = p.length := by omega
      subst hke
      have HE := Lib.hid (ask_end p nm.data.toList)
      rw [HE.out] at HK HO
      have k0 := HK.out.cell 0 rfl
      have k1 := HK.out.cell 1 rfl
      have k2 := HK.out.cell 2 rfl
      have k3 := HK.out.cell 3 rfl
      have z0 := HZ.out.cell 0 rfl
      have z1 := HZ.out.cell 1 rfl
      have z2 := HZ.out.cell 2 rfl
      have z3 := HZ.out.cell 3 rfl
      have f0 := HZ.out.free 0
      have f1 := HZ.out.free 1
      have f2 := HZ.out.free 2
      have f3 := HZ.out.free 3
      go_wp2_with fail
      exact post_rg (m := q) (r := (askedR p nm.data.toList)) HZ.out (fun W hW => by have e0 := hW.cell 0 rfl; have e1 := hW.cell 1 rfl; have e2 := hW.cell 2 rfl; have e3 := hW.cell 3 rfl; clear HZ HK HO HBel HE HA HM HZ0 HB0 HO1 HB1 HZ1 HO2 HB2 HZ2 HK2 k0 k1 k2 k3 z0 z1 z2 z3 f0 f1 f2 f3; simp [results, Try.results25, go_sem, e0, e1, e2, e3]) rfl ⟨q, rfl, OwnR.put4 HO.out HZ.out, (same4 _ _ _ _).below HBel.out HBel.out.size (by omega)⟩
end Go.Proofs.Ytggcboejdihdiaa.Gm
