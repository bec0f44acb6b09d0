/- The document's SameItem and SamePage, of what is alike. -/
import Derived.Test.YtkfheodcmhodpaaTp
import Derived.Test.YtkfheodcmhodpaaRMc
import Derived.Test.YtkfheodcmhodpaaRMa
set_option linter.unusedSimpArgs false
set_option linter.unusedVariables false
namespace Go.Proofs.Ytkfheodcmhodpaa.Gm
open Go Go.RowKit
attribute [local go_sem ↓] Go.wp_at_zero Go.wp_at_succ

set_option maxHeartbeats 8000000 in
set_option maxRecDepth 20000 in
theorem sitem_any (n t : Nat) (k1 k2 : ByteArray) (u1 u2 : Value) (l1 l2 : List Attr) (w : World) (h1 : Sl w u1 l1) (h2 : Sl w u2 l2) (hs : sameB k1 l1 k2 l2 = true) : Calls Try.prog 27 #[.agg #[.int .u64 n, .int .u64 t, .string k1, u1], .agg #[.int .u64 n, .int .u64 t, .string k2, u2]] w (Gives (.bool true) w) := by
  have HS := Lib.hid (fun W (h : Below w.heap.size w W) => by have := qsame_any k1 k2 u1 u2 l1 l2 W (h1.below h) (h2.below h); rwa [hs] at this)
  obtain ⟨p1, ca1, _, _, rfl, _⟩ := h1
  obtain ⟨p2, ca2, _, _, rfl, _⟩ := h2
  obtain ⟨m1, hm1⟩ : ∃ m, l1.length = m := ⟨_, rfl⟩
  obtain ⟨m2, hm2⟩ : ∃ m, l2.length = m := ⟨_, rfl⟩
  rw [hm1, hm2] at HS ⊢
  have HB0 := Lib.hid (below_two (o := .cells #[.int .u64 n, .int .u64 t, .string k2, .slice p2 m2 ca2] 51) (below_one w (.cells #[.int .u64 n, .int .u64 t, .string k1, .slice p1 m1 ca1] 51)))
  have HX := Lib.hid ((Blk.new w 51 #[.int .u64 n, .int .u64 t, .string k1, .slice p1 m1 ca1]).alloc (.cells #[.int .u64 n, .int .u64 t, .string k2, .slice p2 m2 ca2] 51))
  have HY : Hid (Blk ((w.alloc (.cells #[.int .u64 n, .int .u64 t, .string k1, .slice p1 m1 ca1] 51)).alloc (.cells #[.int .u64 n, .int .u64 t, .string k2, .slice p2 m2 ca2] 51)) (w.heap.size + 1) 51 #[.int .u64 n, .int .u64 t, .string k2, .slice p2 m2 ca2]) := Lib.hid (by have h := Blk.new (w.alloc (.cells #[.int .u64 n, .int .u64 t, .string k1, .slice p1 m1 ca1] 51)) 51 #[.int .u64 n, .int .u64 t, .string k2, .slice p2 m2 ca2]; simpa using h)
  have x0 := fun z => Later.cell (HX.out.cell 0 rfl) z
  have x1 := fun z => Later.cell (HX.out.cell 1 rfl) z
  have x2 := fun z => Later.cell (HX.out.cell 2 rfl) z
  have x3 := fun z => Later.cell (HX.out.cell 3 rfl) z
  have y0 := fun z => Later.cell (HY.out.cell 0 rfl) z
  have y1 := fun z => Later.cell (HY.out.cell 1 rfl) z
  have y2 := fun z => Later.cell (HY.out.cell 2 rfl) z
  have y3 := fun z => Later.cell (HY.out.cell 3 rfl) z
  have HS1 := Lib.hid (fun W (h : Below _ _ W) => HS.out W (then_ HB0.out h))
  clear HX HY hm1 hm2 hs HS
  go_enter Try.func27, Try.ntmps27
  go_wp2_with fail
  refine (HS1.out _ (Below.refl _ _)).mono ?_; rintro e w1 ⟨rfl, b1⟩
  have HBz := Lib.hid (then_ HB0.out b1)
  clear b1
  go_wp2_with fail
  go_ret
  exact ⟨rfl, HBz.out⟩
theorem it_alike {x y : Im} (h : toIt x = toIt y) : x.n = y.n ∧ x.t = y.t ∧ x.key = y.key ∧ x.at_ = y.at_ := by
  unfold toIt at h
  simpa using h
theorem its_alike {l m : List Im} (h : l.map toIt = m.map toIt) {k : Nat} (hk : k < l.length) : toIt (l.getD k default) = toIt (m.getD k default) := by
  have e : l.length = m.length := by have := congrArg List.length h; simpa using this
  have h2 : (l.map toIt)[k]? = (m.map toIt)[k]? := by rw [h]
  rw [List.getElem?_map, List.getElem?_map, List.getElem?_eq_getElem hk, List.getElem?_eq_getElem (e ▸ hk)] at h2
  rw [List.getD_eq_getElem?_getD, List.getD_eq_getElem?_getD, List.getElem?_eq_getElem hk, List.getElem?_eq_getElem (e ▸ hk)]
  simpa using h2
set_option maxHeartbeats 8000000 in
set_option maxRecDepth 20000 in
theorem spage_any (p q : Pm) (w : World) (hP : PgIn w p) (hQ : PgIn w q) (he : toPg p = toPg q) : Calls Try.prog 35 #[pp p, pp q] w (Gives (.bool true) w) := by
  obtain ⟨fr, en, ip, ic, its, gp, gc, gps, last⟩ := p
  obtain ⟨fr', en', ip', ic', its', gp', gc', gps', last'⟩ := q
  simp only [toPg, Prod.mk.injEq] at he
  obtain ⟨rfl, rfl, hits, rfl, rfl⟩ := he
  obtain ⟨⟨hI1, hI2, hI3⟩, ⟨hG1, hG2, hG3⟩, _⟩ := hP
  obtain ⟨⟨hJ1, hJ2, hJ3⟩, ⟨hH1, hH2, hH3⟩, _⟩ := hQ
  simp only [Pm.iv, Pm.gv] at hI1 hG1 hJ1 hH1 hI2 hG2 hJ2 hI3 hJ3
  have hlen : its.length = its'.length := by have := congrArg List.length hits; simpa using this
  have HE := Lib.hid (fun k (hk : k < its.length) => it_alike (its_alike hits hk))
  have HI3 := Lib.hid (fun k (hk : k < its.length) => (hI3 _ (mem_getD hk)).1)
  have HJ3 := Lib.hid (fun k (hk : k < its'.length) => (hJ3 _ (mem_getD hk)).1)
  obtain ⟨_, _, bi, oi, hv, hpi, hCi⟩ := hI1
  simp only [Value.slice.injEq, true_and] at hv
  obtain ⟨rfl, rfl⟩ := hv
  obtain ⟨_, _, bj, oj, hv, hpj, hCj⟩ := hJ1
  simp only [Value.slice.injEq, true_and] at hv
  obtain ⟨rfl, rfl⟩ := hv
  obtain ⟨_, _, bg, og, hv, hpg, hCg⟩ := hG1
  simp only [Value.slice.injEq, true_and] at hv
  obtain ⟨rfl, rfl⟩ := hv
  obtain ⟨_, _, bh, oh, hv, hph, hCh⟩ := hH1
  simp only [Value.slice.injEq, true_and] at hv
  obtain ⟨rfl, rfl⟩ := hv
  have HPi := Lib.hid hpi
  have HPj := Lib.hid hpj
  have HPg := Lib.hid hpg
  have HPh := Lib.hid hph
  have HCi := Lib.hid hCi
  have HCj := Lib.hid hCj
  have HCg := Lib.hid hCg
  have HCh := Lib.hid hCh
  clear hpi hpj hpg hph hCi hCj hCg hCh hits hI3 hJ3 hG3 hH3
  rw [show pp ⟨fr, en, ip', ic', its', gp', gc', gps, last⟩ = .agg #[.int .u64 fr, .int .u64 en, .slice ip' its.length ic', .slice gp' gps.length gc', .bool last] by rw [hlen]]
  have HLen := Lib.hid hlen
  clear hlen
  obtain ⟨W0, hW0⟩ : ∃ W0, ((w.alloc (.cells #[.int .u64 fr, .int .u64 en, .slice ip its.length ic, .slice gp gps.length gc, .bool last] 64)).alloc (.cells #[.int .u64 fr, .int .u64 en, .slice ip' its.length ic', .slice gp' gps.length gc', .bool last] 64)) = W0 := ⟨_, rfl⟩
  have HB0 : Hid (Below w.heap.size w W0) := Lib.hid (by rw [← hW0]; exact below_two (below_one w _))
  have HX : Hid (Blk W0 w.heap.size 64 #[.int .u64 fr, .int .u64 en, .slice ip its.length ic, .slice gp gps.length gc, .bool last]) := Lib.hid (by rw [← hW0]; exact (Blk.new w 64 _).alloc _)
  have HY : Hid (Blk W0 (w.heap.size + 1) 64 #[.int .u64 fr, .int .u64 en, .slice ip' its.length ic', .slice gp' gps.length gc', .bool last]) := Lib.hid (by rw [← hW0]; have h := Blk.new (w.alloc (.cells #[.int .u64 fr, .int .u64 en, .slice ip its.length ic, .slice gp gps.length gc, .bool last] 64)) 64 #[.int .u64 fr, .int .u64 en, .slice ip' its.length ic', .slice gp' gps.length gc', .bool last]; simpa using h)
  have HW0 := Lib.hid hW0
  clear hW0
  go_enter Try.func35, Try.ntmps35
  go_wp2_with fail
  rw [HW0.out]
  go_loopw [5] (fun i wr => ∃ k : Nat, k ≤ its.length ∧ i = .int .i64 k ∧ Hid (Below W0.heap.size W0 wr)) (fun i _ => its.length - (intOf i).toNat)
  case atStart => exact ⟨0, Nat.zero_le _, rfl, Lib.hid (Below.refl _ _)⟩
  case round =>
    obtain ⟨k, hk, rfl, HB⟩ := hrel
    have p2 := (HX.out.later HB.out).cell 2 rfl
    have p3 := (HX.out.later HB.out).cell 3 rfl
    have q2 := (HY.out.later HB.out).cell 2 rfl
    have q3 := (HY.out.later HB.out).cell 3 rfl
    by_cases hkl : k < its.length
    · have hkl' : k < its'.length := by have := HLen.out; omega
      have hne : its ≠ [] := by rintro rfl; simp at hkl
      have hne' : its' ≠ [] := by rintro rfl; simp at hkl'
      obtain ⟨hq, hb1⟩ := HPi.out hne
      obtain ⟨hq', hb2⟩ := HPj.out hne'
      have hidx := idx_i ip bi oi its.length ic k hq hkl
      have hidx' := idx_i ip' bj oj its.length ic' k hq' hkl
      have BB := Lib.hid (then_ HB0.out HB.out)
      have hcl := fun (j : Nat) => BB.out.cell (p := ⟨bi, j, none⟩) hb1
      have hcl' := fun (j : Nat) => BB.out.cell (p := ⟨bj, j, none⟩) hb2
      have e0 : w.cell? ⟨bi, oi + k * 4, none⟩ = some (.int .u64 (its.getD k default).n) := HCi.out k hkl 0 _ rfl
      have e1 : w.cell? ⟨bi, oi + k * 4 + 1, none⟩ = some (.int .u64 (its.getD k default).t) := HCi.out k hkl 1 _ rfl
      have e2 : w.cell? ⟨bi, oi + k * 4 + 2, none⟩ = some (.string (its.getD k default).key) := HCi.out k hkl 2 _ rfl
      have e3 : w.cell? ⟨bi, oi + k * 4 + 3, none⟩ = some (.slice (its.getD k default).ap (its.getD k default).at_.length (its.getD k default).ac) := HCi.out k hkl 3 _ rfl
      have f0 : w.cell? ⟨bj, oj + k * 4, none⟩ = some (.int .u64 (its'.getD k default).n) := HCj.out k hkl' 0 _ rfl
      have f1 : w.cell? ⟨bj, oj + k * 4 + 1, none⟩ = some (.int .u64 (its'.getD k default).t) := HCj.out k hkl' 1 _ rfl
      have f2 : w.cell? ⟨bj, oj + k * 4 + 2, none⟩ = some (.string (its'.getD k default).key) := HCj.out k hkl' 2 _ rfl
      have f3 : w.cell? ⟨bj, oj + k * 4 + 3, none⟩ = some (.slice (its'.getD k default).ap (its'.getD k default).at_.length (its'.getD k default).ac) := HCj.out k hkl' 3 _ rfl
      have hsl := HI3.out k hkl
      have hsl' := HJ3.out k hkl'
      have heq := HE.out k hkl
      obtain ⟨x, hx⟩ : ∃ x, its.getD k default = x := ⟨_, rfl⟩
      obtain ⟨y, hy⟩ : ∃ y, its'.getD k default = y := ⟨_, rfl⟩
      rw [hx] at e0 e1 e2 e3 hsl heq
      rw [hy] at f0 f1 f2 f3 hsl' heq
      rw [← hcl] at e0 e1 e2 e3
      rw [← hcl'] at f0 f1 f2 f3
      obtain ⟨g1, g2, key, ap, ac, l1⟩ := x
      obtain ⟨g1', g2', key', ap', ac', l2⟩ := y
      simp only at heq
      obtain ⟨rfl, rfl, rfl, rfl⟩ := heq
      simp only [Im.av] at hsl hsl'
      have HM := Lib.hid (fun W (h : Below w.heap.size w W) => sitem_any g1 g2 key key (.slice ap l1.length ac) (.slice ap' l1.length ac') l1 l1 W (hsl.below h) (hsl'.below h) ((sameB_iff _ _ _ _).2 ⟨rfl, rfl⟩))
      have HM2 := Lib.hid (fun W (h : Below wr.heap.size wr W) => HM.out W (then_ BB.out h))
      obtain ⟨m1, hm1⟩ : ∃ m, l1.length = m := ⟨_, rfl⟩
      simp only [hm1] at e3 f3 HM2
      have a2 := fun (z : Later wr) => Later.cell p2 z
      have b2 := fun (z : Later wr) => Later.cell q2 z
      have c0 := fun (z : Later wr) => Later.cell e0 z
      have c1 := fun (z : Later wr) => Later.cell e1 z
      have c2 := fun (z : Later wr) => Later.cell e2 z
      have c3 := fun (z : Later wr) => Later.cell e3 z
      have d0 := fun (z : Later wr) => Later.cell f0 z
      have d1 := fun (z : Later wr) => Later.cell f1 z
      have d2 := fun (z : Later wr) => Later.cell f2 z
      have d3 := fun (z : Later wr) => Later.cell f3 z
      clear hx hy hcl hcl' hne hne' hq hq' hb1 hb2 hsl hsl' e0 e1 e2 e3 f0 f1 f2 f3 p3 q3 hm1 HM
      go_wp2_with fail
      refine wp_region_later (by kernel_rfl) (by kernel_rfl) ?_
      repeat (quiet_step ((first | (go_at_call 27; exact later_call _ (HM2.out _ (Later.bel _))))))
      refine wpQuiet_nil ?_
      intro wz hw'
      obtain ⟨⟨_, hbz⟩, rfl⟩ := hw'
      have HBz := Lib.hid (then_ HB.out hbz)
      clear hbz a2 b2 c0 c1 c2 c3 d0 d1 d2 d3 p2 q2
      go_wp2_with fail
      go_roundw
      case rel => exact ⟨k + 1, by omega, by simp, HBz⟩
      case measure => simp [intOf]; omega
    · have hke : k = its.length := by omega
      subst hke
      go_wp2_with fail
      go_loopw [6] (fun i wr => ∃ k : Nat, k ≤ gps.length ∧ i = .int .i64 k ∧ Hid (Below W0.heap.size W0 wr)) (fun i _ => gps.length - (intOf i).toNat)
      case atStart => exact ⟨0, Nat.zero_le _, rfl, HB⟩
      case round =>
        obtain ⟨k, hk, rfl, HB2⟩ := hrel
        have p3 := (HX.out.later HB2.out).cell 3 rfl
        have q3 := (HY.out.later HB2.out).cell 3 rfl
        by_cases hkl : k < gps.length
        · have hne : gps ≠ [] := by rintro rfl; simp at hkl
          obtain ⟨hq, hb1⟩ := HPg.out hne
          obtain ⟨hq', hb2⟩ := HPh.out hne
          have hidx := idx_g gp bg og gps.length gc k hq hkl
          have hidx' := idx_g gp' bh oh gps.length gc' k hq' hkl
          have BB := Lib.hid (then_ HB0.out HB2.out)
          have hcl := fun (j : Nat) => BB.out.cell (p := ⟨bg, j, none⟩) hb1
          have hcl' := fun (j : Nat) => BB.out.cell (p := ⟨bh, j, none⟩) hb2
          have e0 : w.cell? ⟨bg, og + k * 2, none⟩ = some (.int .u64 (gps.getD k default).1) := HCg.out k hkl 0 _ rfl
          have e1 : w.cell? ⟨bg, og + k * 2 + 1, none⟩ = some (.int .u64 (gps.getD k default).2) := HCg.out k hkl 1 _ rfl
          have f0 : w.cell? ⟨bh, oh + k * 2, none⟩ = some (.int .u64 (gps.getD k default).1) := HCh.out k hkl 0 _ rfl
          have f1 : w.cell? ⟨bh, oh + k * 2 + 1, none⟩ = some (.int .u64 (gps.getD k default).2) := HCh.out k hkl 1 _ rfl
          obtain ⟨x, hx⟩ : ∃ x, gps.getD k default = x := ⟨_, rfl⟩
          rw [hx] at e0 e1 f0 f1
          rw [← hcl] at e0 e1
          rw [← hcl'] at f0 f1
          obtain ⟨g1, g2⟩ := x
          simp only at e0 e1 f0 f1
          have HBz := HB2
          clear hx hcl hcl' hne hq hq' hb1 hb2 HB
          go_wp2_with fail
          go_quiet (fail)
          go_wp2
          go_roundw
          case rel => exact ⟨k + 1, by omega, by simp, Lib.hid (below_drewN HBz.out _)⟩
          case measure => simp [intOf]; omega
        · have hke : k = gps.length := by omega
          subst hke
          go_wp2_with fail
          go_ret
          exact ⟨rfl, then_ HB0.out HB2.out⟩
end Go.Proofs.Ytkfheodcmhodpaa.Gm
