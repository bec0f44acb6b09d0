/- The walk of CodecBack. (Written by tools/gen_ng.py.) -/
import Derived.Test.YtnolpglgabemfaaTp
import Derived.Test.YtnolpglgabemfaaRMc
import Derived.Test.YtnolpglgabemfaaKL
import Derived.Test.YtnolpglgabemfaaNd
/- What may be goes as bytes and comes back: plain facts. (Written by tools/gen_ng.py.) -/
/- The document's SameItem and SamePage, of what is alike. -/
set_option linter.unusedSimpArgs false
set_option linter.unusedVariables false
namespace Go.Proofs.Ytnolpglgabemfaa.Gm
open Go Go.RowKit
attribute [local go_sem ↓] Go.wp_at_zero Go.wp_at_succ

set_option maxHeartbeats 8000000 in
set_option maxRecDepth 20000 in
theorem sitem_any (n t : Nat) (k1 k2 : ByteArray) (u1 u2 : Value) (l1 l2 : List Attr) (w : World) (h1 : Sl w u1 l1) (h2 : Sl w u2 l2) (hs : sameB k1 l1 k2 l2 = true) : Calls Try.prog 27 #[.agg #[.int .u64 n, .int .u64 t, .string k1, u1], .agg #[.int .u64 n, .int .u64 t, .string k2, u2]] w (Gives (.bool true) w) := by
  have HS := Lib.hid (fun W (h : Below w.heap.size w W) => by have := qsame_any k1 k2 u1 u2 l1 l2 W (h1.below h) (h2.below h); rwa [hs] at this)
  obtain ⟨p1, ca1, _, _, rfl, _⟩ := h1
  obtain ⟨p2, ca2, _, _, rfl, _⟩ := h2
  obtain ⟨m1, hm1⟩ : ∃ m, l1.length = m := ⟨_, rfl⟩
  obtain ⟨m2, hm2⟩ : ∃ m, l2.length = m := ⟨_, rfl⟩
  rw [hm1, hm2] at HS ⊢
  have HB0 := Lib.hid (below_two (o := .cells #[.int .u64 n, .int .u64 t, .string k2, .slice p2 m2 ca2] 51) (below_one w (.cells #[.int .u64 n, .int .u64 t, .string k1, .slice p1 m1 ca1] 51)))
  have HX := Lib.hid ((Blk.new w 51 #[.int .u64 n, .int .u64 t, .string k1, .slice p1 m1 ca1]).alloc (.cells #[.int .u64 n, .int .u64 t, .string k2, .slice p2 m2 ca2] 51))
  have HY : Hid (Blk ((w.alloc (.cells #[.int .u64 n, .int .u64 t, .string k1, .slice p1 m1 ca1] 51)).alloc (.cells #[.int .u64 n, .int .u64 t, .string k2, .slice p2 m2 ca2] 51)) (w.heap.size + 1) 51 #[.int .u64 n, .int .u64 t, .string k2, .slice p2 m2 ca2]) := Lib.hid (by have h := Blk.new (w.alloc (.cells #[.int .u64 n, .int .u64 t, .string k1, .slice p1 m1 ca1] 51)) 51 #[.int .u64 n, .int .u64 t, .string k2, .slice p2 m2 ca2]; simpa using h)
  have x0 := fun z => Later.cell (HX.out.cell 0 rfl) z
  have x1 := fun z => Later.cell (HX.out.cell 1 rfl) z
  have x2 := fun z => Later.cell (HX.out.cell 2 rfl) z
  have x3 := fun z => Later.cell (HX.out.cell 3 rfl) z
  have y0 := fun z => Later.cell (HY.out.cell 0 rfl) z
  have y1 := fun z => Later.cell (HY.out.cell 1 rfl) z
  have y2 := fun z => Later.cell (HY.out.cell 2 rfl) z
  have y3 := fun z => Later.cell (HY.out.cell 3 rfl) z
  have HS1 := Lib.hid (fun W (h : Below _ _ W) => HS.out W (then_ HB0.out h))
  clear HX HY hm1 hm2 hs HS
  go_enter Try.func27, Try.ntmps27
  go_wp2_with fail
  refine (HS1.out _ (Below.refl _ _)).mono ?_; rintro e w1 ⟨rfl, b1⟩
  have HBz := Lib.hid (then_ HB0.out b1)
  clear b1
  go_wp2_with fail
  go_ret
  exact ⟨rfl, HBz.out⟩
theorem it_alike {x y : Im} (h : toIt x = toIt y) : x.n = y.n ∧ x.t = y.t ∧ x.key = y.key ∧ x.at_ = y.at_ := by
  unfold toIt at h
  simpa using h
theorem its_alike {l m : List Im} (h : l.map toIt = m.map toIt) {k : Nat} (hk : k < l.length) : toIt (l.getD k default) = toIt (m.getD k default) := by
  have e : l.length = m.length := by have := congrArg List.length h; simpa using this
  have h2 : (l.map toIt)[k]? = (m.map toIt)[k]? := by rw [h]
  rw [List.getElem?_map, List.getElem?_map, List.getElem?_eq_getElem hk, List.getElem?_eq_getElem (e ▸ hk)] at h2
  rw [List.getD_eq_getElem?_getD, List.getD_eq_getElem?_getD, List.getElem?_eq_getElem hk, List.getElem?_eq_getElem (e ▸ hk)]
  simpa using h2
set_option maxHeartbeats 8000000 in
set_option maxRecDepth 20000 in
theorem spage_any (p q : Pm) (w : World) (hP : PgIn w p) (hQ : PgIn w q) (he : toPg p = toPg q) : Calls Try.prog 35 #[pp p, pp q] w (Gives (.bool true) w) := by
  obtain ⟨fr, en, ip, ic, its, gp, gc, gps, last⟩ := p
  obtain ⟨fr', en', ip', ic', its', gp', gc', gps', last'⟩ := q
  simp only [toPg, Prod.mk.injEq] at he
  obtain ⟨rfl, rfl, hits, rfl, rfl⟩ := he
  obtain ⟨⟨hI1, hI2, hI3⟩, ⟨hG1, hG2, hG3⟩, _⟩ := hP
  obtain ⟨⟨hJ1, hJ2, hJ3⟩, ⟨hH1, hH2, hH3⟩, _⟩ := hQ
  simp only [Pm.iv, Pm.gv] at hI1 hG1 hJ1 hH1 hI2 hG2 hJ2 hI3 hJ3
  have hlen : its.length = its'.length := by have := congrArg List.length hits; simpa using this
  have HE := Lib.hid (fun k (hk : k < its.length) => it_alike (its_alike hits hk))
  have HI3 := Lib.hid (fun k (hk : k < its.length) => (hI3 _ (mem_getD hk)).1)
  have HJ3 := Lib.hid (fun k (hk : k < its'.length) => (hJ3 _ (mem_getD hk)).1)
  obtain ⟨_, _, bi, oi, hv, hpi, hCi⟩ := hI1
  simp only [Value.slice.injEq, true_and] at hv
  obtain ⟨rfl, rfl⟩ := hv
  obtain ⟨_, _, bj, oj, hv, hpj, hCj⟩ := hJ1
  simp only [Value.slice.injEq, true_and] at hv
  obtain ⟨rfl, rfl⟩ := hv
  obtain ⟨_, _, bg, og, hv, hpg, hCg⟩ := hG1
  simp only [Value.slice.injEq, true_and] at hv
  obtain ⟨rfl, rfl⟩ := hv
  obtain ⟨_, _, bh, oh, hv, hph, hCh⟩ := hH1
  simp only [Value.slice.injEq, true_and] at hv
  obtain ⟨rfl, rfl⟩ := hv
  have HPi := Lib.hid hpi
  have HPj := Lib.hid hpj
  have HPg := Lib.hid hpg
  have HPh := Lib.hid hph
  have HCi := Lib.hid hCi
  have HCj := Lib.hid hCj
  have HCg := Lib.hid hCg
  have HCh := Lib.hid hCh
  clear hpi hpj hpg hph hCi hCj hCg hCh hits hI3 hJ3 hG3 hH3
  rw [show pp ⟨fr, en, ip', ic', its', gp', gc', gps, last⟩ = .agg #[.int .u64 fr, .int .u64 en, .slice ip' its.length ic', .slice gp' gps.length gc', .bool last] by rw [hlen]]
  have HLen := Lib.hid hlen
  clear hlen
  obtain ⟨W0, hW0⟩ : ∃ W0, ((w.alloc (.cells #[.int .u64 fr, .int .u64 en, .slice ip its.length ic, .slice gp gps.length gc, .bool last] 64)).alloc (.cells #[.int .u64 fr, .int .u64 en, .slice ip' its.length ic', .slice gp' gps.length gc', .bool last] 64)) = W0 := ⟨_, rfl⟩
  have HB0 : Hid (Below w.heap.size w W0) := Lib.hid (by rw [← hW0]; exact below_two (below_one w _))
  have HX : Hid (Blk W0 w.heap.size 64 #[.int .u64 fr, .int .u64 en, .slice ip its.length ic, .slice gp gps.length gc, .bool last]) := Lib.hid (by rw [← hW0]; exact (Blk.new w 64 _).alloc _)
  have HY : Hid (Blk W0 (w.heap.size + 1) 64 #[.int .u64 fr, .int .u64 en, .slice ip' its.length ic', .slice gp' gps.length gc', .bool last]) := Lib.hid (by rw [← hW0]; have h := Blk.new (w.alloc (.cells #[.int .u64 fr, .int .u64 en, .slice ip its.length ic, .slice gp gps.length gc, .bool last] 64)) 64 #[.int .u64 fr, .int .u64 en, .slice ip' its.length ic', .slice gp' gps.length gc', .bool last]; simpa using h)
  have HW0 := Lib.hid hW0
  clear hW0
  go_enter Try.func35, Try.ntmps35
  go_wp2_with fail
  rw [HW0.out]
  go_loopw [5] (fun i wr => ∃ k : Nat, k ≤ its.length ∧ i = .int .i64 k ∧ Hid (Below W0.heap.size W0 wr)) (fun i _ => its.length - (intOf i).toNat)
  case atStart => exact ⟨0, Nat.zero_le _, rfl, Lib.hid (Below.refl _ _)⟩
  case round =>
    obtain ⟨k, hk, rfl, HB⟩ := hrel
    have p2 := (HX.out.later HB.out).cell 2 rfl
    have p3 := (HX.out.later HB.out).cell 3 rfl
    have q2 := (HY.out.later HB.out).cell 2 rfl
    have q3 := (HY.out.later HB.out).cell 3 rfl
    by_cases hkl : k < its.length
    · have hkl' : k < its'.length := by have := HLen.out; omega
      have hne : its ≠ [] := by rintro rfl; simp at hkl
      have hne' : its' ≠ [] := by rintro rfl; simp at hkl'
      obtain ⟨hq, hb1⟩ := HPi.out hne
      obtain ⟨hq', hb2⟩ := HPj.out hne'
      have hidx := idx_i ip bi oi its.length ic k hq hkl
      have hidx' := idx_i ip' bj oj its.length ic' k hq' hkl
      have BB := Lib.hid (then_ HB0.out HB.out)
      have hcl := fun (j : Nat) => BB.out.cell (p := ⟨bi, j, none⟩) hb1
      have hcl' := fun (j : Nat) => BB.out.cell (p := ⟨bj, j, none⟩) hb2
      have e0 : w.cell? ⟨bi, oi + k * 4, none⟩ = some (.int .u64 (its.getD k default).n) := HCi.out k hkl 0 _ rfl
      have e1 : w.cell? ⟨bi, oi + k * 4 + 1, none⟩ = some (.int .u64 (its.getD k default).t) := HCi.out k hkl 1 _ rfl
      have e2 : w.cell? ⟨bi, oi + k * 4 + 2, none⟩ = some (.string (its.getD k default).key) := HCi.out k hkl 2 _ rfl
      have e3 : w.cell? ⟨bi, oi + k * 4 + 3, none⟩ = some (.slice (its.getD k default).ap (its.getD k default).at_.length (its.getD k default).ac) := HCi.out k hkl 3 _ rfl
      have f0 : w.cell? ⟨bj, oj + k * 4, none⟩ = some (.int .u64 (its'.getD k default).n) := HCj.out k hkl' 0 _ rfl
      have f1 : w.cell? ⟨bj, oj + k * 4 + 1, none⟩ = some (.int .u64 (its'.getD k default).t) := HCj.out k hkl' 1 _ rfl
      have f2 : w.cell? ⟨bj, oj + k * 4 + 2, none⟩ = some (.string (its'.getD k default).key) := HCj.out k hkl' 2 _ rfl
      have f3 : w.cell? ⟨bj, oj + k * 4 + 3, none⟩ = some (.slice (its'.getD k default).ap (its'.getD k default).at_.length (its'.getD k default).ac) := HCj.out k hkl' 3 _ rfl
      have hsl := HI3.out k hkl
      have hsl' := HJ3.out k hkl'
      have heq := HE.out k hkl
      obtain ⟨x, hx⟩ : ∃ x, its.getD k default = x := ⟨_, rfl⟩
      obtain ⟨y, hy⟩ : ∃ y, its'.getD k default = y := ⟨_, rfl⟩
      rw [hx] at e0 e1 e2 e3 hsl heq
      rw [hy] at f0 f1 f2 f3 hsl' heq
      rw [← hcl] at e0 e1 e2 e3
      rw [← hcl'] at f0 f1 f2 f3
      obtain ⟨g1, g2, key, ap, ac, l1⟩ := x
      obtain ⟨g1', g2', key', ap', ac', l2⟩ := y
      simp only at heq
      obtain ⟨rfl, rfl, rfl, rfl⟩ := heq
      simp only [Im.av] at hsl hsl'
      have HM := Lib.hid (fun W (h : Below w.heap.size w W) => sitem_any g1 g2 key key (.slice ap l1.length ac) (.slice ap' l1.length ac') l1 l1 W (hsl.below h) (hsl'.below h) ((sameB_iff _ _ _ _).2 ⟨rfl, rfl⟩))
      have HM2 := Lib.hid (fun W (h : Below wr.heap.size wr W) => HM.out W (then_ BB.out h))
      obtain ⟨m1, hm1⟩ : ∃ m, l1.length = m := ⟨_, rfl⟩
      simp only [hm1] at e3 f3 HM2
      have a2 := fun (z : Later wr) => Later.cell p2 z
      have b2 := fun (z : Later wr) => Later.cell q2 z
      have c0 := fun (z : Later wr) => Later.cell e0 z
      have c1 := fun (z : Later wr) => Later.cell e1 z
      have c2 := fun (z : Later wr) => Later.cell e2 z
      have c3 := fun (z : Later wr) => Later.cell e3 z
      have d0 := fun (z : Later wr) => Later.cell f0 z
      have d1 := fun (z : Later wr) => Later.cell f1 z
      have d2 := fun (z : Later wr) => Later.cell f2 z
      have d3 := fun (z : Later wr) => Later.cell f3 z
      clear hx hy hcl hcl' hne hne' hq hq' hb1 hb2 hsl hsl' e0 e1 e2 e3 f0 f1 f2 f3 p3 q3 hm1 HM
      go_wp2_with fail
      refine wp_region_later (by kernel_rfl) (by kernel_rfl) ?_
      repeat (quiet_step ((first | (go_at_call 27; exact later_call _ (HM2.out _ (Later.bel _))))))
      refine wpQuiet_nil ?_
      intro wz hw'
      obtain ⟨⟨_, hbz⟩, rfl⟩ := hw'
      have HBz := Lib.hid (then_ HB.out hbz)
      clear hbz a2 b2 c0 c1 c2 c3 d0 d1 d2 d3 p2 q2
      go_wp2_with fail
      go_roundw
      case rel => exact ⟨k + 1, by omega, by simp, HBz⟩
      case measure => simp [intOf]; omega
    · have hke : k = its.length := by omega
      subst hke
      go_wp2_with fail
      go_loopw [6] (fun i wr => ∃ k : Nat, k ≤ gps.length ∧ i = .int .i64 k ∧ Hid (Below W0.heap.size W0 wr)) (fun i _ => gps.length - (intOf i).toNat)
      case atStart => exact ⟨0, Nat.zero_le _, rfl, HB⟩
      case round =>
        obtain ⟨k, hk, rfl, HB2⟩ := hrel
        have p3 := (HX.out.later HB2.out).cell 3 rfl
        have q3 := (HY.out.later HB2.out).cell 3 rfl
        by_cases hkl : k < gps.length
        · have hne : gps ≠ [] := by rintro rfl; simp at hkl
          obtain ⟨hq, hb1⟩ := HPg.out hne
          obtain ⟨hq', hb2⟩ := HPh.out hne
          have hidx := idx_g gp bg og gps.length gc k hq hkl
          have hidx' := idx_g gp' bh oh gps.length gc' k hq' hkl
          have BB := Lib.hid (then_ HB0.out HB2.out)
          have hcl := fun (j : Nat) => BB.out.cell (p := ⟨bg, j, none⟩) hb1
          have hcl' := fun (j : Nat) => BB.out.cell (p := ⟨bh, j, none⟩) hb2
          have e0 : w.cell? ⟨bg, og + k * 2, none⟩ = some (.int .u64 (gps.getD k default).1) := HCg.out k hkl 0 _ rfl
          have e1 : w.cell? ⟨bg, og + k * 2 + 1, none⟩ = some (.int .u64 (gps.getD k default).2) := HCg.out k hkl 1 _ rfl
          have f0 : w.cell? ⟨bh, oh + k * 2, none⟩ = some (.int .u64 (gps.getD k default).1) := HCh.out k hkl 0 _ rfl
          have f1 : w.cell? ⟨bh, oh + k * 2 + 1, none⟩ = some (.int .u64 (gps.getD k default).2) := HCh.out k hkl 1 _ rfl
          obtain ⟨x, hx⟩ : ∃ x, gps.getD k default = x := ⟨_, rfl⟩
          rw [hx] at e0 e1 f0 f1
          rw [← hcl] at e0 e1
          rw [← hcl'] at f0 f1
          obtain ⟨g1, g2⟩ := x
          simp only at e0 e1 f0 f1
          have HBz := HB2
          clear hx hcl hcl' hne hq hq' hb1 hb2 HB
          go_wp2_with fail
          go_quiet (fail)
          go_wp2
          go_roundw
          case rel => exact ⟨k + 1, by omega, by simp, Lib.hid (below_drewN HBz.out _)⟩
          case measure => simp [intOf]; omega
        · have hke : k = gps.length := by omega
          subst hke
          go_wp2_with fail
          go_ret
          exact ⟨rfl, then_ HB0.out HB2.out⟩
end Go.Proofs.Ytnolpglgabemfaa.Gm
set_option linter.unusedSimpArgs false
set_option linter.unusedVariables false
namespace Go.Proofs.Ytnolpglgabemfaa.Gm
open Go Go.RowKit

theorem room_of {x : Ev} (h : WfEs x) : Room x.2 := room_wf h
theorem fits_cz {c : Cn} (h : WfCzs (toCz c)) : FitsCn c := by
  have h2 : WfCts c.op.toNat (c.v, c.set) := h.2
  unfold WfCts at h2
  have hd : FitsI (default : Vl).n := ⟨by decide, by decide⟩
  by_cases e9 : c.op.toNat = 9
  · rw [if_pos e9] at h2
    obtain ⟨h3, _, h4⟩ := h2
    exact ⟨by rw [show c.v = default from h3]; exact hd, fun v hv => wfv_fits (h4 v hv).1⟩
  · rw [if_neg e9] at h2
    by_cases e1 : c.op.toNat = 1
    · rw [if_pos e1] at h2
      simp only [Prod.mk.injEq] at h2
      exact ⟨by rw [h2.1]; exact hd, fun v hv => by rw [h2.2] at hv; cases hv⟩
    · rw [if_neg e1] at h2
      exact ⟨wfv_fits h2.1.1, fun v hv => by rw [show c.set = [] from h2.2] at hv; cases hv⟩
theorem fits_pz {l : List Cn} (h : WfPzs (toPz l)) : FitsP l := fun c hc => fits_cz (h.2 _ (List.mem_map_of_mem hc))
abbrev tkP : List UInt8 → Option Pz := takeR pzS mayPz
abbrev tkI : List UInt8 → Option It := takeR itS mayI
abbrev tkG : List UInt8 → Option Pg := takeR pgS mayPg
theorem putr_yes {B : List UInt8} {w w' : World} {e : Ending} (h : PutR (some B) w e w') : ∃ v, e = .returned (.tuple #[v, .int .i64 0]) ∧ OwnB w' w.heap.size v B ∧ Below w.heap.size w w' := h
theorem takeE_none {α : Type} {rd : Rd α} {may : α → Bool} {V : α → Value → World → Prop} {zero : Value} {L : List UInt8} {w w' : World} {e : Ending} (h : TakeE rd may V zero L w e w') (hn : takeR rd may L = none) : e = .returned (.tuple #[zero, .int .i64 5]) ∧ Below w.heap.size w w' := by
  obtain ⟨h1, h2⟩ := h
  rw [hn] at h1
  exact ⟨h1, h2⟩
section
variable {L : List UInt8} {w w' : World} {e : Ending}
/-- What a Take leaves, whatever it answers. -/
theorem tke_e (h : TakeE eS (fun x : Ev => mayE x.1 x.2) (EvR w.heap.size) (.agg #[.string ⟨#[]⟩, .slice none 0 0]) L w e w') : ∃ (key : ByteArray) (p : Option Addr) (n cap : Nat) (E : Int), e = .returned (.tuple #[.agg #[.string key, .slice p n cap], .int .i64 E]) ∧ Below w.heap.size w w' ∧ ((E = 0 ∧ ∃ l, tkE L = some (key, l) ∧ n = l.length ∧ w'.ownsRow w.heap.size 81 5 (.slice p n cap) n (l.flatMap encA)) ∨ (E = 5 ∧ tkE L = none)) := by
  obtain ⟨h1, h2⟩ := h
  cases hr : tkE L with
  | none =>
    rw [show takeR eS (fun x : Ev => mayE x.1 x.2) L = none from hr] at h1
    exact ⟨_, _, _, _, 5, h1, h2, .inr ⟨rfl, rfl⟩⟩
  | some x =>
    rw [show takeR eS (fun x : Ev => mayE x.1 x.2) L = some x from hr] at h1
    obtain ⟨v, h3, p, cap, rfl, ho⟩ := h1
    exact ⟨_, _, _, _, 0, h3, h2, .inl ⟨rfl, x.2, rfl, rfl, ho⟩⟩
theorem tke_p (h : TakeE pzS mayPz (PrR w.heap.size) (.slice none 0 0) L w e w') : ∃ (p : Option Addr) (n cap : Nat) (E : Int), e = .returned (.tuple #[.slice p n cap, .int .i64 E]) ∧ Below w.heap.size w w' ∧ ((E = 0 ∧ ∃ cs : List Cn, tkP L = some (toPz cs) ∧ n = cs.length ∧ w'.ownsRow w.heap.size 99 7 (.slice p n cap) n (cs.flatMap encC) ∧ ∀ c ∈ cs, invC w' w.heap.size c) ∨ (E = 5 ∧ tkP L = none)) := by
  obtain ⟨h1, h2⟩ := h
  cases hr : tkP L with
  | none =>
    rw [show takeR pzS mayPz L = none from hr] at h1
    exact ⟨_, _, _, 5, h1, h2, .inr ⟨rfl, rfl⟩⟩
  | some x =>
    rw [show takeR pzS mayPz L = some x from hr] at h1
    obtain ⟨v, h3, cs, rfl, ho, hi⟩ := h1
    obtain ⟨p, cap, rfl⟩ := own_shape ho
    exact ⟨_, _, _, 0, h3, h2, .inl ⟨rfl, cs, rfl, rfl, ho, hi⟩⟩
theorem tke_i (h : TakeE itS mayI (ItR w.heap.size) (.agg #[.int .u64 0, .int .u64 0, .string ⟨#[]⟩, .slice none 0 0]) L w e w') : ∃ (N T : Nat) (key : ByteArray) (p : Option Addr) (n cap : Nat) (E : Int), e = .returned (.tuple #[.agg #[.int .u64 N, .int .u64 T, .string key, .slice p n cap], .int .i64 E]) ∧ Below w.heap.size w w' ∧ ((E = 0 ∧ ∃ l, tkI L = some (N, T, key, l) ∧ n = l.length ∧ w'.ownsRow w.heap.size 81 5 (.slice p n cap) n (l.flatMap encA)) ∨ (E = 5 ∧ tkI L = none)) := by
  obtain ⟨h1, h2⟩ := h
  cases hr : tkI L with
  | none =>
    rw [show takeR itS mayI L = none from hr] at h1
    exact ⟨0, 0, _, _, _, _, 5, h1, h2, .inr ⟨rfl, rfl⟩⟩
  | some x =>
    rw [show takeR itS mayI L = some x from hr] at h1
    obtain ⟨v, h3, c, rfl, rfl, ho⟩ := h1
    exact ⟨_, _, _, _, _, _, 0, h3, h2, .inl ⟨rfl, c.at_, rfl, rfl, ho⟩⟩
theorem tke_g (h : TakeE pgS mayPg (PgR w.heap.size) (.agg #[.int .u64 0, .int .u64 0, .slice none 0 0, .slice none 0 0, .bool false]) L w e w') : ∃ (c : Pm) (E : Int), e = .returned (.tuple #[pp c, .int .i64 E]) ∧ Below w.heap.size w w' ∧ ((E = 0 ∧ tkG L = some (toPg c) ∧ w'.ownsRow w.heap.size 51 4 c.iv c.its.length (c.its.flatMap encI) ∧ (∀ x ∈ c.its, invI w' w.heap.size x) ∧ w'.ownsRow w.heap.size 83 2 c.gv c.gps.length (c.gps.flatMap encG)) ∨ (E = 5 ∧ tkG L = none ∧ c = ⟨0, 0, none, 0, [], none, 0, [], false⟩)) := by
  obtain ⟨h1, h2⟩ := h
  cases hr : tkG L with
  | none =>
    rw [show takeR pgS mayPg L = none from hr] at h1
    exact ⟨⟨0, 0, none, 0, [], none, 0, [], false⟩, 5, h1, h2, .inr ⟨rfl, rfl, rfl⟩⟩
  | some x =>
    rw [show takeR pgS mayPg L = some x from hr] at h1
    obtain ⟨v, h3, c, rfl, rfl, ho, hi, hg⟩ := h1
    exact ⟨c, 0, h3, h2, .inl ⟨rfl, rfl, ho, hi, hg⟩⟩
end
/-- What is taken of bytes, put again. -/
theorem again_e {L : List UInt8} {key : ByteArray} {l : List Attr} (h : tkE L = some (key, l)) : putE (key, l) = some L ∧ Room l ∧ l.length ≤ 8 := by
  obtain ⟨h1, h2, h3⟩ := take_is codec_es h
  refine ⟨?_, room_wf h1, h1.2.1⟩
  unfold putE
  rw [if_pos h2, h3]
theorem again_i {L : List UInt8} {N T : Nat} {key : ByteArray} {l : List Attr} (h : tkI L = some (N, T, key, l)) : putI (N, T, key, l) = some L ∧ Room l ∧ l.length ≤ 8 := by
  obtain ⟨h1, h2, h3⟩ := take_is codec_is h
  refine ⟨?_, room_wf h1.2.2, h1.2.2.2.1⟩
  unfold putI
  rw [if_pos h2, h3]
theorem again_p {L : List UInt8} {cs : List Cn} {w : World} {base : Nat} (h : tkP L = some (toPz cs)) (hi : ∀ c ∈ cs, invC w base c) : putP cs = some L ∧ FitsP cs ∧ WfPzs (cs.map toCz) := by
  obtain ⟨h1, h2, h3⟩ := take_is codec_pzs h
  refine ⟨?_, fits_pz h1, h1⟩
  have h4 : mayPr cs = true := by rw [← mayPz_of fun c hc => (hi c hc).2]; exact h2
  unfold putP
  rw [if_pos h4, h3]
theorem again_g {L : List UInt8} {c : Pm} (h : tkG L = some (toPg c)) : putG c = some L ∧ WfPgs (toPg c) := by
  obtain ⟨h1, h2, h3⟩ := take_is codec_pgs h
  refine ⟨?_, h1⟩
  unfold putG
  rw [if_pos h2, h3]
theorem at_wrap {n m : Nat} (h : n < 65536) (hm : m ≤ 140737488355328) : wrap64 (n : Int) = (n : Int) ∧ wrap64 ((m : Int) + 1) = (m : Int) + 1 ∧ ((n : Int).tmod ((m : Int) + 1)) = ((n % (m + 1) : Nat) : Int) := by
  refine ⟨by unfold wrap64; omega, by unfold wrap64; omega, ?_⟩
  rw [show ((m : Int) + 1) = ((m + 1 : Nat) : Int) by omega]
  rfl

theorem formS_short {s : ByteArray} (h : s.size ≤ 32) : (formS s).length = s.size + 1 := by
  unfold formS
  rw [List.length_append, formN_lt (by omega)]
  have : s.data.toList.length = s.size := rfl
  rw [this, List.length_singleton]
  omega
theorem formVl_short {v : Vl} (h : WfV v) : (formVl v).length ≤ 34 := by
  unfold formVl formVt
  rw [List.length_append]
  rcases h with rfl | ⟨h1, h2, _, _⟩ | ⟨h1, _, h3, _⟩ | ⟨h1, _, _⟩
  · simp [formN_lt]
  · rw [if_pos h1, h1]
    have := formN_le (n := foldI v.n) (fold_lt h2.1 h2.2)
    rw [show formN (1 : Int).toNat = [1] from formN_lt (n := 1) (by decide), List.length_singleton]
    omega
  · rw [if_neg (by omega), if_pos h1, h1, formS_short h3]
    rw [show formN (2 : Int).toNat = [2] from formN_lt (n := 2) (by decide), List.length_singleton]
    omega
  · rw [if_neg (by omega), if_neg (by omega), if_pos h1, h1]
    have : (formN (bN v.b)).length = 1 := by cases v.b <;> (unfold bN; rw [formN_lt (by decide)]; rfl)
    rw [this, show formN (3 : Int).toNat = [3] from formN_lt (n := 3) (by decide), List.length_singleton]
    omega
theorem formE_512 {e : Ev} (h : WfE e) : (formE e).length ≤ 512 := by
  obtain ⟨h1, h2, h3⟩ := h
  have a := formS_short (s := e.1) (by omega)
  have c := flat_len (f := formA) (n := 51) e.2 (fun x hx => by
    obtain ⟨q1, q2⟩ := h3 x hx
    unfold formA
    have b1 := formS_short (s := x.nm) (by omega)
    have b2 := formVl_short (v := aV x) q2
    rw [List.length_append]; omega)
  unfold formE
  rw [List.length_append, List.length_append, formN_lt (n := e.2.length) (by omega), List.length_singleton]
  omega
theorem put_no {x : Ev} (h : putE x = none) : mayE x.1 x.2 = false := by
  unfold putE at h
  cases hm : mayE x.1 x.2 with
  | false => rfl
  | true => rw [if_pos hm] at h; cases h
theorem back_e {x : Ev} {F : List UInt8} (h : putE x = some F) (hR : Room x.2) : mayE x.1 x.2 = true ∧ tkE F = some x ∧ F.length ≤ 512 := by
  obtain ⟨h1, h2⟩ := putE_some (x := x) (by rw [h]; rfl)
  rw [h] at h2
  obtain rfl : F = formE x := h2
  have hf := fun a ha => (hR a ha).1
  exact ⟨h1, take_of codec_es (mayE_wfs h1 hf) h1, formE_512 (may_wfe h1 hf).1⟩
theorem putI_no {x : It} (h : putI x = none) : mayI x = false := by
  unfold putI at h
  cases hm : mayI x with
  | false => rfl
  | true => rw [if_pos hm] at h; cases h
theorem mayI_wfs {x : It} (h : mayI x = true) (hr : ∀ a ∈ x.2.2.2, FitsI a.n) : WfIs x := by
  have h2 := (may_wfi h hr).1
  simp only [mayI, Bool.and_eq_true, decide_eq_true_eq] at h
  exact ⟨h2.1, h2.2.1, mayE_wfs (e := x.2.2) h.2 hr⟩
theorem back_i {x : It} {F : List UInt8} (h : putI x = some F) (hR : Room x.2.2.2) : mayI x = true ∧ tkI F = some x ∧ F.length ≤ 720 := by
  have hf := fun a ha => (hR a ha).1
  unfold putI at h
  cases hm : mayI x with
  | false => rw [if_neg (by rw [hm]; decide)] at h; cases h
  | true =>
    rw [if_pos hm] at h
    simp only [Option.some.injEq] at h
    subst h
    exact ⟨rfl, take_of codec_is (mayI_wfs hm hf) hm, formI_len (may_wfi hm hf).1⟩
theorem putP_no {l : List Cn} (h : putP l = none) : mayPr l = false := by
  unfold putP at h
  cases hm : mayPr l with
  | false => rfl
  | true => rw [if_pos hm] at h; cases h
theorem back_p {l : List Cn} {F : List UInt8} (h : putP l = some F) (hF : FitsP l) : mayPr l = true ∧ tkP F = some (toPz l) ∧ F.length ≤ 3000 := by
  obtain ⟨h1, h2⟩ := putP_some (l := l) (by rw [h]; rfl)
  rw [h] at h2
  obtain rfl : F = formPz (toPz l) := h2
  obtain ⟨h3, h4⟩ := mayP_wfs h1 hF
  exact ⟨h1, take_of codec_pzs h3 (by rw [toPz, mayPz_of h4]; exact h1), formPz_len (may_wfp h1 hF).1⟩
theorem putG_no {p : Pm} (h : putG p = none) : mayPg (toPg p) = false := by
  unfold putG at h
  cases hm : mayPg (toPg p) with
  | false => rfl
  | true => rw [if_pos hm] at h; cases h
theorem back_g {p : Pm} {F : List UInt8} (h : putG p = some F) (hr : ∀ x ∈ p.its, Room x.at_) : mayPg (toPg p) = true ∧ tkG F = some (toPg p) ∧ F.length ≤ 4000 := by
  unfold putG at h
  cases hm : mayPg (toPg p) with
  | false => rw [if_neg (by rw [hm]; decide)] at h; cases h
  | true =>
    rw [if_pos hm] at h
    simp only [Option.some.injEq] at h
    subst h
    have hr2 : ∀ x ∈ (toPg p).2.2.1, ∀ a ∈ x.2.2.2, FitsI a.n := fun x hx a ha => by
      obtain ⟨y, hy, rfl⟩ := List.mem_map.1 hx
      exact (hr y hy a ha).1
    obtain ⟨h1, h2⟩ := may_wfg hm hr2
    refine ⟨rfl, take_of codec_pgs ⟨h1.1, h1.2.1, ⟨h1.2.2.1.1, fun x hx => mayI_wfs (h2 x hx).1 (hr2 x hx)⟩, ⟨h1.2.2.2.1.1, fun x hx => ⟨by have := (h1.2.2.2.1.2 x hx).1; omega, by have := (h1.2.2.2.1.2 x hx).2; omega⟩⟩, trivial⟩ hm, formPg_len h1⟩
end Go.Proofs.Ytnolpglgabemfaa.Gm
set_option linter.unusedSimpArgs false
set_option linter.unusedVariables false
namespace Go.Proofs.Ytnolpglgabemfaa.Gm
open Go Go.RowKit
attribute [local go_sem ↓] Go.wp_at_zero Go.wp_at_succ

theorem len_of {α : Type} {o : Option (List UInt8)} (h : ∀ F, o = some F → F.length ≤ 140737488355328) : (o.getD []).length ≤ 140737488355328 := by
  cases o with
  | none => simp
  | some F => exact h F rfl
theorem err_no {o : Option (List UInt8)} {e1 : Int} {F : List UInt8} {N : Nat} (h : (if o.isSome then (0 : Int) else 30) = e1 ∧ o.getD [] = F ∧ F.length = N) (ho : o = none) : e1 = 30 ∧ N = 0 := by
  obtain ⟨h1, h2, h3⟩ := h
  subst ho
  simp only [Option.isSome_none, Bool.false_eq_true, reduceIte, Option.getD_none] at h1 h2
  subst h1 h2
  exact ⟨rfl, h3.symm⟩
theorem err_yes {o : Option (List UInt8)} {e1 : Int} {F F' : List UInt8} {N : Nat} (h : (if o.isSome then (0 : Int) else 30) = e1 ∧ o.getD [] = F ∧ F.length = N) (ho : o = some F') : e1 = 0 ∧ F = F' ∧ N = F'.length := by
  obtain ⟨h1, h2, h3⟩ := h
  subst ho
  simp only [Option.isSome_some, reduceIte, Option.getD_some] at h1 h2
  subst h1 h2
  exact ⟨rfl, rfl, h3.symm⟩
set_option maxHeartbeats 16000000 in
set_option maxRecDepth 20000 in
theorem law_cback (key : ByteArray) (u : Value) (l : List Attr) (v1 : Value) (l1 : List Cn) (n t : Nat) (kx : ByteArray) (ap : Option Addr) (ac : Nat) (at_ : List Attr) (g : Pm) (w : World) (hS : Sl w u l) (hR : Room l) (hC : Cs w v1 l1) (hF : FitsP l1) (hxS : Sl w (.slice ap at_.length ac) at_) (hxR : Room at_) (hG : PgIn w g) : Calls Try.prog 6 #[.agg #[.string key, u], v1, .agg #[.int .u64 n, .int .u64 t, .string kx, .slice ap at_.length ac], pp g] w (Gives (.bool true) w) := by
  obtain ⟨p4, c4, _, _, rfl, _⟩ := id hS
  obtain ⟨p1, c1, rfl⟩ := hC.1.form
  have HPe := Lib.hid (fun W (h : Below w.heap.size w W) => pe_any key (.slice p4 l.length c4) l W (hS.below h) hR)
  have HMe := Lib.hid (fun W (h : Below w.heap.size w W) => emay_any key (.slice p4 l.length c4) l W (hS.below h) hR)
  have HSe := Lib.hid (fun W (h : Below w.heap.size w W) => hS.below h)
  have HPp := Lib.hid (fun W (h : Below w.heap.size w W) => pp_any (.slice p1 l1.length c1) l1 W (hC.later h) hF)
  have HMp := Lib.hid (fun W (h : Below w.heap.size w W) => maypred_any (.slice p1 l1.length c1) l1 W (hC.later h))
  have HSp := Lib.hid (fun W (h : Below w.heap.size w W) => hC.later h)
  have HPi := Lib.hid (fun W (h : Below w.heap.size w W) => pi_any n t kx (.slice ap at_.length ac) at_ W (hxS.below h) hxR)
  have HMi := Lib.hid (fun W (h : Below w.heap.size w W) => mc_item n t kx (.slice ap at_.length ac) at_ W (hxS.below h) hxR)
  have HSi := Lib.hid (fun W (h : Below w.heap.size w W) => hxS.below h)
  have HPg := Lib.hid (fun W (h : Below w.heap.size w W) => pg_any g W (hG.later h))
  have HMg := Lib.hid (fun W (h : Below w.heap.size w W) => mc_page g W (hG.later h))
  have HSg := Lib.hid (fun W (h : Below w.heap.size w W) => hG.later h)
  have HRg := Lib.hid (fun x (hx : x ∈ g.its) => (hG.1.2.2 x hx).2.1)
  have HR := Lib.hid hR
  have HF := Lib.hid hF
  have HxR := Lib.hid hxR
  clear hS hR hC hF hxS hxR hG
  obtain ⟨W0, hW0⟩ : ∃ W0, (((w.alloc (.cells #[.string key, .slice p4 l.length c4] 24)).alloc (.cells #[.int .u64 n, .int .u64 t, .string kx, .slice ap at_.length ac] 51)).alloc (.cells #[.int .u64 g.fr, .int .u64 g.en, .slice g.ip g.its.length g.ic, .slice g.gp g.gps.length g.gc, .bool g.last] 64)) = W0 := ⟨_, rfl⟩
  have HB0 : Hid (Below w.heap.size w W0) := Lib.hid (by rw [← hW0]; exact below_two (below_two (below_one w _)))
  have HX4 : Hid (Blk W0 w.heap.size 24 #[.string key, .slice p4 l.length c4]) := Lib.hid (by rw [← hW0]; exact ((Blk.new w 24 _).alloc _).alloc _)
  have HX6 : Hid (Blk W0 (w.heap.size + 1) 51 #[.int .u64 n, .int .u64 t, .string kx, .slice ap at_.length ac]) := Lib.hid (by rw [← hW0]; have h := (Blk.new (w.alloc (.cells #[.string key, .slice p4 l.length c4] 24)) 51 #[.int .u64 n, .int .u64 t, .string kx, .slice ap at_.length ac]).alloc (.cells #[.int .u64 g.fr, .int .u64 g.en, .slice g.ip g.its.length g.ic, .slice g.gp g.gps.length g.gc, .bool g.last] 64); simpa using h)
  have HX7 : Hid (Blk W0 (w.heap.size + 1 + 1) 64 #[.int .u64 g.fr, .int .u64 g.en, .slice g.ip g.its.length g.ic, .slice g.gp g.gps.length g.gc, .bool g.last]) := Lib.hid (by rw [← hW0]; have h := Blk.new ((w.alloc (.cells #[.string key, .slice p4 l.length c4] 24)).alloc (.cells #[.int .u64 n, .int .u64 t, .string kx, .slice ap at_.length ac] 51)) 64 #[.int .u64 g.fr, .int .u64 g.en, .slice g.ip g.its.length g.ic, .slice g.gp g.gps.length g.gc, .bool g.last]; simpa using h)
  have HW0 := Lib.hid hW0
  clear hW0
  have HA0 := Lib.hid (Below.refl W0.heap.size W0)
  go_enter Try.func6, Try.ntmps6
  go_upto_region 1 with (fail)
  rw [HW0.out]
  have a0 := (HX4.out.later HA0.out).cell 0 rfl
  have a1 := (HX4.out.later HA0.out).cell 1 rfl
  go_wp2_with fail
  refine (HPe.out _ (then_ HB0.out HA0.out)).mono ?_; rintro e w1 ⟨va, rfl, hoa, ba⟩
  obtain ⟨e1, he1⟩ : ∃ e1 : Int, (if (putE (key, l)).isSome then 0 else 30) = e1 := ⟨_, rfl⟩
  rw [he1]
  have hlF := len_of (α := Unit) (o := putE (key, l)) (fun F hF => by have := (back_e hF HR.out).2.2; omega)
  obtain ⟨F, hF⟩ : ∃ F, (putE (key, l)).getD [] = F := ⟨_, rfl⟩
  rw [hF] at hoa hlF
  obtain ⟨qa, cca, rfl⟩ := hoa.form
  obtain ⟨N1, hN1⟩ : ∃ N, F.length = N := ⟨_, rfl⟩
  rw [hN1] at hoa ⊢
  have HO := Lib.hid hoa
  have HLF := Lib.hid hlF
  have Hput := Lib.hid (And.intro he1 (And.intro hF hN1))
  have HA1 := Lib.hid (then_ HA0.out ba)
  clear he1 hF hN1 hoa ba hlF a0 a1
  go_wp2_with fail
  refine (te_any (.slice qa N1 cca) F w1 HO.out.bs HLF.out).mono ?_; intro e w2 h
  obtain ⟨key2, p2, n2, cap2, E, rfl, b2, hE⟩ := tke_e h
  have HE := Lib.hid hE
  have HA2 := Lib.hid (below_two (o := .cells #[.string key2, .slice p2 n2 cap2] 24) (then_ HA1.out b2))
  have HX := Lib.hid (Blk.new w2 24 #[.string key2, .slice p2 n2 cap2])
  have HBe := Lib.hid (below_one w2 (.cells #[.string key2, .slice p2 n2 cap2] 24))
  clear h b2 hE HLF HO
  go_upto_region 3 with (fail)
  go_cut [65] from 29 to 65 (fun t wq => t = .bool false ∧ Below W0.heap.size W0 wq)
  case first =>
    cases hp : putE (key, l) with
    | none =>
      have hm := put_no hp
      obtain ⟨rfl, rfl⟩ := err_no Hput.out hp
      clear Hput HE
      have a0 := (HX4.out.later HA2.out).cell 0 rfl
      have a1 := (HX4.out.later HA2.out).cell 1 rfl
      go_wp2_with fail
      refine (HMe.out _ (then_ HB0.out HA2.out)).mono ?_; rintro e w3 ⟨rfl, b3⟩
      rw [hm]
      have HA3 := Lib.hid (then_ HA2.out b3)
      clear b3 a0 a1
      go_wp2_with fail
      go_meet
      exact ⟨rfl, HA3.out⟩
    | some F' =>
      obtain ⟨hm, htk, hbig⟩ := back_e hp HR.out
      obtain ⟨rfl, rfl, hN⟩ := err_yes Hput.out hp
      have hN2 : N1 ≤ 512 ∨ True := .inr trivial
      have hd1 : decide ((512 : Int) < (N1 : Int)) = false := by simp; omega
      have hd2 : decide (512 < N1) = false := by simp; omega
      have hd3 : ¬ (512 : Int) < (N1 : Int) := by omega
      have hd4 : ¬ 512 < N1 := by omega
      clear hN hN2 hbig Hput
      rcases HE.out with ⟨rfl, l2, h6, rfl, ho⟩ | ⟨_, h6⟩
      · skip
        have h7 := h6.symm.trans htk
        simp only [Option.some.injEq, Prod.mk.injEq] at h7
        obtain ⟨rfl, rfl⟩ := h7
        have hl8 := (again_e htk).2.2
        have HSa := Lib.hid (fun W (h1 : Below w2.heap.size w2 W) (h2 : Below w.heap.size w W) => by have h := qsame_any key2 key2 (.slice p2 l2.length cap2) (.slice p4 l2.length c4) l2 l2 W ((sl_own ho (by omega)).below h1) (HSe.out W h2); rwa [(sameB_iff _ _ _ _).2 ⟨rfl, rfl⟩] at h)
        clear ho h6
        clear HE
        have a0 := (HX4.out.later HA2.out).cell 0 rfl
        have a1 := (HX4.out.later HA2.out).cell 1 rfl
        go_wp2_with fail
        refine (HMe.out _ (then_ HB0.out HA2.out)).mono ?_; rintro e w3 ⟨rfl, b3⟩
        rw [hm]
        have HA3 := Lib.hid (then_ HA2.out b3)
        have HX3 := Lib.hid (HX.out.later b3)
        have HS3 := Lib.hid (HSa.out _ (then_ HBe.out b3) (then_ HB0.out HA3.out))
        clear b3 a0 a1
        have a0 := (HX4.out.later HA3.out).cell 0 rfl
        have a1 := (HX4.out.later HA3.out).cell 1 rfl
        have x0 := HX3.out.cell 0 rfl
        have x1 := HX3.out.cell 1 rfl
        go_wp2_with fail
        refine HS3.out.mono ?_; rintro e w4 ⟨rfl, b4⟩
        have HA4 := Lib.hid (then_ HA3.out b4)
        clear b4 HS3 a0 a1 x0 x1
        go_wp2_with fail
        go_meet
        exact ⟨rfl, HA4.out⟩
      · exact absurd (h6.symm.trans htk) (by simp)
  case rest =>
  obtain ⟨rfl, hcb⟩ := hcut
  have HAb := Lib.hid hcb
  clear hcb HE HA1 HA2 HBe Hput HX
  go_wp2_with fail
  refine (HPp.out _ (then_ HB0.out HAb.out)).mono ?_; rintro e w1 ⟨va, rfl, hoa, ba⟩
  obtain ⟨e1, he1⟩ : ∃ e1 : Int, (if (putP l1).isSome then 0 else 30) = e1 := ⟨_, rfl⟩
  rw [he1]
  have hlF := len_of (α := Unit) (o := putP l1) (fun F hF => by have := (back_p hF HF.out).2.2; omega)
  obtain ⟨F, hF⟩ : ∃ F, (putP l1).getD [] = F := ⟨_, rfl⟩
  rw [hF] at hoa hlF
  obtain ⟨qa, cca, rfl⟩ := hoa.form
  obtain ⟨N1, hN1⟩ : ∃ N, F.length = N := ⟨_, rfl⟩
  rw [hN1] at hoa ⊢
  have HO := Lib.hid hoa
  have HLF := Lib.hid hlF
  have Hput := Lib.hid (And.intro he1 (And.intro hF hN1))
  have HA1 := Lib.hid (then_ HAb.out ba)
  clear he1 hF hN1 hoa ba hlF
  go_wp2_with fail
  refine (tp_any (.slice qa N1 cca) F w1 HO.out.bs HLF.out).mono ?_; intro e w2 h
  obtain ⟨p2, n2, cap2, E, rfl, b2, hE⟩ := tke_p h
  have HE := Lib.hid hE
  have HA2 := Lib.hid (then_ HA1.out b2)
  have HBe := Lib.hid (Below.refl w2.heap.size w2)
  clear h b2 hE HLF HO
  go_upto_region 7 with (fail)
  go_cut [94] from 76 to 94 (fun t wq => t = .bool false ∧ Below W0.heap.size W0 wq)
  case first =>
    cases hp : putP l1 with
    | none =>
      have hm := putP_no hp
      obtain ⟨rfl, rfl⟩ := err_no Hput.out hp
      clear Hput HE
      go_wp2_with fail
      refine (HMp.out _ (then_ HB0.out HA2.out)).mono ?_; rintro e w3 ⟨rfl, b3⟩
      rw [hm]
      have HA3 := Lib.hid (then_ HA2.out b3)
      clear b3
      go_wp2_with fail
      go_meet
      exact ⟨rfl, HA3.out⟩
    | some F' =>
      obtain ⟨hm, htk, hbig⟩ := back_p hp HF.out
      obtain ⟨rfl, rfl, hN⟩ := err_yes Hput.out hp
      have hN2 : N1 ≤ 512 ∨ True := .inr trivial
      clear hN hN2 hbig Hput
      rcases HE.out with ⟨rfl, cs, h6, rfl, ho, hi⟩ | ⟨_, h6⟩
      · skip
        have h7 := h6.symm.trans htk
        simp only [Option.some.injEq] at h7
        have hwf := (take_is codec_pzs h6).1
        have hsm := (same_pz (fun c hc => (hi c hc).2) (mayP_wfs hm HF.out).2).1 h7
        have HSa := Lib.hid (fun W (h1 : Below w2.heap.size w2 W) (h2 : Below w.heap.size w W) => by have h := rsame_any (.slice p2 cs.length cap2) (.slice p1 l1.length c1) cs l1 W ((cs_own ho hi hwf).later h1) (HSp.out W h2); rwa [hsm] at h)
        clear ho h6 h7 hi hwf hsm
        clear HE
        go_wp2_with fail
        refine (HMp.out _ (then_ HB0.out HA2.out)).mono ?_; rintro e w3 ⟨rfl, b3⟩
        rw [hm]
        have HA3 := Lib.hid (then_ HA2.out b3)
        have HS3 := Lib.hid (HSa.out _ (then_ HBe.out b3) (then_ HB0.out HA3.out))
        clear b3
        go_wp2_with fail
        refine HS3.out.mono ?_; rintro e w4 ⟨rfl, b4⟩
        have HA4 := Lib.hid (then_ HA3.out b4)
        clear b4 HS3
        go_wp2_with fail
        go_meet
        exact ⟨rfl, HA4.out⟩
      · exact absurd (h6.symm.trans htk) (by simp)
  case rest =>
  obtain ⟨rfl, hcb⟩ := hcut
  have HAc := Lib.hid hcb
  clear hcb HE HA1 HA2 HBe Hput
  have a0 := (HX6.out.later HAc.out).cell 0 rfl
  have a1 := (HX6.out.later HAc.out).cell 1 rfl
  have a2 := (HX6.out.later HAc.out).cell 2 rfl
  have a3 := (HX6.out.later HAc.out).cell 3 rfl
  go_wp2_with fail
  refine (HPi.out _ (then_ HB0.out HAc.out)).mono ?_; rintro e w1 ⟨va, rfl, hoa, ba⟩
  obtain ⟨e1, he1⟩ : ∃ e1 : Int, (if (putI (n, t, kx, at_)).isSome then 0 else 30) = e1 := ⟨_, rfl⟩
  rw [he1]
  have hlF := len_of (α := Unit) (o := putI (n, t, kx, at_)) (fun F hF => by have := (back_i hF HxR.out).2.2; omega)
  obtain ⟨F, hF⟩ : ∃ F, (putI (n, t, kx, at_)).getD [] = F := ⟨_, rfl⟩
  rw [hF] at hoa hlF
  obtain ⟨qa, cca, rfl⟩ := hoa.form
  obtain ⟨N1, hN1⟩ : ∃ N, F.length = N := ⟨_, rfl⟩
  rw [hN1] at hoa ⊢
  have HO := Lib.hid hoa
  have HLF := Lib.hid hlF
  have Hput := Lib.hid (And.intro he1 (And.intro hF hN1))
  have HA1 := Lib.hid (then_ HAc.out ba)
  clear he1 hF hN1 hoa ba hlF a0 a1 a2 a3
  go_wp2_with fail
  refine (ti_any (.slice qa N1 cca) F w1 HO.out.bs HLF.out).mono ?_; intro e w2 h
  obtain ⟨M2, T2, key2, p2, n2, cap2, E, rfl, b2, hE⟩ := tke_i h
  have HE := Lib.hid hE
  have HA2 := Lib.hid (below_two (o := .cells #[.int .u64 M2, .int .u64 T2, .string key2, .slice p2 n2 cap2] 51) (then_ HA1.out b2))
  have HX := Lib.hid (Blk.new w2 51 #[.int .u64 M2, .int .u64 T2, .string key2, .slice p2 n2 cap2])
  have HBe := Lib.hid (below_one w2 (.cells #[.int .u64 M2, .int .u64 T2, .string key2, .slice p2 n2 cap2] 51))
  clear h b2 hE HLF HO
  go_upto_region 11 with (fail)
  go_cut [123] from 105 to 123 (fun t wq => t = .bool false ∧ Below W0.heap.size W0 wq)
  case first =>
    cases hp : putI (n, t, kx, at_) with
    | none =>
      have hm := putI_no hp
      obtain ⟨rfl, rfl⟩ := err_no Hput.out hp
      clear Hput HE
      have a0 := (HX6.out.later HA2.out).cell 0 rfl
      have a1 := (HX6.out.later HA2.out).cell 1 rfl
      have a2 := (HX6.out.later HA2.out).cell 2 rfl
      have a3 := (HX6.out.later HA2.out).cell 3 rfl
      go_wp2_with fail
      refine (HMi.out _ (then_ HB0.out HA2.out)).mono ?_; rintro e w3 ⟨rfl, b3⟩
      rw [hm]
      have HA3 := Lib.hid (then_ HA2.out b3)
      clear b3 a0 a1 a2 a3
      go_wp2_with fail
      go_meet
      exact ⟨rfl, HA3.out⟩
    | some F' =>
      obtain ⟨hm, htk, hbig⟩ := back_i hp HxR.out
      obtain ⟨rfl, rfl, hN⟩ := err_yes Hput.out hp
      have hN2 : N1 ≤ 512 ∨ True := .inr trivial
      clear hN hN2 hbig Hput
      rcases HE.out with ⟨rfl, l2, h6, rfl, ho⟩ | ⟨_, h6⟩
      · skip
        have h7 := h6.symm.trans htk
        simp only [Option.some.injEq, Prod.mk.injEq] at h7
        obtain ⟨rfl, rfl, rfl, rfl⟩ := h7
        have hl8 := (again_i htk).2.2
        have HSa := Lib.hid (fun W (h1 : Below w2.heap.size w2 W) (h2 : Below w.heap.size w W) => sitem_any M2 T2 key2 key2 (.slice p2 l2.length cap2) (.slice ap l2.length ac) l2 l2 W ((sl_own ho (by omega)).below h1) (HSi.out W h2) ((sameB_iff _ _ _ _).2 ⟨rfl, rfl⟩))
        clear ho h6
        clear HE
        have a0 := (HX6.out.later HA2.out).cell 0 rfl
        have a1 := (HX6.out.later HA2.out).cell 1 rfl
        have a2 := (HX6.out.later HA2.out).cell 2 rfl
        have a3 := (HX6.out.later HA2.out).cell 3 rfl
        go_wp2_with fail
        refine (HMi.out _ (then_ HB0.out HA2.out)).mono ?_; rintro e w3 ⟨rfl, b3⟩
        rw [hm]
        have HA3 := Lib.hid (then_ HA2.out b3)
        have HX3 := Lib.hid (HX.out.later b3)
        have HS3 := Lib.hid (HSa.out _ (then_ HBe.out b3) (then_ HB0.out HA3.out))
        clear b3 a0 a1 a2 a3
        have a0 := (HX6.out.later HA3.out).cell 0 rfl
        have a1 := (HX6.out.later HA3.out).cell 1 rfl
        have a2 := (HX6.out.later HA3.out).cell 2 rfl
        have a3 := (HX6.out.later HA3.out).cell 3 rfl
        have x0 := HX3.out.cell 0 rfl
        have x1 := HX3.out.cell 1 rfl
        have x2 := HX3.out.cell 2 rfl
        have x3 := HX3.out.cell 3 rfl
        go_wp2_with fail
        refine HS3.out.mono ?_; rintro e w4 ⟨rfl, b4⟩
        have HA4 := Lib.hid (then_ HA3.out b4)
        clear b4 HS3 a0 a1 a2 a3 x0 x1 x2 x3
        go_wp2_with fail
        go_meet
        exact ⟨rfl, HA4.out⟩
      · exact absurd (h6.symm.trans htk) (by simp)
  case rest =>
  obtain ⟨rfl, hcb⟩ := hcut
  have HAd := Lib.hid hcb
  clear hcb HE HA1 HA2 HBe Hput HX
  have a0 := (HX7.out.later HAd.out).cell 0 rfl
  have a1 := (HX7.out.later HAd.out).cell 1 rfl
  have a2 := (HX7.out.later HAd.out).cell 2 rfl
  have a3 := (HX7.out.later HAd.out).cell 3 rfl
  have a4 := (HX7.out.later HAd.out).cell 4 rfl
  go_wp2_with fail
  refine (HPg.out _ (then_ HB0.out HAd.out)).mono ?_; rintro e w1 ⟨va, rfl, hoa, ba⟩
  obtain ⟨e1, he1⟩ : ∃ e1 : Int, (if (putG g).isSome then 0 else 30) = e1 := ⟨_, rfl⟩
  rw [he1]
  have hlF := len_of (α := Unit) (o := putG g) (fun F hF => by have := (back_g hF HRg.out).2.2; omega)
  obtain ⟨F, hF⟩ : ∃ F, (putG g).getD [] = F := ⟨_, rfl⟩
  rw [hF] at hoa hlF
  obtain ⟨qa, cca, rfl⟩ := hoa.form
  obtain ⟨N1, hN1⟩ : ∃ N, F.length = N := ⟨_, rfl⟩
  rw [hN1] at hoa ⊢
  have HO := Lib.hid hoa
  have HLF := Lib.hid hlF
  have Hput := Lib.hid (And.intro he1 (And.intro hF hN1))
  have HA1 := Lib.hid (then_ HAd.out ba)
  clear he1 hF hN1 hoa ba hlF a0 a1 a2 a3 a4
  go_wp2_with fail
  refine (tg_any (.slice qa N1 cca) F w1 HO.out.bs HLF.out).mono ?_; intro e w2 h
  obtain ⟨c6, E, rfl, b2, hE⟩ := tke_g h
  have HE := Lib.hid hE
  have HA2 := Lib.hid (below_two (o := .cells #[.int .u64 c6.fr, .int .u64 c6.en, .slice c6.ip c6.its.length c6.ic, .slice c6.gp c6.gps.length c6.gc, .bool c6.last] 64) (then_ HA1.out b2))
  have HX := Lib.hid (Blk.new w2 64 #[.int .u64 c6.fr, .int .u64 c6.en, .slice c6.ip c6.its.length c6.ic, .slice c6.gp c6.gps.length c6.gc, .bool c6.last])
  have HBe := Lib.hid (below_one w2 (.cells #[.int .u64 c6.fr, .int .u64 c6.en, .slice c6.ip c6.its.length c6.ic, .slice c6.gp c6.gps.length c6.gc, .bool c6.last] 64))
  clear h b2 hE HLF HO
  cases hp : putG g with
  | none =>
    have hm := putG_no hp
    obtain ⟨rfl, rfl⟩ := err_no Hput.out hp
    clear Hput HE
    have a0 := (HX7.out.later HA2.out).cell 0 rfl
    have a1 := (HX7.out.later HA2.out).cell 1 rfl
    have a2 := (HX7.out.later HA2.out).cell 2 rfl
    have a3 := (HX7.out.later HA2.out).cell 3 rfl
    have a4 := (HX7.out.later HA2.out).cell 4 rfl
    go_wp2_with fail
    refine (HMg.out _ (then_ HB0.out HA2.out)).mono ?_; rintro e w3 ⟨rfl, b3⟩
    rw [hm]
    have HA3 := Lib.hid (then_ HA2.out b3)
    clear b3 a0 a1 a2 a3 a4
    go_wp2_with fail
    refine (wakes_any _).mono ?_; rintro e wz ⟨rfl, hbz⟩
    have HAz := Lib.hid (then_ HA3.out hbz)
    clear hbz
    go_wp2_with fail
    go_ret
    exact ⟨rfl, then_ HB0.out HAz.out⟩
  | some F' =>
    obtain ⟨hm, htk, hbig⟩ := back_g hp HRg.out
    obtain ⟨rfl, rfl, hN⟩ := err_yes Hput.out hp
    have hN2 : N1 ≤ 512 ∨ True := .inr trivial
    clear hN hN2 hbig Hput
    rcases HE.out with ⟨rfl, h6, ho, hi, hg⟩ | ⟨_, h6, _⟩
    · skip
      have h7 := h6.symm.trans htk
      simp only [Option.some.injEq] at h7
      have hwf := (take_is codec_pgs h6).1
      have HSa := Lib.hid (fun W (h1 : Below w2.heap.size w2 W) (h2 : Below w.heap.size w W) => spage_any c6 g W ((pgin_own ho hi hg hwf).later h1) (HSg.out W h2) h7)
      clear ho h6 h7 hi hg hwf
      clear HE
      have a0 := (HX7.out.later HA2.out).cell 0 rfl
      have a1 := (HX7.out.later HA2.out).cell 1 rfl
      have a2 := (HX7.out.later HA2.out).cell 2 rfl
      have a3 := (HX7.out.later HA2.out).cell 3 rfl
      have a4 := (HX7.out.later HA2.out).cell 4 rfl
      go_wp2_with fail
      refine (HMg.out _ (then_ HB0.out HA2.out)).mono ?_; rintro e w3 ⟨rfl, b3⟩
      rw [hm]
      have HA3 := Lib.hid (then_ HA2.out b3)
      have HX3 := Lib.hid (HX.out.later b3)
      have HS3 := Lib.hid (HSa.out _ (then_ HBe.out b3) (then_ HB0.out HA3.out))
      clear b3 a0 a1 a2 a3 a4
      have a0 := (HX7.out.later HA3.out).cell 0 rfl
      have a1 := (HX7.out.later HA3.out).cell 1 rfl
      have a2 := (HX7.out.later HA3.out).cell 2 rfl
      have a3 := (HX7.out.later HA3.out).cell 3 rfl
      have a4 := (HX7.out.later HA3.out).cell 4 rfl
      have x0 := HX3.out.cell 0 rfl
      have x1 := HX3.out.cell 1 rfl
      have x2 := HX3.out.cell 2 rfl
      have x3 := HX3.out.cell 3 rfl
      have x4 := HX3.out.cell 4 rfl
      go_wp2_with fail
      refine HS3.out.mono ?_; rintro e w4 ⟨rfl, b4⟩
      have HA4 := Lib.hid (then_ HA3.out b4)
      clear b4 HS3 a0 a1 a2 a3 a4 x0 x1 x2 x3 x4
      go_wp2_with fail
      refine (wakes_any _).mono ?_; rintro e wz ⟨rfl, hbz⟩
      have HAz := Lib.hid (then_ HA4.out hbz)
      clear hbz
      go_wp2_with fail
      go_ret
      exact ⟨rfl, then_ HB0.out HAz.out⟩
    · exact absurd (h6.symm.trans htk) (by simp)
end Go.Proofs.Ytnolpglgabemfaa.Gm
