/- The walk of EventMakes: for any key, any attributes, any two events, any name the statement's function returns true, and writes nothing that was there. -/
import Derived.Test.YtgjniopcaahgfaaDoorMr
import Derived.Test.YtgjniopcaahgfaaDoorAr
import Derived.Test.YtgjniopcaahgfaaDoorRg
import Derived.Test.YtgjniopcaahgfaaDoorLc
set_option linter.unusedSimpArgs false
set_option linter.unusedVariables false
namespace Go.Proofs.YtgjniopcaahgfaaDoor
open Go.RowKit
attribute [local go_sem ↓] Go.wp_at_zero Go.wp_at_succ
attribute [local go_sem ↓] run_neq_attr run_guard_attr run_eql_val run_guard_val

theorem eqA_self (x : Attr) : eqA x x = true := (eqA_iff x x).2 rfl
theorem getV_form (o : Option Attr) : ∃ (k n : Int) (s : ByteArray) (b is : Bool), getV o = .tuple #[val k n s b, .bool is] := by
  cases o with
  | none => exact ⟨_, _, _, _, _, rfl⟩
  | some a => exact ⟨_, _, _, _, _, rfl⟩
/-- What holds at a point of the walk: the two events lie where they were put; the attributes and their copy read as they did. -/
structure CtxM (w W : World) (k1 : ByteArray) (v1 : Value) (l1 : List Attr) (k2 : ByteArray) (v2 : Value) (l2 : List Attr) (v m : Value) (l : List Attr) : Prop where
  two : Ctx2 w W k1 v1 l1 k2 v2 l2
  sv : Sl W v l
  sm : Sl W m l
theorem CtxM.below {w W W' : World} {k1 : ByteArray} {v1 : Value} {l1 : List Attr} {k2 : ByteArray} {v2 : Value} {l2 : List Attr} {v m : Value} {l : List Attr} (h : CtxM w W k1 v1 l1 k2 v2 l2 v m l) (b : Below W.heap.size W W') : CtxM w W' k1 v1 l1 k2 v2 l2 v m l :=
  ⟨h.two.below b, h.sv.below b, h.sm.below b⟩
/-- What holds within the last question. -/
structure HoldM (w W : World) (v1 : Value) (l1 : List Attr) (v2 : Value) (l2 : List Attr) : Prop where
  bel : Below w.heap.size w W
  env : Env W
  s1 : Sl W v1 l1
  s2 : Sl W v2 l2
theorem HoldM.below {w W W' : World} {v1 : Value} {l1 : List Attr} {v2 : Value} {l2 : List Attr} (h : HoldM w W v1 l1 v2 l2) (b : Below W.heap.size W W') : HoldM w W' v1 l1 v2 l2 :=
  ⟨then_ h.bel b, h.env.below b, h.s1.below b, h.s2.below b⟩

theorem hold_s1 {w W : World} {v1 : Value} {l1 : List Attr} {v2 : Value} {l2 : List Attr} {p : Prop} (h : HoldM w W v1 l1 v2 l2 ∧ p) : Sl W v1 l1 := h.1.s1
theorem hold_s2 {w W : World} {v1 : Value} {l1 : List Attr} {v2 : Value} {l2 : List Attr} {p : Prop} (h : HoldM w W v1 l1 v2 l2 ∧ p) : Sl W v2 l2 := h.1.s2
theorem hold_env {w W : World} {v1 : Value} {l1 : List Attr} {v2 : Value} {l2 : List Attr} {p : Prop} (h : HoldM w W v1 l1 v2 l2 ∧ p) : Env W := h.1.env
theorem holdM_later {w W W' : World} {v1 : Value} {l1 : List Attr} {v2 : Value} {l2 : List Attr} {a1 a2 a3 a4 a5 a6 a7 a8 a9 a10 a11 a12 : Addr} {u1 u2 u3 u4 u5 u6 u7 u8 u9 u10 u11 u12 : Value} (h : HoldM w W v1 l1 v2 l2 ∧ W.cell? a1 = some u1 ∧ W.cell? a2 = some u2 ∧ W.cell? a3 = some u3 ∧ W.cell? a4 = some u4 ∧ W.cell? a5 = some u5 ∧ W.cell? a6 = some u6 ∧ W.cell? a7 = some u7 ∧ W.cell? a8 = some u8 ∧ W.cell? a9 = some u9 ∧ W.cell? a10 = some u10 ∧ W.cell? a11 = some u11 ∧ W.cell? a12 = some u12) (b : Below W.heap.size W W') : HoldM w W' v1 l1 v2 l2 ∧ W'.cell? a1 = some u1 ∧ W'.cell? a2 = some u2 ∧ W'.cell? a3 = some u3 ∧ W'.cell? a4 = some u4 ∧ W'.cell? a5 = some u5 ∧ W'.cell? a6 = some u6 ∧ W'.cell? a7 = some u7 ∧ W'.cell? a8 = some u8 ∧ W'.cell? a9 = some u9 ∧ W'.cell? a10 = some u10 ∧ W'.cell? a11 = some u11 ∧ W'.cell? a12 = some u12 := by
  obtain ⟨h0, h1, h2, h3, h4, h5, h6, h7, h8, h9, h10, h11, h12⟩ := h
  exact ⟨h0.below b, cell_later b h1, cell_later b h2, cell_later b h3, cell_later b h4, cell_later b h5, cell_later b h6, cell_later b h7, cell_later b h8, cell_later b h9, cell_later b h10, cell_later b h11, cell_later b h12⟩

/-- The names that may be written, as the loop goes. -/
def Wr (wr : World) (b o n : Nat) : Prop := ∀ i, i < n → ∃ u, wr.cell? ⟨b, o + i * 5, none⟩ = some u ∧ wr.frozen? ⟨b, o + i * 5, none⟩ = false
theorem wr_of_fr {w : World} {base : Nat} {p : Option Addr} {cap : Nat} {l : List Attr} (h : Fr w base (.slice p l.length cap) l) : ∃ b o, (l ≠ [] → p = some ⟨b, o, none⟩ ∧ base ≤ b ∧ b < w.heap.size) ∧ Wr w b o l.length := by
  obtain ⟨p', cap', b, o, h1, h2, h3, h4, h5⟩ := h
  simp only [Value.slice.injEq] at h1
  obtain ⟨rfl, _, rfl⟩ := h1
  refine ⟨b, o, h2, fun i hi => ⟨_, (five h3 hi).1, h4 (i * 5) (by omega)⟩⟩
theorem Wr.below {w w' : World} {b o n : Nat} (h : Wr w b o n) (hb : Below w.heap.size w w') (hlt : 0 < n → b < w.heap.size) : Wr w' b o n := fun i hi => by
  obtain ⟨u, h1, h2⟩ := h i hi
  have hl := hlt (by omega)
  exact ⟨u, (hb.cell (p := ⟨b, o + i * 5, none⟩) hl).trans h1, (hb.frozen (p := ⟨b, o + i * 5, none⟩) hl).trans h2⟩
theorem Wr.set {w : World} {b o n : Nat} (h : Wr w b o n) (j : Nat) (x : Value) : Wr (w.setCell ⟨b, j, none⟩ x) b o n := fun i hi => by
  obtain ⟨u, h1, h2⟩ := h i hi
  have hf : (w.setCell ⟨b, j, none⟩ x).frozen? ⟨b, o + i * 5, none⟩ = false := by rw [World.frozen?_setCell]; exact h2
  by_cases e : (⟨b, j, none⟩ : Addr) = ⟨b, o + i * 5, none⟩
  · exact ⟨x, by rw [← e] at h1 ⊢; exact World.cell?_setCell_same w _ x h1, hf⟩
  · exact ⟨u, (World.cell?_setCell_other w _ _ x e).trans h1, hf⟩

set_option maxHeartbeats 8000000 in
set_option maxRecDepth 100000 in
theorem law_emakes (key : ByteArray) (v : Value) (l : List Attr) (k1 : ByteArray) (v1 : Value) (l1 : List Attr) (k2 : ByteArray) (v2 : Value) (l2 : List Attr) (name : ByteArray) (w : World) (hE : Env w)
    (hS : Sl w v l) (hR : Room l) (hcap : Capd v l) (hwid : l.length * 56 ≤ 140737488351232) (hS1 : Sl w v1 l1) (hR1 : Room l1) (hS2 : Sl w v2 l2) (hR2 : Room l2) (hn : name.size ≤ 140737488351232) :
    Calls Tryd.prog 3 #[.string key, v, .agg #[.string k1, v1], .agg #[.string k2, v2], .string name] w (Gives (.bool true) w) := by
  obtain ⟨i0, ii, iz0, iz1, iz2⟩ := info_parts info34
  obtain ⟨kx, lx, c, hM⟩ := makes_any key l hR
  have HM := Lib.hid hM
  have HN := Lib.hid hn
  have HR1 := Lib.hid hR1
  have HR2 := Lib.hid hR2
  have hw1 : l.length ≤ 2513169434843 := by omega
  have hx8 : lx.length ≤ 8 := hM.len
  have C0 : Ctx2 w ((w.alloc (.cells #[.string k1, v1] 24)).alloc (.cells #[.string k2, v2] 24)) k1 v1 l1 k2 v2 l2 := by
    have B2 : Below w.heap.size w ((w.alloc (.cells #[.string k1, v1] 24)).alloc (.cells #[.string k2, v2] 24)) := ((Below.refl _ w).alloc (Nat.le_refl _) _).alloc (by simp) _
    refine ⟨B2, hE.below B2, (Blk.new _ _ _).alloc _, ?_, hS1.below B2, hS2.below B2⟩
    have := Blk.new (w.alloc (.cells #[.string k1, v1] 24)) 24 #[.string k2, v2]
    simpa using this
  have hSv := hS.below C0.bel
  have HSrc := Lib.hid (src_all hSv hcap)
  obtain ⟨pv, capv, rfl⟩ := sl_form hS
  obtain ⟨p1, cap1, rfl⟩ := sl_form hS1
  obtain ⟨p2, cap2, rfl⟩ := sl_form hS2
  have HC0 := Lib.hid C0
  have HSv := Lib.hid hSv
  clear hM hR hwid hE hS hS1 hS2 hR1 hR2 hn C0 hSv hcap
  go_enter Tryd.func3, Tryd.ntmps3
  go_wp2_with (at_builtin; refine wpList_append_src rfl _ _ 22 rfl (w.heap.size + 2) 34 i0 (.agg #[.string ⟨#[]⟩, .int .i64 0, .int .i64 0, .string ⟨#[]⟩, .bool false]) 5 56 Tryd.underlying22 ii iz0 iz1 iz2 rfl (by decide) (.slice none 0 0) 0 [] rfl (World.ownsRow_nil _ _ _ _) _ l.length (cellsA l) rfl HSrc.out l.length (by omega) (by unfold maxLen; omega) (by omega) (by simp) ?_; intro pA capA w3 hown hgrow; rw [List.nil_append] at hown; have HO3 := Lib.hid hown; have HB3 := Lib.hid ((Below.refl _ ((w.alloc (.cells #[.string k1, .slice p1 l1.length cap1] 24)).alloc (.cells #[.string k2, .slice p2 l2.length cap2] 24))).grown hgrow (Nat.le_refl _) (fun j hj => by simp [Value.ownBlock] at hj)); clear hown hgrow)
  have HOm : Own w3 (w.heap.size + 2) (.slice pA l.length capA) l := HO3.out
  have HC3 := Lib.hid (CtxM.mk (HC0.out.below HB3.out) (HSv.out.below HB3.out) (HOm.sl (by omega)))
  clear HO3 HB3 HOm HC0 HSv HSrc
  go_wp2_with fail
  refine (HM.out.one _ l _ (.refl _) HC3.out.sm).mono ?_; rintro e w4 ⟨sl0, rfl, hfr, b4⟩
  obtain ⟨p0, cap0, rfl⟩ := sl_form hfr.sl
  obtain ⟨b, o, hpb, hwr⟩ := wr_of_fr hfr
  have hS4 := hfr.sl
  have A4 := (Below.refl _ w4).alloc (Nat.le_refl _) (.cells #[.string kx, .slice p0 lx.length cap0] 24)
  have HX := Lib.hid (Blk.new w4 24 #[.string kx, .slice p0 lx.length cap0])
  have hblt : 0 < lx.length → b < w4.heap.size := fun h => (hpb (by rintro rfl; simp at h)).2.2
  have HW4 := Lib.hid (hwr.below A4 hblt)
  have HS4 := Lib.hid (hS4.below A4)
  have HB4 := Lib.hid (then_ b4 A4)
  have HP := Lib.hid hpb
  have z4 : w3.heap.size ≤ w4.heap.size := b4.size
  clear hfr hwr hS4 A4 b4 hpb hblt
  go_wp2_with fail
  refine (HM.out.two _ _ (HC3.out.below HB4.out).sv).mono ?_; rintro e w5 ⟨sl5, rfl, hS5, b5⟩
  obtain ⟨p5, cap5, rfl⟩ := sl_form hS5
  have A5 := (Below.refl _ w5).alloc (Nat.le_refl _) (.cells #[.string kx, .slice p5 lx.length cap5] 24)
  have B5 := then_ b5 A5
  have HX5 := Lib.hid (HX.out.below B5 HX.out.lt)
  have x0 := HX.out.below b5 HX.out.lt
  have x1 := x0.cell 1 (u := .slice p0 lx.length cap0) rfl
  have x2 := x0.cell 0 (u := .string kx) rfl
  have x3 := x0.lt
  have HW5 := Lib.hid (HW4.out.below B5 (fun h => by have := (HP.out (by rintro rfl; simp at h)).2.2; simp; omega))
  have HS5x := Lib.hid (HS4.out.below B5)
  have HS5y := Lib.hid (hS5.below A5)
  have HB5 := Lib.hid (then_ HB4.out B5)
  have z5 : w4.heap.size < w5.heap.size := x3
  clear x0 A5 B5 b5 hS5 HX HW4 HS4 HB4
  go_wp2_with fail
  have hs6 := rsame_any kx kx _ _ lx lx _ HS5x.out HS5y.out
  rw [(sameB_iff kx lx kx lx).2 ⟨rfl, rfl⟩] at hs6
  refine hs6.mono ?_; rintro e w6 ⟨rfl, b6⟩
  have HX6 := Lib.hid (HX5.out.below b6 HX5.out.lt)
  have HW6 := Lib.hid (HW5.out.below b6 (fun h => by have := (HP.out (by rintro rfl; simp at h)).2.2; simp; omega))
  have HB6 := Lib.hid (then_ HB5.out b6)
  have z6 : w5.heap.size < w6.heap.size := Nat.lt_of_lt_of_le (by simp) b6.size
  clear hs6 b6 HX5 HW5 HB5 HS5x HS5y x1 x2 x3
  go_wp2_with fail
  go_loopw [16] (fun iv wr => ∃ k : Nat, k ≤ lx.length ∧ iv = .int .i64 k ∧ Wr wr b o lx.length ∧ Below w3.heap.size w3 wr ∧ Blk wr w4.heap.size 24 #[.string kx, .slice p0 lx.length cap0] ∧ w6.heap.size ≤ wr.heap.size) (fun iv _ => lx.length - (intOf iv).toNat)
  case atStart => exact ⟨0, Nat.zero_le _, rfl, HW6.out, HB6.out, HX6.out, Nat.le_refl _⟩
  case round =>
    obtain ⟨k, hk, rfl, hW, hB, hX, hsz⟩ := hrel
    have q1 := hX.cell 1 (u := .slice p0 lx.length cap0) rfl
    have HBr := Lib.hid hB
    have HXr := Lib.hid hX
    have HWr := Lib.hid hW
    by_cases hkl : k < lx.length
    · have hne : lx ≠ [] := by rintro rfl; simp at hkl
      obtain ⟨hp', hb1, hb2⟩ := HP.out hne
      have hidx := index_attr p0 b o lx.length cap0 k hp' hkl
      obtain ⟨u, hu1, hu2⟩ := hW k hkl
      clear hW hB hX hne hp'
      go_wp2_with fail
      go_roundw
      case rel => exact ⟨k + 1, by omega, by simp, HWr.out.set _ _, HBr.out.setCell (p := ⟨b, o + k * 5, none⟩) hb1 _, HXr.out.other (by omega) _, by simpa using hsz⟩
      case measure => simp [intOf]; omega
    · obtain ⟨wo, rfl⟩ : ∃ wo : World, wo = wr := ⟨_, rfl⟩
      have HC6 := Lib.hid (HC3.out.below hB)
      obtain ⟨_, _, bm, om, hvm, hpm, hCm, _⟩ := HC6.out.sm
      obtain ⟨_, _, bv, ov, hvv, hpv, hCv, _⟩ := HC6.out.sv
      simp only [Value.slice.injEq] at hvm hvv
      obtain ⟨rfl, _, rfl⟩ := hvm
      obtain ⟨rfl, _, rfl⟩ := hvv
      have HCm := Lib.hid hCm
      have HCv := Lib.hid hCv
      have HPm := Lib.hid hpm
      have HPv := Lib.hid hpv
      clear hCm hCv hpm hpv hW hB hX HW6 HB6 HX6 HC3 HWr HBr HXr HP HM
      go_wp2_with fail
      go_loopw [17] (fun iv wq => ∃ k m : Nat, k ≤ l.length ∧ iv = .int .i64 k ∧ wq = wo.drewN m) (fun iv _ => l.length - (intOf iv).toNat)
      case atStart => exact ⟨0, 0, Nat.zero_le _, rfl, rfl⟩
      case round =>
        obtain ⟨k, m, hk, rfl, rfl⟩ := hrel
        by_cases hkl : k < l.length
        · have hne : l ≠ [] := by rintro rfl; simp at hkl
          obtain ⟨hq, _⟩ := HPm.out hne
          obtain ⟨hq', _⟩ := HPv.out hne
          have hidx := index_attr pA bm om l.length capA k hq hkl
          have hidx' := index_attr pv bv ov l.length capv k hq' hkl
          obtain ⟨c0, c1, c2, c3, c4⟩ := five HCm.out hkl
          obtain ⟨d0, d1, d2, d3, d4⟩ := five HCv.out hkl
          obtain ⟨x, hx⟩ : ∃ x, l.getD k default = x := ⟨_, rfl⟩
          rw [hx] at c0 c1 c2 c3 c4 d0 d1 d2 d3 d4
          have hxx : eqA ⟨x.nm, x.k, x.n, x.s, x.b⟩ ⟨x.nm, x.k, x.n, x.s, x.b⟩ = true := eqA_self _
          clear hq hq' hne hx
          go_wp2_with fail
          go_quiet (fail)
          go_wp2
          go_roundw
          case rel => exact ⟨k + 1, m + nq, by omega, by simp, rfl⟩
          case measure => simp [intOf]; omega
        · have HC7 := Lib.hid (HC6.out.below (below_drewN (Below.refl _ _) m))
          have e0 := HC7.out.two.b1.cell 0 (u := .string k1) rfl
          have e1 := HC7.out.two.b1.cell 1 (u := .slice p1 l1.length cap1) rfl
          obtain ⟨gk, gn, gs, gb, gis, hg⟩ := getV_form (getE l1 name)
          have hg1 := eget_any k1 _ l1 name (wo.drewN m) HC7.out.two.s1
          have hg2 := fun W hW => rget_any k1 (.slice p1 l1.length cap1) l1 name W hW
          rw [hg] at hg1
          simp only [hg] at hg2
          have HG1 := Lib.hid hg1
          have HG2 := Lib.hid hg2
          clear hg hg1 hg2 HCm HCv HPm HPv HC6
          go_wp2_with fail
          refine HG1.out.mono ?_; rintro e w8 ⟨rfl, b8⟩
          have HC8 := Lib.hid ((HC7.out.below b8).below ((Below.refl _ _).alloc (Nat.le_refl _) (.cells #[.int .i64 gk, .int .i64 gn, .string gs, .bool gb] 32)))
          have HV8 := Lib.hid (Blk.new w8 32 #[.int .i64 gk, .int .i64 gn, .string gs, .bool gb])
          have y0 := (HC7.out.below b8).two.b1.cell 0 (u := .string k1) rfl
          have y1 := (HC7.out.below b8).two.b1.cell 1 (u := .slice p1 l1.length cap1) rfl
          have y2 := (HC7.out.below b8).two.b1.lt
          clear b8 e0 e1 HC7 HG1
          go_wp2_with fail
          refine (HG2.out _ HC8.out.two.s1).mono ?_; rintro e w9 ⟨rfl, b9⟩
          have HC9 := Lib.hid ((HC8.out.below b9).below ((Below.refl _ _).alloc (Nat.le_refl _) (.cells #[.int .i64 gk, .int .i64 gn, .string gs, .bool gb] 32)))
          have HV9 := Lib.hid ((HV8.out.below b9 HV8.out.lt).alloc (.cells #[.int .i64 gk, .int .i64 gn, .string gs, .bool gb] 32))
          have HU9 := Lib.hid (Blk.new w9 32 #[.int .i64 gk, .int .i64 gn, .string gs, .bool gb])
          clear b9 y0 y1 y2 HC8 HV8 HG2
          have heq := eqlVal_self gk gn gs gb
          have H10 := Lib.hid (HoldM.mk HC9.out.two.bel HC9.out.two.env HC9.out.two.s1 HC9.out.two.s2)
          have hSt := Lib.hid (And.intro HC9.out.two.b1 (And.intro HC9.out.two.b2 (And.intro HV9.out HU9.out)))
          go_wp2_with fail
          go_region_held3 (fun w' => HoldM w w' (.slice p1 l1.length cap1) l1 (.slice p2 l2.length cap2) l2 ∧ w'.cell? ⟨w.heap.size, 0, none⟩ = some (.string k1) ∧ w'.cell? ⟨w.heap.size, 1, none⟩ = some (.slice p1 l1.length cap1) ∧ w'.cell? ⟨w.heap.size + 1, 0, none⟩ = some (.string k2) ∧ w'.cell? ⟨w.heap.size + 1, 1, none⟩ = some (.slice p2 l2.length cap2) ∧ w'.cell? ⟨w8.heap.size, 0, none⟩ = some (.int .i64 gk) ∧ w'.cell? ⟨w8.heap.size, 1, none⟩ = some (.int .i64 gn) ∧ w'.cell? ⟨w8.heap.size, 2, none⟩ = some (.string gs) ∧ w'.cell? ⟨w8.heap.size, 3, none⟩ = some (.bool gb) ∧ w'.cell? ⟨w9.heap.size, 0, none⟩ = some (.int .i64 gk) ∧ w'.cell? ⟨w9.heap.size, 1, none⟩ = some (.int .i64 gn) ∧ w'.cell? ⟨w9.heap.size, 2, none⟩ = some (.string gs) ∧ w'.cell? ⟨w9.heap.size, 3, none⟩ = some (.bool gb))
            (first | assumption | exact holdM_later (by assumption) (by assumption) | exact ⟨⟨H10.out.bel.drew, H10.out.env.drew, H10.out.s1, H10.out.s2⟩, HC9.out.two.b1.cell 0 rfl, HC9.out.two.b1.cell 1 rfl, HC9.out.two.b2.cell 0 rfl, HC9.out.two.b2.cell 1 rfl, HV9.out.cell 0 rfl, HV9.out.cell 1 rfl, HV9.out.cell 2 rfl, HV9.out.cell 3 rfl, HU9.out.cell 0 rfl, HU9.out.cell 1 rfl, HU9.out.cell 2 rfl, HU9.out.cell 3 rfl⟩)
            (first | (go_at_call 12; (refine (emay_any k1 _ l1 _ (hold_s1 (by assumption)) HR1.out).mono ?_); rintro e wa ⟨rfl, ba⟩) | (go_at_call 13; (refine (rmay_any k1 _ l1 _ (hold_s1 (by assumption)) HR1.out).mono ?_); rintro e wa ⟨rfl, ba⟩) | (go_at_call 14; (refine (esame_any k1 k2 _ _ l1 l2 _ (hold_s1 (by assumption)) (hold_s2 (by assumption))).mono ?_); rintro e wa ⟨rfl, ba⟩) | (go_at_call 9; (refine (rsame_any k1 k2 _ _ l1 l2 _ (hold_s1 (by assumption)) (hold_s2 (by assumption))).mono ?_); rintro e wa ⟨rfl, ba⟩) | (go_at_call 15; (refine (name_any name HN.out _).mono ?_); rintro e wa ⟨rfl, rfl⟩) | (go_at_call 16; (refine (rname_any name HN.out _).mono ?_); rintro e wa ⟨rfl, rfl⟩) | (go_at_call 17; (refine (wakes_any _ (hold_env (by assumption))).mono ?_); rintro e wa ⟨rfl, ba⟩))
          all_goals
            rename_i hh
            have HEnd : Below w.heap.size w _ := hh.1.bel
            clear hh
            go_wp2_with fail
            go_ret
            exact ⟨rfl, HEnd⟩
end Go.Proofs.YtgjniopcaahgfaaDoor
