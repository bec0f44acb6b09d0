/- The walk of CodecEvents. -/
import Derived.Test.YtkfheodcmhodpaaVq
set_option linter.unusedSimpArgs false
set_option linter.unusedVariables false
namespace Go.Proofs.Ytkfheodcmhodpaa.Gm
open Go Go.RowKit
attribute [local go_sem ↓] Go.wp_at_zero Go.wp_at_succ

/-- What a Take leaves, whatever it answers: the thing, or a bare one. -/
theorem tkq_e {rd : Rd Ev} {L : List UInt8} {w w' : World} {e : Ending} (hq : takeR rd (fun x : Ev => mayE x.1 x.2) L = tkE L) (h : TakeE rd (fun x : Ev => mayE x.1 x.2) (EvR w.heap.size) (.agg #[.string ⟨#[]⟩, .slice none 0 0]) L w e w') : ∃ (p : Option Addr) (cap : Nat), e = .returned (.tuple #[.agg #[.string ((tkE L).getD (⟨#[]⟩, [])).1, .slice p ((tkE L).getD (⟨#[]⟩, [])).2.length cap], .int .i64 (if (tkE L).isSome then 0 else 5)]) ∧ Below w.heap.size w w' ∧ w'.ownsRow w.heap.size 81 5 (.slice p ((tkE L).getD (⟨#[]⟩, [])).2.length cap) ((tkE L).getD (⟨#[]⟩, [])).2.length (((tkE L).getD (⟨#[]⟩, [])).2.flatMap encA) ∧ ((tkE L).getD (⟨#[]⟩, [])).2.length ≤ 8 := by
  obtain ⟨h1, h2⟩ := h
  rw [hq] at h1
  cases hr : tkE L with
  | none =>
    rw [hr] at h1
    exact ⟨none, 0, h1, h2, World.ownsRow_nil _ _ _ _, by simp⟩
  | some x =>
    rw [hr] at h1
    obtain ⟨v, rfl, p, cap, rfl, ho⟩ := h1
    obtain ⟨k, l⟩ := x
    exact ⟨p, cap, rfl, h2, ho, (again_e hr).2.2⟩
/-- Rows that lie behind what a loop writes. -/
theorem ownsRow_past {w w' : World} {base n m : Nat} {e : TypeId} {v : Value} {xs : List Value} {r : Option Nat} (h : w.ownsRow base e n v m xs) (hg : w.grownBy w' r) (hr : ∀ g, r = some g → g < base) : w'.ownsRow base e n v m xs := by
  refine ⟨h.1, ?_⟩
  rcases h.2 with h0 | ⟨g, cap, cur, hv, hb, hh, rest⟩
  · exact .inl h0
  · exact .inr ⟨g, cap, cur, hv, hb, (hg.block g (lt_of_block hh) (fun e => by have := hr g e.symm; omega)).trans hh, rest⟩
/-- The bytes that are written through: so many, and nothing else has turned. -/
def Wiped (W wr : World) (v : Value) (n : Nat) : Prop := W.grownBy wr v.ownBlock ∧ ∀ k, k < n → ∃ g cap, v = .slice (some ⟨g, 0, none⟩) n cap ∧ v.ownBlock = some g ∧ Wr8 wr g n
theorem wiped_start {w : World} {base : Nat} {v : Value} {L : List UInt8} (h : OwnB w base v L) : Wiped w w v L.length := by
  refine ⟨World.grownBy.refl _ _, fun k hk => ?_⟩
  obtain ⟨g, cap, rfl, _, _, hw⟩ := h.row (by rintro rfl; simp at hk)
  exact ⟨g, cap, rfl, rfl, hw⟩
theorem wiped_set {W wr : World} {g n cap : Nat} (h : Wiped W wr (.slice (some ⟨g, 0, none⟩) n cap) n) (k : Nat) (d : UInt8) : Wiped W (wr.setCell ⟨g, k, none⟩ (byteV d)) (.slice (some ⟨g, 0, none⟩) n cap) n := by
  refine ⟨?_, fun j hj => ?_⟩
  · have h1 := h.1
    have e : (Value.slice (some ⟨g, 0, none⟩) n cap).ownBlock = some g := rfl
    rw [e] at h1 ⊢
    exact grown_set h1 _
  · obtain ⟨g', cap', e1, e2, hw⟩ := h.2 j hj
    simp only [Value.slice.injEq, Option.some.injEq, Addr.mk.injEq] at e1
    obtain ⟨⟨rfl, _⟩, _, rfl⟩ := e1
    exact ⟨_, _, rfl, rfl, hw.set _ _ _⟩
theorem str_same (X : List UInt8) : ((⟨X.toArray⟩ : ByteArray).toList == (⟨X.toArray⟩ : ByteArray).toList) = true := str_eq X X true (by simp)
set_option maxHeartbeats 16000000 in
set_option maxRecDepth 20000 in
theorem law_cevents (key0 : ByteArray) (u0 v0 : Value) (l0 : List Attr) (B : List UInt8) (w : World) (hS : Sl w u0 l0) (hR : Room l0) (hB : Bs w v0 B) (hlen0 : B.length ≤ 140737488351232) : Calls Try.prog 3 #[.agg #[.string key0, u0], v0] w (Gives (.bool true) w) := by
  obtain ⟨i0, ji, iz0, iz1, iz2⟩ := info_parts infoB
  obtain ⟨p0, c0, hv⟩ := hB.form
  obtain ⟨nB, hnB⟩ : ∃ nB, B.length = nB := ⟨_, rfl⟩
  rw [hnB] at hv
  subst hv
  have HnB := Lib.hid hnB
  have HP := Lib.hid (fun W (h : Below w.heap.size w W) => pe_any key0 u0 l0 W (hS.below h) hR)
  have HQ := Lib.hid (fun W (h : Below w.heap.size w W) => qputevent_any key0 u0 l0 W (hS.below h) hR)
  have HZ := Lib.hid (fun W (h : Below w.heap.size w W) => size_any key0 u0 l0 W (hS.below h) hR)
  have HT := Lib.hid (fun W (h : Below w.heap.size w W) => qtake_event (.slice p0 nB c0) B W (hB.below h) (by omega))
  obtain ⟨S, hSS⟩ : ∃ S, putE (key0, l0) = S := ⟨_, rfl⟩
  rw [hSS] at HP HQ HZ
  obtain ⟨pu, cu, bu, ou, rfl, _⟩ := hS
  obtain ⟨nl, hnl⟩ : ∃ nl, l0.length = nl := ⟨_, rfl⟩
  rw [hnl] at HP HQ HZ ⊢
  have HXb := Lib.hid (Blk.new w 24 #[.string key0, .slice pu nl cu])
  have HB0 := Lib.hid (below_one w (.cells #[.string key0, .slice pu nl cu] 24))
  have HSrc : Hid (Src (w.alloc (.cells #[.string key0, .slice pu nl cu] 24)) (.slice p0 nB c0) nB 1 (cellsB B)) := Lib.hid (by have h := (hB.below HB0.out).src; rwa [hnB] at h)
  have hn0 : nB ≤ 140737488351232 := by omega
  clear hB hnB hSS hnl
  go_enter Try.func3, Try.ntmps3
  go_wp2_with (at_builtin; refine wpList_append_src rfl _ _ 25 rfl w.heap.size 5 i0 (.int .u8 0) 1 1 Try.underlying25 ji iz0 iz1 iz2 rfl (by decide) _ 0 [] rfl (World.ownsRow_nil _ _ _ _) _ nB (cellsB B) rfl HSrc.out nB (by omega) (by unfold maxLen; omega) (by omega) (by simp) ?_; intro p1 c1 w1 hown1 hgrow1; have HO1 : Hid (OwnB w1 w.heap.size (.slice p1 nB c1) B) := Lib.hid (by unfold OwnB; rw [HnB.out]; exact hown1); have HX1 := Lib.hid (HXb.out.grown hgrow1 (fun e => nomatch (show (none : Option Nat) = some _ from e))); have HB1 := Lib.hid (HB0.out.trans ((Below.refl w.heap.size _).grown hgrow1 (by simp) (fun j hj => nomatch (show (none : Option Nat) = some j from hj)))); have x0 := HX1.out.cell 0 (u := .string key0) rfl; have x1 := HX1.out.cell 1 (u := .slice pu nl cu) rfl; clear hown1 hgrow1 HXb HB0 HSrc)
  have Hg : Hid (∀ g, (Value.slice p1 nB c1).ownBlock = some g → w.heap.size ≤ g ∧ g < w1.heap.size) := Lib.hid (fun g hg => World.ownsRow.lt HO1.out g hg)
  refine (HP.out _ HB1.out).mono ?_; rintro e w2 ⟨vx, rfl, hox, b2⟩
  obtain ⟨EF, hEF⟩ : ∃ EF : Int, (if S.isSome then 0 else 30) = EF := ⟨_, rfl⟩
  rw [hEF]
  have HEF := Lib.hid hEF
  obtain ⟨px, cx, rfl⟩ := hox.form
  obtain ⟨FS, hFS⟩ : ∃ FS, S.getD [] = FS := ⟨_, rfl⟩
  have HFS := Lib.hid hFS
  rw [hFS] at hox HZ ⊢
  obtain ⟨NF, hNF⟩ : ∃ NF, FS.length = NF := ⟨_, rfl⟩
  have HNF := Lib.hid hNF
  rw [hNF] at hox HZ ⊢
  have HOx2 := Lib.hid hox
  have HO2 := Lib.hid (HO1.out.below b2)
  have HX2 := Lib.hid (HX1.out.later b2)
  have HB2 := Lib.hid (then_ HB1.out b2)
  have hz2 := b2.size
  have y0 := HX2.out.cell 0 (u := .string key0) rfl
  have y1 := HX2.out.cell 1 (u := .slice pu nl cu) rfl
  clear hEF hFS hNF hox b2 x0 x1 HX1 HO1
  go_wp2_with fail
  refine (HQ.out _ HB2.out).mono ?_; rintro e w3 ⟨vy, rfl, hoy, b3⟩
  obtain ⟨py, cy, rfl⟩ := hoy.form
  rw [HFS.out] at hoy ⊢
  rw [HEF.out]
  rw [HNF.out] at hoy ⊢
  have HOy3 := Lib.hid hoy
  have HOx3 := Lib.hid (HOx2.out.below b3)
  have HO3 := Lib.hid (HO2.out.below b3)
  have HX3 := Lib.hid (HX2.out.later b3)
  have HB3 := Lib.hid (then_ HB2.out b3)
  have hz3 := b3.size
  clear hoy b3 y0 y1 HX2 HO2 HOx2 HEF HFS
  go_wp2_with fail
  refine (te_any (.slice p1 nB c1) B w3 HO3.out.bs (by omega)).mono ?_; intro e w4 h
  obtain ⟨pe, ce, rfl, b4, ho4, hl4⟩ := tkq_e rfl h
  obtain ⟨⟨k4, l4⟩, hx4⟩ : ∃ X, (tkE B).getD (⟨#[]⟩, []) = X := ⟨_, rfl⟩
  obtain ⟨ET, hET⟩ : ∃ ET : Int, (if (tkE B).isSome then 0 else 5) = ET := ⟨_, rfl⟩
  rw [hx4] at ho4 hl4 ⊢
  rw [hET]
  simp only at ho4 hl4 ⊢
  have HX4e := Lib.hid hx4
  have HET := Lib.hid hET
  obtain ⟨n4, hn4⟩ : ∃ n4, l4.length = n4 := ⟨_, rfl⟩
  rw [hn4] at ho4 hl4 ⊢
  have Hn4 := Lib.hid hn4
  have HU4 := Lib.hid (Blk.new w4 24 #[.string k4, .slice pe n4 ce])
  have bz := then_ b4 (below_one w4 (.cells #[.string k4, .slice pe n4 ce] 24))
  obtain ⟨W5, hW5⟩ : ∃ W5, w4.alloc (.cells #[.string k4, .slice pe n4 ce] 24) = W5 := ⟨_, rfl⟩
  have HUo5 : Hid (W5.ownsRow w3.heap.size 81 5 (.slice pe n4 ce) n4 (l4.flatMap encA)) := Lib.hid (by rw [← hW5]; exact World.ownsRow.alloc ho4 _)
  rw [hW5] at HU4 bz
  have HOy5 := Lib.hid (HOy3.out.below bz)
  have HOx5 := Lib.hid (HOx3.out.below bz)
  have HO5 := Lib.hid (HO3.out.below bz)
  have HX5 := Lib.hid (HX3.out.later bz)
  have HB5 := Lib.hid (then_ HB3.out bz)
  have Hz5 := Lib.hid bz.size
  clear h ho4 b4 bz hx4 hET hn4 HOy3 HOx3 HO3 HX3
  go_wp2_with fail
  clear hW5
  go_loopw [12] (fun iv wr => ∃ k : Nat, k ≤ nB ∧ iv = .int .i64 k ∧ Hid (Wiped W5 wr (.slice p1 nB c1) nB)) (fun iv _ => nB - (intOf iv).toNat)
  case atStart => exact ⟨0, Nat.zero_le _, rfl, Lib.hid (by have h := wiped_start HO5.out; rwa [HnB.out] at h)⟩
  case round =>
    obtain ⟨k, hk, rfl, HW⟩ := hrel
    by_cases hkN : k < nB
    · obtain ⟨g, cap, e1, e2, hw⟩ := HW.out.2 k hkN
      simp only [Value.slice.injEq, true_and] at e1
      obtain ⟨rfl, rfl⟩ := e1
      obtain ⟨cc, h1, h2⟩ := hw k hkN
      obtain ⟨d, hd⟩ := xor_byte cc
      clear e2 hw
      go_wp2_with fail
      go_roundw
      case rel => exact ⟨k + 1, by omega, by simp, Lib.hid (wiped_set HW.out k d)⟩
      case measure => simp [intOf]; omega
    · have hq := HW.out.1
      have HB6 := Lib.hid (HB5.out.trans (grown_old (base := w.heap.size) hq HB5.out.size (fun g hg => (Hg.out g hg).1)))
      have HX6 := Lib.hid (HX5.out.grown hq (HX5.out.apart HO5.out (by decide)))
      have HU6 := Lib.hid (HU4.out.grown hq (HU4.out.apart HO5.out (by decide)))
      have HOx6 : Hid (OwnB wr w1.heap.size (.slice px NF cx) FS) := Lib.hid (ownsRow_past HOx5.out hq (fun g hg => (Hg.out g hg).2))
      have HOy6 : Hid (OwnB wr w2.heap.size (.slice py NF cy) FS) := Lib.hid (ownsRow_past HOy5.out hq (fun g hg => by have := (Hg.out g hg).2; omega))
      have HUo6 := Lib.hid (ownsRow_past HUo5.out hq (fun g hg => by have := (Hg.out g hg).2; omega))
      clear hq HW HB5 HX5 HU4 HOx5 HOy5 HUo5 HO5
      go_wp2_with fail
      refine (HT.out _ HB6.out).mono ?_; intro e w7 h
      obtain ⟨pf, cf, rfl, b7, ho7, -⟩ := tkq_e (takeq_e B) h
      rw [HX4e.out] at ho7 ⊢
      rw [HET.out]
      simp only at ho7 ⊢
      rw [Hn4.out] at ho7 ⊢
      have HV8 := Lib.hid (Blk.new w7 24 #[.string k4, .slice pf n4 cf])
      have bz := then_ b7 (below_one w7 (.cells #[.string k4, .slice pf n4 cf] 24))
      obtain ⟨W8, hW8⟩ : ∃ W8, w7.alloc (.cells #[.string k4, .slice pf n4 cf] 24) = W8 := ⟨_, rfl⟩
      have HVo8 : Hid (W8.ownsRow wr.heap.size 81 5 (.slice pf n4 cf) n4 (l4.flatMap encA)) := Lib.hid (by rw [← hW8]; exact World.ownsRow.alloc ho7 _)
      rw [hW8] at HV8 bz
      have HUo8 := Lib.hid (own_later HUo6.out bz)
      have HU8 := Lib.hid (HU6.out.later bz)
      have HX8 := Lib.hid (HX6.out.later bz)
      have HB8 := Lib.hid (then_ HB6.out bz)
      have cvx := conv_bs ((HOx6.out.below bz).bs) 9 Try.underlying9
      have cvy := conv_bs ((HOy6.out.below bz).bs) 9 Try.underlying9
      have hse := str_same FS
      obtain ⟨XS, hXS⟩ : ∃ XS, (⟨FS.toArray⟩ : ByteArray) = XS := ⟨_, rfl⟩
      rw [hXS] at cvx cvy hse
      have HSm : Hid (Calls Try.prog 15 #[.agg #[.string k4, .slice pe n4 ce], .agg #[.string k4, .slice pf n4 cf]] W8 (Gives (.bool true) W8)) := Lib.hid (by
        have h1 : Sl W8 (.slice pe n4 ce) l4 := by have h := HUo8.out; rw [← Hn4.out] at h ⊢; exact sl_own h (by rw [Hn4.out]; omega)
        have h2 : Sl W8 (.slice pf n4 cf) l4 := by have h := HVo8.out; rw [← Hn4.out] at h ⊢; exact sl_own h (by rw [Hn4.out]; omega)
        have h := qsame_any k4 k4 (.slice pe n4 ce) (.slice pf n4 cf) l4 l4 W8 h1 h2
        rwa [(sameB_iff k4 l4 k4 l4).2 ⟨rfl, rfl⟩] at h)
      have f0 := HU8.out.cell 0 (u := .string k4) rfl
      have f1 := HU8.out.cell 1 (u := .slice pe n4 ce) rfl
      have g0 := HV8.out.cell 0 (u := .string k4) rfl
      have g1 := HV8.out.cell 1 (u := .slice pf n4 cf) rfl
      clear h ho7 b7 bz hXS HOx6 HOy6 HUo6 HUo8 HVo8
      go_wp2_with fail
      refine HSm.out.mono ?_; rintro e w9 ⟨rfl, b9⟩
      have HB9 := Lib.hid (then_ HB8.out b9)
      have HX9 := Lib.hid (HX8.out.later b9)
      have x0 := HX9.out.cell 0 (u := .string key0) rfl
      have x1 := HX9.out.cell 1 (u := .slice pu nl cu) rfl
      clear b9 HX8 f0 f1 g0 g1 cvx cvy
      go_wp2_with fail
      refine (HZ.out _ HB9.out).mono ?_; rintro e w10 ⟨rfl, b10⟩
      have HB10 := Lib.hid (then_ HB9.out b10)
      clear b10 x0 x1
      go_wp2_with fail
      refine (wakes_any _).mono ?_; rintro e w11 ⟨rfl, b11⟩
      have HB11 := Lib.hid (then_ HB10.out b11)
      clear b11
      go_wp2_with fail
      go_ret
      exact ⟨rfl, HB11.out⟩
end Go.Proofs.Ytkfheodcmhodpaa.Gm
