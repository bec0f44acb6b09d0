/- The contracts of span.has, of slices.ContainsFunc over spans, of Region.Has. -/
import Derived.Test.YtfjfdajachcnjaaCi
set_option linter.unusedSimpArgs false
set_option linter.unusedVariables false
namespace Go.Proofs.Ytfjfdajachcnjaa.Gm
open Go Go.RowKit
attribute [local go_sem ↓] Go.wp_at_zero Go.wp_at_succ

set_option maxHeartbeats 4000000 in
set_option maxRecDepth 20000 in
theorem shas_any (s : Sp) (x : Vl) (w : World) : Calls Try.prog 27 #[spv s, vv x] w (Gives (.bool (hasS s x)) w) := by
  have HA := Lib.hid (fun W => ahead_any x W)
  have HC1 := Lib.hid (fun W => before_any (ahd x) s.f W)
  have HC2 := Lib.hid (fun W => before_any (ahd x) s.t W)
  have HE : Hid (hasS s x = (!befC (ahd x) s.f && befC (ahd x) s.t)) := Lib.hid rfl
  rw [HE.out]
  clear HE
  obtain ⟨sf, st⟩ := s
  simp only at HC1 HC2 ⊢
  have H2 := two w 64 25 (spc ⟨sf, st⟩) (vlc x)
  obtain ⟨hP, hQ, hB⟩ := H2
  have HP := Lib.hid hP
  have HQ := Lib.hid hQ
  have HB := Lib.hid hB
  clear hP hQ hB
  generalize ahd x = y at HA HC1 HC2 ⊢
  generalize befC y st = r2 at HC2 ⊢
  cases r1 : befC y sf
  all_goals
    rw [r1] at HC1
    clear r1
    go_enter Try.func27, Try.ntmps27
    go_wp2_with fail
    obtain ⟨W2, hW2⟩ : ∃ W2, W2 = (w.alloc (.cells (spc ⟨sf, st⟩) 64)).alloc (.cells (vlc x) 25) := ⟨_, rfl⟩
    rw [← hW2] at HP HQ HB ⊢
    clear hW2
    have p0 := fun (z : Later W2) => Later.cell (HP.out.cell 0 rfl) z
    have p1 := fun (z : Later W2) => Later.cell (HP.out.cell 1 rfl) z
    have p2 := fun (z : Later W2) => Later.cell (HP.out.cell 2 rfl) z
    have p3 := fun (z : Later W2) => Later.cell (HP.out.cell 3 rfl) z
    have p4 := fun (z : Later W2) => Later.cell (HP.out.cell 4 rfl) z
    have p5 := fun (z : Later W2) => Later.cell (HP.out.cell 5 rfl) z
    have p6 := fun (z : Later W2) => Later.cell (HP.out.cell 6 rfl) z
    have p7 := fun (z : Later W2) => Later.cell (HP.out.cell 7 rfl) z
    have p8 := fun (z : Later W2) => Later.cell (HP.out.cell 8 rfl) z
    have p9 := fun (z : Later W2) => Later.cell (HP.out.cell 9 rfl) z
    have q0 := fun (z : Later W2) => Later.cell (HQ.out.cell 0 rfl) z
    have q1 := fun (z : Later W2) => Later.cell (HQ.out.cell 1 rfl) z
    have q2 := fun (z : Later W2) => Later.cell (HQ.out.cell 2 rfl) z
    have q3 := fun (z : Later W2) => Later.cell (HQ.out.cell 3 rfl) z
    refine wp_region_later (by kernel_rfl) (by kernel_rfl) ?_
    repeat (quiet_step ((first | (go_at_call 39; exact later_call _ (HA.out _)) | (go_at_call 34; (with_reducible exact later_call _ (HC1.out _))) | (go_at_call 34; (with_reducible exact later_call _ (HC2.out _))))))
    refine wpQuiet_nil ?_
    intro wz hw'
    obtain ⟨⟨_, hbz⟩, rfl⟩ := hw'
    have HBz := Lib.hid (then_ HB.out hbz)
    clear hbz p0 p1 p2 p3 p4 p5 p6 p7 p8 p9 q0 q1 q2 q3
    go_wp2_with fail
    go_ret
    exact ⟨by simp, HBz.out⟩
set_option maxHeartbeats 4000000 in
set_option maxRecDepth 20000 in
theorem hasfn_any (s : Sp) (x : Vl) (g : Nat) (w : World) (hG : Blk w g 25 (vlc x)) : Calls Try.prog 26 #[spv s, .pointer (some ⟨g, 0, none⟩)] w (Gives (.bool (hasS s x)) w) := by
  have HC := Lib.hid (fun W => shas_any s x W)
  have HB0 := Lib.hid (below_one w (.cells (spc s) 64))
  have HG := Lib.hid (hG.later HB0.out)
  clear hG
  have g0 := HG.out.cell 0 rfl
  have g1 := HG.out.cell 1 rfl
  have g2 := HG.out.cell 2 rfl
  have g3 := HG.out.cell 3 rfl
  generalize hasS s x = r at HC ⊢
  go_enter Try.func26, Try.ntmps26
  go_wp2_with fail
  refine (HC.out _).mono ?_
  rintro e w1 ⟨rfl, b1⟩
  have HB1 := Lib.hid (then_ HB0.out b1)
  clear b1 g0 g1 g2 g3
  go_wp2_with fail
  go_ret
  exact ⟨rfl, HB1.out⟩
set_option maxHeartbeats 4000000 in
set_option maxRecDepth 20000 in
theorem ixs_any (v : Value) (l : List Sp) (x : Vl) (g : Nat) (w : World) (hA : Ss w v l) (hG : Blk w g 25 (vlc x)) : Calls Try.prog 38 #[v, .func (.func 26) #[] #[.pointer (some ⟨g, 0, none⟩)]] w (Finds (l.any fun s => hasS s x) w) := by
  obtain ⟨p, cap, rfl⟩ := hA.1.form
  have HA := Lib.hid hA
  have HL := Lib.hid hA.2
  have HC := Lib.hid (fun s W (h : Below w.heap.size w W) => hasfn_any s x g W (hG.later h))
  clear hA hG
  go_enter Try.func38, Try.ntmps38
  go_wp2
  go_loopw [8] (fun i wr => ∃ (k : Nat), k ≤ l.length ∧ i = .int .i64 k ∧ Hid (∀ j, j < k → hasS (l.getD j default) x = false) ∧ Hid (Below w.heap.size w wr)) (fun i _ => l.length - (intOf i).toNat)
  case atStart => exact ⟨0, Nat.zero_le _, rfl, Lib.hid (fun j hj => by omega), Lib.hid (Below.refl _ _)⟩
  case round =>
    obtain ⟨k, hk, rfl, HN, HBel⟩ := hrel
    by_cases hkl : k < l.length
    · obtain ⟨p1, cap1, b, o, hv, hp, hb, h4⟩ := ten_at (HA.out.later HBel.out).1 hkl
      simp only [Value.slice.injEq] at hv
      obtain ⟨rfl, _, rfl⟩ := hv
      have hidx := idx_s p b o l.length cap k hp hkl
      obtain ⟨y, hy⟩ : ∃ y, l.getD k default = y := ⟨_, rfl⟩
      rw [hy] at h4
      have HY := Lib.hid hy
      obtain ⟨c0, c1, c2, c3, c4, c5, c6, c7, c8, c9⟩ := h4
      have hl := HL.out
      clear hy hp hb
      have HCy := Lib.hid (HC.out y wr HBel.out)
      have HLen : Hid (k < l.length) := Lib.hid hkl
      cases hr : hasS y x
      · have HR := Lib.hid hr
        rw [hr] at HCy
        clear hr
        go_wp2_with fail
        refine HCy.out.mono ?_
        rintro e w1 ⟨rfl, b1⟩
        have HB1 := Lib.hid (then_ HBel.out b1)
        clear b1
        go_wp2_with fail
        go_roundw
        case rel => exact ⟨k + 1, by omega, by go_num, Lib.hid (fun j hj => by
          by_cases e : j = k
          · rw [e, HY.out]; exact HR.out
          · exact HN.out j (by omega)), HB1⟩
        case measure => simp [intOf]; omega
      · have HR := Lib.hid hr
        rw [hr] at HCy
        clear hr
        go_wp2_with fail
        refine HCy.out.mono ?_
        rintro e w1 ⟨rfl, b1⟩
        have HB1 := Lib.hid (then_ HBel.out b1)
        clear b1
        go_wp2_with fail
        go_ret
        exact ⟨k, rfl, by rw [any_at HLen.out (by rw [HY.out]; exact HR.out)]; simp, HB1.out⟩
    · have hke : k = l.length := by omega
      subst hke
      go_wp2_with fail
      go_ret
      exact ⟨-1, rfl, by rw [any_none HN.out]; rfl, HBel.out⟩
set_option maxHeartbeats 4000000 in
set_option maxRecDepth 20000 in
theorem cfs_any (v : Value) (l : List Sp) (x : Vl) (g : Nat) (w : World) (hA : Ss w v l) (hG : Blk w g 25 (vlc x)) : Calls Try.prog 25 #[v, .func (.func 26) #[] #[.pointer (some ⟨g, 0, none⟩)]] w (Gives (.bool (hasL l x)) w) := by
  have HC := Lib.hid (ixs_any v l x g w hA hG)
  obtain ⟨p, cap, rfl⟩ := hA.1.form
  clear hA hG
  have HE : Hid (hasL l x = l.any fun s => hasS s x) := Lib.hid rfl
  rw [HE.out]
  clear HE
  generalize (l.any fun s => hasS s x) = r at HC ⊢
  go_enter Try.func25, Try.ntmps25
  go_wp2_with fail
  refine HC.out.mono ?_
  rintro e w1 ⟨i, rfl, hi, b1⟩
  have HI := Lib.hid hi
  have HB1 := Lib.hid b1
  clear hi b1
  go_wp2_with fail
  go_ret
  exact ⟨ret_bool HI.out, HB1.out⟩
set_option maxHeartbeats 4000000 in
set_option maxRecDepth 20000 in
theorem has1_any (m : Rm) (r : Rg) (n : Int) (s : ByteArray) (b : Bool) (w : World) (hR : RgIn w m r) : Calls Try.prog 9 #[rgv m r, .agg #[.int .i64 1, .int .i64 n, .string s, .bool b]] w (Gives (.bool (hasL r.a ⟨1, n, s, b⟩)) w) := by
  obtain ⟨p0, c0, p1, c1, p2, c2⟩ := m
  have H2 := two w 29 25 (rgc ⟨p0, c0, p1, c1, p2, c2⟩ r) (vlc ⟨1, n, s, b⟩)
  have HC := Lib.hid (fun W (h : Below w.heap.size w W) => cfs_any _ r.a ⟨1, n, s, b⟩ (w.heap.size + 1) W (hR.1.later h))
  clear hR
  obtain ⟨ra, rb, rc, ro⟩ := r
  simp only at HC H2 ⊢
  generalize hasL ra ⟨1, n, s, b⟩ = res at HC ⊢
  obtain ⟨hP, hQ, hB⟩ := H2
  have HQ := Lib.hid hQ
  have HB := Lib.hid hB
  clear hP hQ hB
  go_enter Try.func9, Try.ntmps9
  go_wp2_with fail
  refine (HC.out _ HB.out HQ.out).mono ?_
  rintro e w1 ⟨rfl, b1⟩
  have HB1 := Lib.hid (then_ HB.out b1)
  clear b1
  go_wp2_with fail
  go_ret
  exact ⟨rfl, HB1.out⟩
set_option maxHeartbeats 4000000 in
set_option maxRecDepth 20000 in
theorem has2_any (m : Rm) (r : Rg) (n : Int) (s : ByteArray) (b : Bool) (w : World) (hR : RgIn w m r) : Calls Try.prog 9 #[rgv m r, .agg #[.int .i64 2, .int .i64 n, .string s, .bool b]] w (Gives (.bool (hasL r.b ⟨2, n, s, b⟩)) w) := by
  obtain ⟨p0, c0, p1, c1, p2, c2⟩ := m
  have H2 := two w 29 25 (rgc ⟨p0, c0, p1, c1, p2, c2⟩ r) (vlc ⟨2, n, s, b⟩)
  have HC := Lib.hid (fun W (h : Below w.heap.size w W) => cfs_any _ r.b ⟨2, n, s, b⟩ (w.heap.size + 1) W (hR.2.1.later h))
  clear hR
  obtain ⟨ra, rb, rc, ro⟩ := r
  simp only at HC H2 ⊢
  generalize hasL rb ⟨2, n, s, b⟩ = res at HC ⊢
  obtain ⟨hP, hQ, hB⟩ := H2
  have HQ := Lib.hid hQ
  have HB := Lib.hid hB
  clear hP hQ hB
  go_enter Try.func9, Try.ntmps9
  go_wp2_with fail
  refine (HC.out _ HB.out HQ.out).mono ?_
  rintro e w1 ⟨rfl, b1⟩
  have HB1 := Lib.hid (then_ HB.out b1)
  clear b1
  go_wp2_with fail
  go_ret
  exact ⟨rfl, HB1.out⟩
set_option maxHeartbeats 4000000 in
set_option maxRecDepth 20000 in
theorem has3_any (m : Rm) (r : Rg) (n : Int) (s : ByteArray) (b : Bool) (w : World) (hR : RgIn w m r) : Calls Try.prog 9 #[rgv m r, .agg #[.int .i64 3, .int .i64 n, .string s, .bool b]] w (Gives (.bool (hasL r.c ⟨3, n, s, b⟩)) w) := by
  obtain ⟨p0, c0, p1, c1, p2, c2⟩ := m
  have H2 := two w 29 25 (rgc ⟨p0, c0, p1, c1, p2, c2⟩ r) (vlc ⟨3, n, s, b⟩)
  have HC := Lib.hid (fun W (h : Below w.heap.size w W) => cfs_any _ r.c ⟨3, n, s, b⟩ (w.heap.size + 1) W (hR.2.2.later h))
  clear hR
  obtain ⟨ra, rb, rc, ro⟩ := r
  simp only at HC H2 ⊢
  generalize hasL rc ⟨3, n, s, b⟩ = res at HC ⊢
  obtain ⟨hP, hQ, hB⟩ := H2
  have HQ := Lib.hid hQ
  have HB := Lib.hid hB
  clear hP hQ hB
  go_enter Try.func9, Try.ntmps9
  go_wp2_with fail
  refine (HC.out _ HB.out HQ.out).mono ?_
  rintro e w1 ⟨rfl, b1⟩
  have HB1 := Lib.hid (then_ HB.out b1)
  clear b1
  go_wp2_with fail
  go_ret
  exact ⟨rfl, HB1.out⟩
set_option maxHeartbeats 4000000 in
set_option maxRecDepth 20000 in
theorem has0_any (m : Rm) (r : Rg) (x : Vl) (w : World) (h : x.k < 1 ∨ 3 < x.k) : Calls Try.prog 9 #[rgv m r, vv x] w (Gives (.bool r.o) w) := by
  obtain ⟨p0, c0, p1, c1, p2, c2⟩ := m
  obtain ⟨k, n, s, b⟩ := x
  obtain ⟨ra, rb, rc, ro⟩ := r
  have HB := Lib.hid (below_two w (.cells (rgc ⟨p0, c0, p1, c1, p2, c2⟩ ⟨ra, rb, rc, ro⟩) 29) (.cells (vlc ⟨k, n, s, b⟩) 25))
  simp only at h HB
  rcases h with h | h
  · have h1 : decide (k < 1) = true := by simpa using h
    go_enter Try.func9, Try.ntmps9
    go_wp2_with fail
    go_ret
    exact ⟨rfl, HB.out⟩
  · have h1 : decide (k < 1) = false := by simp; omega
    have h2 : decide (3 < k) = true := by simpa using h
    go_enter Try.func9, Try.ntmps9
    go_wp2_with fail
    go_ret
    exact ⟨rfl, HB.out⟩
theorem has_any (m : Rm) (r : Rg) (x : Vl) (w : World) (hR : RgIn w m r) : Calls Try.prog 9 #[rgv m r, vv x] w (Gives (.bool (hasR r x)) w) := by
  obtain ⟨k, n, s, b⟩ := x
  unfold hasR
  by_cases h1 : k = 1
  · subst h1; exact has1_any m r n s b w hR
  by_cases h2 : k = 2
  · subst h2; exact has2_any m r n s b w hR
  by_cases h3 : k = 3
  · subst h3; exact has3_any m r n s b w hR
  rw [if_neg h1, if_neg h2, if_neg h3]
  exact has0_any m r ⟨k, n, s, b⟩ w (by show k < 1 ∨ 3 < k; omega)
end Go.Proofs.Ytfjfdajachcnjaa.Gm
