/- Layer 12: what reads one record's form after the other: taker and its closure. -/
import Derived.Test.YtelocbohiddpgaaGreatDoorSge
import Derived.Test.YtelocbohiddpgaaGreatDoorFmf
set_option linter.unusedSimpArgs false
set_option linter.unusedVariables false
namespace Go.Proofs.YtelocbohiddpgaaGreatDoor.Crc
open Go Go.RowKit Gm
attribute [local go_sem ↓] Go.wp_at_zero Go.wp_at_succ

theorem own_apart12 {w w' : World} {base base2 : Nat} {t t2 : TypeId} {size size2 n n2 : Nat} {v v2 : Value} {xs xs2 : List Value} (h : w.ownsRow base t size v n xs) (h2 : w.ownsRow base2 t2 size2 v2 n2 xs2) (ht : t ≠ t2) (hg : w.grownBy w' v2.ownBlock) : w'.ownsRow base t size v n xs := by
  refine h.kept hg ?_
  rcases h.2 with ⟨rfl, _⟩ | ⟨g, cap, cur, rfl, _, hh, _⟩
  · exact .inl rfl
  · refine .inr fun e => ?_
    rcases h2.2 with ⟨rfl, _⟩ | ⟨g2, cap2, cur2, rfl, _, hh2, _⟩
    · simp [Value.ownBlock] at e
    · have : g = g2 := by simpa [Value.ownBlock] using e
      subst this
      rw [hh] at hh2
      simp only [Option.some.injEq, Obj.cells.injEq] at hh2
      exact ht hh2.2.1
/-- What is left of the frames: the row as it was made, the box that holds what is left behind j of them. -/
def Tk (base g : Nat) (xs : List Fx) (j : Nat) (W : World) : Prop := ∃ v p cj, W.ownsRow base 23 1 v xs.length (xs.map Fx.v) ∧ Blk W g 74 #[.slice p (xs.length - j) cj] ∧ base ≤ g ∧ xs.length - j ≤ cj ∧ (∀ hb, v.ownBlock = some hb → j < xs.length → p = some ⟨hb, j, none⟩) ∧ ∀ x ∈ xs, Rec W base x.v x.r
theorem Tk.below {base g : Nat} {xs : List Fx} {j : Nat} {W W' : World} (h : Tk base g xs j W) (hb : Below W.heap.size W W') : Tk base g xs j W' := by
  obtain ⟨v, p, cj, h1, h2, h3, h4, h5, h6⟩ := h
  exact ⟨v, p, cj, own_later11 h1 hb, h2.later hb, h3, h4, h5, fun x hx => (h6 x hx).later hb⟩
/-- Another row, of another type, has grown. -/
theorem Tk.grown {base g : Nat} {xs : List Fx} {j : Nat} {W W' : World} {b2 size n : Nat} {u : Value} {us : List Value} (h : Tk base g xs j W) (h2 : W.ownsRow b2 30 size u n us) (hg : W.grownBy W' u.ownBlock) : Tk base g xs j W' := by
  obtain ⟨v, p, cj, k1, k2, k3, k4, k5, k6⟩ := h
  exact ⟨v, p, cj, own_apart12 k1 h2 (by decide) hg, k2.grown hg (k2.apart h2 (by decide)), k3, k4, k5, fun x hx => (k6 x hx).kept hg (own_not_u8 h2 (by decide))⟩
theorem Tk.form {base g : Nat} {xs : List Fx} {j : Nat} {W : World} (h : Tk base g xs j W) : ∃ p cj, Blk W g 74 #[.slice p (xs.length - j) cj] ∧ xs.length - j ≤ cj := by
  obtain ⟨v, p, cj, _, h2, _, h4, _⟩ := h
  exact ⟨p, cj, h2, h4⟩
/-- The next one. -/
theorem Tk.at {base g : Nat} {xs : List Fx} {j : Nat} {W : World} (h : Tk base g xs j W) (hj : j < xs.length) : ∃ hb cj m, xs.length - j = m + 1 ∧ m + 1 ≤ cj ∧ Blk W g 74 #[.slice (some ⟨hb, j, none⟩) (m + 1) cj] ∧ W.cell? ⟨hb, j, none⟩ = some xs[j].v ∧ Rec W base xs[j].v xs[j].r ∧ ∀ V, Below W.heap.size W V → ∀ p', (0 < m → p' = some ⟨hb, j + 1, none⟩) → Tk base g xs (j + 1) (V.setCell ⟨g, 0, none⟩ (.slice p' m (cj - 1))) := by
  obtain ⟨v, p, cj, h1, h2, h3, h4, h5, h6⟩ := h
  obtain ⟨m, hm⟩ : ∃ m, xs.length - j = m + 1 := ⟨xs.length - j - 1, by omega⟩
  rcases h1.2 with ⟨rfl, h0⟩ | ⟨hb, cap, cur, rfl, hbb, hh, hrest⟩
  · omega
  · have hp := h5 hb rfl hj
    subst hp
    rw [hm] at h2 h4
    refine ⟨hb, cj, m, hm, h4, h2, ?_, h6 _ (List.getElem_mem hj), fun V hV p' hp' => ?_⟩
    · rw [World.ownsRow.cellAt h1 j (by omega), List.getElem?_map, List.getElem?_eq_getElem hj]; rfl
    · have e : xs.length - (j + 1) = m := by omega
      have h1v := own_later11 h1 hV
      have h2v := h2.later hV
      have hg1 : V.grownBy (V.setCell ⟨g, 0, none⟩ (.slice p' m (cj - 1))) (some g) := grown_set (i := 0) (World.grownBy.refl V (some g)) _
      refine ⟨_, p', cj - 1, World.ownsRow.kept h1v hg1 (.inr (h2v.apart h1v (by decide))), by rw [e]; exact h2v.set _, h3, by omega, fun hb2 hv hj2 => ?_, fun x hx => ((h6 x hx).later hV).kept hg1 (not_u8 h2v (by decide))⟩
      simp only [Value.ownBlock, Option.some.injEq] at hv
      subst hv
      exact hp' (by omega)
/-- A record's box is written. -/
theorem Tk.cell {base g : Nat} {xs : List Fx} {j : Nat} {W : World} (h : Tk base g xs j W) {G i : Nat} {cs : Array Value} (hK : Blk W G 30 cs) (u : Value) : Tk base g xs j (W.setCell ⟨G, i, none⟩ u) := by
  obtain ⟨v, p, cj, k1, k2, k3, k4, k5, k6⟩ := h
  have hg1 : W.grownBy (W.setCell ⟨G, i, none⟩ u) (some G) := grown_set (i := i) (World.grownBy.refl W (some G)) u
  refine ⟨v, p, cj, World.ownsRow.kept k1 hg1 (.inr (hK.apart k1 (by decide))), k2.other (fun e => ?_) u, k3, k4, k5, fun x hx => (k6 x hx).kept hg1 (not_u8 hK (by decide))⟩
  subst e
  unfold Blk at k2 hK
  rw [k2] at hK
  injection hK with hK
  injection hK with _ hK
  exact absurd hK (by decide)
/-- What the closure leaves. -/
def TakR (base g : Nat) (xs : List Fx) (j least : Nat) (W : World) (e : Ending) (W' : World) : Prop :=
  W.grownBy W' (some g) ∧ ((e = .returned (.tuple #[recV 0 (.slice none 0 0), .int .i64 0, .bool false]) ∧ segF least ((xs.map Fx.r).drop j) = [] ∧ Tk base g xs j W') ∨
    ∃ (hj : j < xs.length) (r : Rc) (p : Option Addr) (c : Nat), recOf xs[j].r = some r ∧ least ≤ r.n ∧ e = .returned (.tuple #[recV r.n (.slice p r.d.length c), .int .i64 (sizeF r : Nat), .bool true]) ∧ (∀ V, Bs V xs[j].v xs[j].r → Bs V (.slice p r.d.length c) r.d) ∧ Tk base g xs (j + 1) W')
set_option maxHeartbeats 8000000 in
set_option maxRecDepth 100000 in
theorem take12 (base g : Nat) (xs : List Fx) (j least : Nat) (hl : least < 18446744073709551616) (hx : xs.length ≤ 140737488355328) (hm : ∀ x ∈ xs, mayR x.r = true) (W : World) (hP : PartsIs W) (hT : Tk base g xs j W) (hj0 : j ≤ xs.length) : Calls Tryz.prog 68 #[.int .u64 (least : Int), .pointer (some ⟨g, 0, none⟩)] W (TakR base g xs j least W) := by
  have hgW : g < W.heap.size := by obtain ⟨p, cj, h, _⟩ := hT.form; exact h.lt
  have B0 := below_one W (.cells #[.int .u64 0, .slice none 0 0] 30)
  have K0 := Blk.new W 30 #[.int .u64 0, .slice none 0 0]
  obtain ⟨G, hG⟩ : ∃ G, W.heap.size = G := ⟨_, rfl⟩
  obtain ⟨W0, hW0⟩ : ∃ W0, W.alloc (.cells #[.int .u64 0, .slice none 0 0] 30) = W0 := ⟨_, rfl⟩
  rw [hW0] at B0 K0
  have HW0 := Lib.hid hW0
  have HG := Lib.hid hG
  have HP := Lib.hid hP
  have HB0 := Lib.hid B0
  rw [hG] at K0
  have HK0 := Lib.hid K0
  have HT0 := Lib.hid (hT.below B0)
  unfold TakR
  -- an answer that tells nothing, in the world where it is told
  have HNo : Hid (∀ X, Below W0.heap.size W0 X → segF least ((xs.map Fx.r).drop j) = [] → ∃ B6 : W.grownBy ((X.setCell ⟨G, 0, none⟩ (.int .u64 0)).setCell ⟨G, 1, none⟩ (.slice none 0 0)) (some g), Tk base g xs j ((X.setCell ⟨G, 0, none⟩ (.int .u64 0)).setCell ⟨G, 1, none⟩ (.slice none 0 0)) ∧ Blk ((X.setCell ⟨G, 0, none⟩ (.int .u64 0)).setCell ⟨G, 1, none⟩ (.slice none 0 0)) G 30 #[.int .u64 0, .slice none 0 0]) := Lib.hid (fun X hX hs => by
    have hBX : Below W.heap.size W X := HB0.out.trans (hX.mono HB0.out.size)
    have hB6 := set2_below hBX (Nat.le_of_eq HG.out) (.int .u64 0) (.slice none 0 0)
    exact ⟨grown_below hB6 _, hT.below hB6, two_set (HK0.out.later hX) _ _⟩)
  clear hP hT B0 K0 hW0
  by_cases hj : j < xs.length
  · have hat := HT0.out.at hj
    obtain ⟨hb, cj, m, em, hcj, hbl, hcell, hrec, hnext⟩ := hat
    have hmr := hm _ (List.getElem_mem hj)
    have hlen : xs[j].r.length ≤ 2048 := ((mayR_iff _).1 hmr).2
    have hsz : sizeR xs[j].r = xs[j].r.length + 8 := by unfold sizeR; rw [hmr, if_pos rfl]
    have HRc := Lib.hid (fun X (h : Below W.heap.size W X) (hr : Rec X base xs[j].v xs[j].r) => record_any xs[j].v xs[j].r hlen X (HP.out.below h) hr.bs)
    have HSz := Lib.hid (fun X (hr : Rec X base xs[j].v xs[j].r) => size_any xs[j].v xs[j].r (Nat.le_trans hlen (by decide)) X hr.bs)
    have hdrop : (xs.map Fx.r).drop j = xs[j].r :: (xs.map Fx.r).drop (j + 1) := by
      rw [List.drop_eq_getElem_cons (by rw [List.length_map]; exact hj), List.getElem_map]
    obtain ⟨x, hxj⟩ : ∃ x, xs[j] = x := ⟨_, rfl⟩
    rw [hxj] at hcell hrec HRc HSz hsz hdrop hlen
    have HXJ := Lib.hid hxj
    have HDr := Lib.hid hdrop
    obtain ⟨gx, cx, hxv⟩ := hrec.form
    have HRec := Lib.hid hrec
    have HBl := Lib.hid hbl
    have HCell := Lib.hid hcell
    have HNext := Lib.hid hnext
    have HLt := Lib.hid (World.block_lt_of_cell? _ _ hcell)
    have k1 := hbl.cell 0 rfl
    have k2 := hcell
    have hS1 : ∀ X, (Instr.slice 74 (.slice (some ⟨hb, j, none⟩) (m + 1) cj) (some (.int .i64 1)) none none).run Tryz.prog X = .ok (.slice (if cj = 1 then some ⟨hb, j, none⟩ else some ⟨hb, j + 1, none⟩) m (cj - 1)) X := fun X => by
      have q1 : (1 : Int) ≤ (cj : Int) := by omega
      have q2 : 1 ≤ cj := by omega
      have q3 : ¬ (((m + 1 : Nat) : Int) < 1) := by omega
      have q4 : ¬ (cj < m + 1) := by omega
      by_cases hc : cj = 1
      · have q5 : (cj : Int) = 1 := by omega
        obtain rfl : m = 0 := by omega
        go_simp
      · have q5 : ¬ ((cj : Int) = 1) := by omega
        go_simp
        try omega
    rw [hxv] at k2
    have hE1 : ((m : Int) + 1 == 0) = false := by rw [beq_eq_false_iff_ne]; omega
    have hE2 : ¬ ((m : Int) + 1 = 0) := by omega
    have hE3 : ¬ (m + 1 = 0) := by omega
    have hI1 : (0 : Int) < (m : Int) + 1 := by omega
    have HRcx := Lib.hid (HRc.out W0 HB0.out HRec.out)
    obtain ⟨nx, hnx⟩ : ∃ nx, x.r.length = nx := ⟨_, rfl⟩
    have HNX := Lib.hid hnx
    rw [hxv, hnx] at HRcx
    rw [hnx] at k2 hlen hsz
    have HXV := Lib.hid hxv
    have HPS := Lib.hid hsz
    clear hbl hcell hrec hnext hdrop hxj hmr hnx hxv hsz HRc
    go_enter Tryz.func68, Tryz.ntmps68
    go_upto_region 1 with (fail)
    rw [HW0.out]; try rw [HG.out]
    go_wp2_with fail
    refine HRcx.out.mono ?_; rintro e w1 ⟨b1, hc⟩
    have HB1 := Lib.hid b1
    rcases hc with ⟨hr, rfl⟩ | ⟨r, p, c, hr, rfl, hv⟩
    · have HS0 : Hid (segF least ((xs.map Fx.r).drop j) = []) := Lib.hid (by rw [HDr.out]; exact segF_none hr)
      clear b1 hr HRcx k1 k2
      go_upto_region 4 with (fail)
      have B4 := then_ HB1.out (below_one w1 (.cells #[.int .u64 0, .slice none 0 0] 30))
      obtain ⟨W4, hW4⟩ : ∃ W4, w1.alloc (.cells #[.int .u64 0, .slice none 0 0] 30) = W4 := ⟨_, rfl⟩
      rw [hW4] at B4 ⊢
      have K4 := HK0.out.later B4
      have k0a := K4.cell 0 rfl
      have k0b := K4.cell 1 rfl
      have f0 := K4.free 0
      have f1 := K4.free 1
      obtain ⟨H1, H2, H3⟩ := HNo.out _ B4 HS0.out
      have HH1 := Lib.hid H1
      have HH2 := Lib.hid H2
      have c6a := H3.cell 0 rfl
      have c6b := H3.cell 1 rfl
      clear B4 hW4 K4 H1 H2 H3
      go_wp2_with fail
      refine bodyPost_ret (v := .tuple #[recV 0 (.slice none 0 0), .int .i64 0, .bool false]) (by simp [results, Tryz.results68, go_sem, c6a, c6b]) rfl ⟨HH1.out, .inl ⟨rfl, HS0.out, HH2.out⟩⟩
    · have HR := Lib.hid hr
      have HV := Lib.hid hv
      clear hr hv HRcx k1 k2
      obtain ⟨nd, hnd⟩ : ∃ nd, r.d.length = nd := ⟨_, rfl⟩
      have HND := Lib.hid hnd
      rw [hnd]
      have hrn : r.n < 18446744073709551616 := by have := (okRc_iff r).1 (rec_is HR.out).1; omega
      obtain ⟨N, hN⟩ : ∃ N, r.n = N := ⟨_, rfl⟩
      have HN := Lib.hid hN
      rw [hN] at hrn ⊢
      clear hnd hN b1
      go_upto_region 4 with (fail)
      have B4 := then_ HB1.out (below_one w1 (.cells #[.int .u64 (N : Int), .slice p nd c] 30))
      have K4r := Blk.new w1 30 #[.int .u64 (N : Int), .slice p nd c]
      obtain ⟨z, hz⟩ : ∃ z, w1.heap.size = z := ⟨_, rfl⟩
      have hGz : G < z := by have := (HK0.out.later HB1.out).lt; omega
      obtain ⟨W4, hW4⟩ : ∃ W4, w1.alloc (.cells #[.int .u64 (N : Int), .slice p nd c] 30) = W4 := ⟨_, rfl⟩
      rw [hW4, hz] at K4r
      rw [hW4] at B4 ⊢
      rw [hz]
      have K4 := HK0.out.later B4
      have k0a := K4.cell 0 rfl
      have k0b := K4.cell 1 rfl
      have f0 := K4.free 0
      have f1 := K4.free 1
      have r0 := K4r.cell 0 rfl
      have r1 := K4r.cell 1 rfl
      by_cases hle : least ≤ N
      · have hle1 : ¬ ((N : Int) < least) := by omega
        have k1 := (HBl.out.later B4).cell 0 rfl
        have k2 := (B4.cell (p := ⟨hb, j, none⟩) HLt.out).trans HCell.out
        have f3 := (HBl.out.later B4).free 0
        have HRec4 := HRec.out.later B4
        have HSz4 := Lib.hid (HSz.out _ HRec4)
        have HT4 := Lib.hid (HNext.out W4 B4 (if cj = 1 then some ⟨hb, j, none⟩ else some ⟨hb, j + 1, none⟩) (fun h => by rw [if_neg (by omega)]))
        rw [HXV.out] at k2 HSz4
        rw [HPS.out] at HSz4
        rw [HNX.out] at k2 HSz4
        have HKg := HBl.out.later B4
        have hGg : G ≠ g := by have := HG.out; omega
        have hzg : z ≠ g := by omega
        obtain ⟨P1, hP1⟩ : ∃ P1, (if cj = 1 then some (⟨hb, j, none⟩ : Addr) else some ⟨hb, j + 1, none⟩) = P1 := ⟨_, rfl⟩
        rw [hP1] at HT4 hS1
        -- behind the store of what is left
        have K4' : Blk (W4.setCell ⟨g, 0, none⟩ (.slice P1 m (cj - 1))) G 30 #[.int .u64 0, .slice none 0 0] := K4.other hGg _
        have K4r' : Blk (W4.setCell ⟨g, 0, none⟩ (.slice P1 m (cj - 1))) z 30 #[.int .u64 (N : Int), .slice p nd c] := K4r.other hzg _
        have s0 := K4'.cell 0 rfl
        have s1 := K4'.cell 1 rfl
        have s2 := K4'.free 0
        have s3 := K4'.free 1
        have s4 := K4r'.cell 0 rfl
        have s5 := K4r'.cell 1 rfl
        have K6 := two_set K4' (.int .u64 (N : Int)) (.slice p nd c)
        have c6a := K6.cell 0 rfl
        have c6b := K6.cell 1 rfl
        have hgr : W.grownBy W4 (some g) := grown_below (HB0.out.trans (B4.mono HB0.out.size)) _
        have HGr := Lib.hid (grown_new (i := 1) (u := .slice p nd c) (grown_new (i := 0) (u := .int .u64 (N : Int)) (grown_set (i := 0) hgr (.slice P1 m (cj - 1))) (Nat.le_of_eq HG.out)) (Nat.le_of_eq HG.out))
        have HTf := Lib.hid ((HT4.out.cell (i := 0) K4' (.int .u64 (N : Int))).cell (i := 1) (blk_set K4' (.int .u64 (N : Int))) (.slice p nd c))
        have hsz : sizeF r = nx + 8 := by
          unfold sizeF
          rw [← (rec_is HR.out).2, HNX.out]
        have HSF := Lib.hid hsz
        clear B4 hW4 hz K4 K4r K4' K4r' K6 hgr HRec4 HSz HKg hP1 hsz
        go_wp2_with fail
        refine HSz4.out.mono ?_; rintro e w5 ⟨rfl, rfl⟩
        go_wp2_with fail
        refine bodyPost_ret (v := .tuple #[recV N (.slice p nd c), .int .i64 ((nx + 8 : Nat) : Int), .bool true]) (by simp [results, Tryz.results68, go_sem, c6a, c6b]) rfl ⟨HGr.out, .inr ⟨hj, r, p, c, by rw [HXJ.out]; exact HR.out, by rw [HN.out]; exact hle, by rw [HN.out, HND.out, HSF.out], by rw [HXJ.out, HXV.out, HNX.out]; exact HV.out, HTf.out⟩⟩
      · have hle1 : (N : Int) < least := by omega
        have HS0 : Hid (segF least ((xs.map Fx.r).drop j) = []) := Lib.hid (by rw [HDr.out]; exact segF_low HR.out (by rw [HN.out]; omega))
        obtain ⟨H1, H2, H3⟩ := HNo.out _ B4 HS0.out
        have HH1 := Lib.hid H1
        have HH2 := Lib.hid H2
        have c6a := H3.cell 0 rfl
        have c6b := H3.cell 1 rfl
        clear B4 hW4 K4 K4r H1 H2 H3
        go_wp2_with fail
        refine bodyPost_ret (v := .tuple #[recV 0 (.slice none 0 0), .int .i64 0, .bool false]) (by simp [results, Tryz.results68, go_sem, c6a, c6b]) rfl ⟨HH1.out, .inl ⟨rfl, HS0.out, HH2.out⟩⟩
  · obtain rfl : j = xs.length := by omega
    obtain ⟨p, cj, hbl, _⟩ := HT0.out.form
    rw [Nat.sub_self] at hbl
    have k1 := hbl.cell 0 rfl
    have HS0 : Hid (segF least ((xs.map Fx.r).drop xs.length) = []) := Lib.hid (by rw [List.drop_of_length_le (by rw [List.length_map]; exact Nat.le_refl _)]; rfl)
    obtain ⟨H1, H2, H3⟩ := HNo.out _ (Below.refl _ _) HS0.out
    have HH1 := Lib.hid H1
    have HH2 := Lib.hid H2
    have k0a := HK0.out.cell 0 rfl
    have k0b := HK0.out.cell 1 rfl
    have f0 := HK0.out.free 0
    have f1 := HK0.out.free 1
    have c6a := H3.cell 0 rfl
    have c6b := H3.cell 1 rfl
    clear H1 H2 H3 hbl
    go_enter Tryz.func68, Tryz.ntmps68
    go_upto_region 1 with (fail)
    rw [HW0.out]; try rw [HG.out]
    go_wp2_with fail
    refine bodyPost_ret (v := .tuple #[recV 0 (.slice none 0 0), .int .i64 0, .bool false]) (by simp [results, Tryz.results68, go_sem, c6a, c6b]) rfl ⟨HH1.out, .inl ⟨rfl, HS0.out, HH2.out⟩⟩
end Go.Proofs.YtelocbohiddpgaaGreatDoor.Crc
