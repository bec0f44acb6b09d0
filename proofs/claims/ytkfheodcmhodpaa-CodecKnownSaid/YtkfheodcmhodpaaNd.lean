/- The walk of CodecApart. -/
import Derived.Test.YtkfheodcmhodpaaNb
import Derived.Test.YtkfheodcmhodpaaRMc
import Derived.Test.YtkfheodcmhodpaaRMa
set_option linter.unusedSimpArgs false
set_option linter.unusedVariables false
namespace Go.Proofs.Ytkfheodcmhodpaa.Gm
open Go Go.RowKit
attribute [local go_sem ↓] Go.wp_at_zero Go.wp_at_succ

theorem slice_pre_b (p : Option Addr) (m cap k : Nat) (hk : k ≤ m) (hc : m ≤ cap) (hp : p = none → cap = 0) (W : World) : (Instr.slice 25 (.slice p m cap) none (some (.int .i64 (k : Int))) none).run Try.prog W = .ok (.slice p k cap) W := by
  cases p with
  | none =>
    have := hp rfl
    subst this
    have : k = 0 := by omega
    subst this
    have : m = 0 := by omega
    subst this
    go_simp
  | some a =>
    have h1 : (k : Int) ≤ (cap : Int) := by omega
    have h2 : k ≤ cap := by omega
    go_simp
theorem bs_room {w : World} {p : Option Addr} {n cap : Nat} {L : List UInt8} (h : Bs w (.slice p n cap) L) : n = L.length ∧ L.length ≤ cap ∧ (p = none → cap = 0) := by
  rcases h with ⟨h1, h2⟩ | ⟨a, cap', h1, h2, _⟩
  · simp only [Value.slice.injEq] at h1
    obtain ⟨rfl, rfl, rfl⟩ := h1
    subst h2
    exact ⟨rfl, Nat.le_refl _, fun _ => rfl⟩
  · simp only [Value.slice.injEq] at h1
    obtain ⟨rfl, rfl, rfl⟩ := h1
    exact ⟨rfl, h2, fun h => by cases h⟩
/-- The first bytes. -/
theorem bs_first {w : World} {p : Option Addr} {n cap : Nat} {L : List UInt8} (h : Bs w (.slice p n cap) L) {k : Nat} (hk : k ≤ n) : Bs w (.slice p k cap) (L.take k) := by
  obtain ⟨h1, h2, h3⟩ := bs_room h
  cases p with
  | none =>
    have := h3 rfl
    subst this
    have : L = [] := List.eq_nil_of_length_eq_zero (by omega)
    subst this
    have : k = 0 := by simp at h1; omega
    subst this
    exact Bs.nil w
  | some a =>
    subst h1
    exact Bs.take h hk
theorem str_eq (X Y : List UInt8) (b : Bool) (h : (X = Y) ↔ b = true) : ((⟨X.toArray⟩ : ByteArray).toList == (⟨Y.toArray⟩ : ByteArray).toList) = b := by
  rw [toList_data, toList_data, Bool.eq_iff_iff, beq_iff_eq]
  exact h
theorem nat_min (a b : Nat) : min (a : Int) (b : Int) = ((min a b : Nat) : Int) := by omega
theorem putE_some {x : Ev} (h : (putE x).isSome = true) : mayE x.1 x.2 = true ∧ (putE x).getD [] = formE x := by
  unfold putE at *
  by_cases hm : mayE x.1 x.2 = true
  · rw [if_pos hm]; exact ⟨hm, rfl⟩
  · rw [if_neg hm] at h; cases h
theorem putP_some {l : List Cn} (h : (putP l).isSome = true) : mayPr l = true ∧ (putP l).getD [] = formPz (toPz l) := by
  unfold putP at *
  by_cases hm : mayPr l = true
  · rw [if_pos hm]; exact ⟨hm, rfl⟩
  · rw [if_neg hm] at h; cases h
theorem cmpL_bareP : ∀ a b : List Cn, cmpL cmpC (a.map bare) (b.map bare) = cmpL cmpC a b
  | [], [] => rfl
  | [], _ :: _ => rfl
  | _ :: _, [] => rfl
  | x :: a, y :: b => by simp only [List.map_cons, cmpL, cmpC_bare, cmpL_bareP a b]
theorem same_bareP {a b : List Cn} (h : a.map bare = b.map bare) : cmpL cmpC a b = 0 := by rw [← cmpL_bareP, h]; exact (weak_list weakC).self _
theorem bare_sameP {a b : List Cn} (h : cmpL cmpC a b = 0) : a.map bare = b.map bare := by
  rw [← cmpL_bareP] at h
  have h2 : ∀ a b : List Cn, cmpL cmpC (a.map bare) (b.map bare) = 0 → a.map bare = b.map bare := by
    intro a
    induction a with
    | nil => intro b h; cases b <;> simp [cmpL] at h ⊢
    | cons x a ih =>
      intro b h
      cases b with
      | nil => simp [cmpL] at h
      | cons y b =>
        simp only [List.map_cons, cmpL] at h
        by_cases e : cmpC (bare x) (bare y) = 0
        · rw [if_pos e] at h
          rw [List.map_cons, List.map_cons, cmpC_zero x y e, ih b h]
        · rw [if_neg e] at h; exact absurd h e
  exact h2 a b h

theorem mayP_wfs {l : List Cn} (h : mayPr l = true) (hf : FitsP l) : WfPzs (toPz l) ∧ ∀ c ∈ l, 0 ≤ c.op := by
  obtain ⟨a, b⟩ := may_wfp h hf
  refine ⟨⟨a.1, fun c hc => ?_⟩, fun c hc => by obtain ⟨_, e, _⟩ := may_wfc (b c hc) (hf c hc); omega⟩
  obtain ⟨x, hx, rfl⟩ := List.mem_map.1 hc
  obtain ⟨h1, h2, h3, h4⟩ := may_wfc (b x hx) (hf x hx)
  refine ⟨h1.1, ?_⟩
  have h5 := h1.2
  unfold WfCt at h5
  unfold WfCts
  split
  · rename_i e9
    rw [if_pos e9] at h5
    exact ⟨h5.1, h5.2.1, fun v hv => ⟨h5.2.2 v hv, h4 v hv⟩⟩
  · rename_i e9
    rw [if_neg e9] at h5
    split
    · rename_i e1
      rw [if_pos e1] at h5
      exact h5
    · rename_i e1
      rw [if_neg e1] at h5
      simp only [toCz] at e1 e9
      exact ⟨⟨h5.1, h3 (by omega) (by omega)⟩, h5.2⟩
theorem toCz_inj {c d : Cn} (hc : 0 ≤ c.op) (hd : 0 ≤ d.op) : toCz c = toCz d ↔ bare c = bare d := by
  obtain ⟨nm, op, v, sp, sc, set⟩ := c
  obtain ⟨nm', op', v', sp', sc', set'⟩ := d
  simp only at hc hd
  simp only [toCz, bare, Prod.mk.injEq, Cn.mk.injEq]
  constructor
  · rintro ⟨⟨rfl, h⟩, rfl, rfl⟩
    exact ⟨rfl, by omega, by simp⟩
  · rintro ⟨rfl, rfl, rfl, _, _, rfl⟩
    simp
theorem toPz_inj : ∀ {a b : List Cn}, (∀ c ∈ a, 0 ≤ c.op) → (∀ c ∈ b, 0 ≤ c.op) → (toPz a = toPz b ↔ a.map bare = b.map bare)
  | [], [], _, _ => by simp [toPz]
  | [], _ :: _, _, _ => by simp [toPz]
  | _ :: _, [], _, _ => by simp [toPz]
  | x :: a, y :: b, h1, h2 => by
    have ih := toPz_inj (a := a) (b := b) (fun c hc => h1 c (by simp [hc])) (fun c hc => h2 c (by simp [hc]))
    have hx := toCz_inj (h1 x (by simp)) (h2 y (by simp))
    unfold toPz at ih ⊢
    rw [List.map_cons, List.map_cons, List.map_cons, List.map_cons, List.cons.injEq, List.cons.injEq, hx, ih]
theorem same_pz {a b : List Cn} (h1 : ∀ c ∈ a, 0 ≤ c.op) (h2 : ∀ c ∈ b, 0 ≤ c.op) : toPz a = toPz b ↔ decide (cmpL cmpC a b = 0) = true := by
  rw [toPz_inj h1 h2, decide_eq_true_iff]
  exact ⟨same_bareP, bare_sameP⟩
set_option maxHeartbeats 8000000 in
set_option maxRecDepth 20000 in
theorem law_capart (k1 k2 : ByteArray) (u1 u2 v3 v4 : Value) (l1 l2 : List Attr) (c3 c4 : List Cn) (w : World) (hS1 : Sl w u1 l1) (hR1 : Room l1) (hS2 : Sl w u2 l2) (hR2 : Room l2) (hC3 : Cs w v3 c3) (hF3 : FitsP c3) (hC4 : Cs w v4 c4) (hF4 : FitsP c4) : Calls Try.prog 8 #[.agg #[.string k1, u1], .agg #[.string k2, u2], v3, v4] w (Gives (.bool true) w) := by
  have HP1 := Lib.hid (fun W (h : Below w.heap.size w W) => pe_any k1 u1 l1 W (hS1.below h) hR1)
  have HP2 := Lib.hid (fun W (h : Below w.heap.size w W) => pe_any k2 u2 l2 W (hS2.below h) hR2)
  have HQ3 := Lib.hid (fun W (h : Below w.heap.size w W) => pp_any v3 c3 W (hC3.later h) hF3)
  have HQ4 := Lib.hid (fun W (h : Below w.heap.size w W) => pp_any v4 c4 W (hC4.later h) hF4)
  have HSa := Lib.hid (fun W (h : Below w.heap.size w W) => qsame_any k1 k2 u1 u2 l1 l2 W (hS1.below h) (hS2.below h))
  have HSp := Lib.hid (fun W (h : Below w.heap.size w W) => rsame_any v3 v4 c3 c4 W (hC3.later h) (hC4.later h))
  obtain ⟨p1, ca1, b1, o1, rfl, _⟩ := hS1
  obtain ⟨p2, ca2, b2, o2, rfl, _⟩ := hS2
  obtain ⟨p3, ca3, rfl⟩ := hC3.1.form
  obtain ⟨p4, ca4, rfl⟩ := hC4.1.form
  have HB0 := Lib.hid (below_two (o := .cells #[.string k2, .slice p2 l2.length ca2] 24) (below_one w (.cells #[.string k1, .slice p1 l1.length ca1] 24)))
  have HX0 := Lib.hid ((Blk.new w 24 #[.string k1, .slice p1 l1.length ca1]).alloc (.cells #[.string k2, .slice p2 l2.length ca2] 24))
  have HY0 : Hid (Blk ((w.alloc (.cells #[.string k1, .slice p1 l1.length ca1] 24)).alloc (.cells #[.string k2, .slice p2 l2.length ca2] 24)) (w.heap.size + 1) 24 #[.string k2, .slice p2 l2.length ca2]) := Lib.hid (by have h := Blk.new (w.alloc (.cells #[.string k1, .slice p1 l1.length ca1] 24)) 24 #[.string k2, .slice p2 l2.length ca2]; simpa using h)
  have x0 := HX0.out.cell 0 rfl
  have x1 := HX0.out.cell 1 rfl
  clear hC3 hC4
  go_enter Try.func8, Try.ntmps8
  go_wp2_with fail
  refine (HP1.out _ HB0.out).mono ?_; rintro e w1 ⟨va, rfl, hoa, ba⟩
  obtain ⟨e1, he1⟩ : ∃ e1 : Int, (if (putE (k1, l1)).isSome then 0 else 30) = e1 := ⟨_, rfl⟩
  rw [he1]
  have HE1 := Lib.hid he1
  have HA := Lib.hid hoa
  have HB1 := Lib.hid (then_ HB0.out ba)
  have HX1 := Lib.hid (HX0.out.later ba)
  have HY1 := Lib.hid (HY0.out.later ba)
  have y0 := HY1.out.cell 0 rfl
  have y1 := HY1.out.cell 1 rfl
  obtain ⟨qa, cca, rfl⟩ := hoa.form
  obtain ⟨N1, hN1⟩ : ∃ N1, ((putE (k1, l1)).getD []).length = N1 := ⟨_, rfl⟩
  have HN1 := Lib.hid hN1
  rw [hN1] at HA ⊢
  clear he1 hoa ba hN1 HX0 HY0 x0 x1
  go_wp2_with fail
  refine (HP2.out _ HB1.out).mono ?_; rintro e w2 ⟨vb, rfl, hob, bb⟩
  obtain ⟨e2, he2⟩ : ∃ e2 : Int, (if (putE (k2, l2)).isSome then 0 else 30) = e2 := ⟨_, rfl⟩
  rw [he2]
  have HE2 := Lib.hid he2
  have HA2 := Lib.hid (HA.out.below bb)
  have HBy := Lib.hid hob
  have HB2 := Lib.hid (then_ HB1.out bb)
  have HX2 := Lib.hid (HX1.out.later bb)
  have HY2 := Lib.hid (HY1.out.later bb)
  obtain ⟨qb, ccb, rfl⟩ := hob.form
  obtain ⟨N2, hN2⟩ : ∃ N2, ((putE (k2, l2)).getD []).length = N2 := ⟨_, rfl⟩
  have HN2 := Lib.hid hN2
  rw [hN2] at HBy ⊢
  clear he2 hob bb hN2 HA y0 y1
  obtain ⟨s1, hs1⟩ : ∃ s1, (putE (k1, l1)).isSome = s1 := ⟨_, rfl⟩
  obtain ⟨s2, hs2⟩ : ∃ s2, (putE (k2, l2)).isSome = s2 := ⟨_, rfl⟩
  rw [hs1] at HE1
  rw [hs2] at HE2
  have HS1 := Lib.hid hs1
  have HS2 := Lib.hid hs2
  clear hs1 hs2
  go_upto_region 3 with (fail)
  go_cut [32] from 27 to 32 (fun t wq => t = .bool (s1 && s2) ∧ w2 = wq)
  case first =>
    cases s1 <;> cases s2
    all_goals
      have g1 := HE1.out
      have g2 := HE2.out
      simp only [if_true, if_false, Bool.false_eq_true, reduceIte] at g1 g2
      subst g1 g2
      go_wp2_with fail
      go_meet
      exact ⟨rfl, rfl⟩
  case rest =>
  obtain ⟨rfl, rfl⟩ := hcut
  go_upto_if 32 with (fail)
  go_cut [] from 27 to 50 (fun wq => Below w.heap.size w wq)
  case first =>
    cases hb : (s1 && s2) with
    | false =>
      go_wp2_with fail
      go_meet
      exact HB2.out
    | true =>
      obtain ⟨rfl, rfl⟩ : s1 = true ∧ s2 = true := by simpa using hb
      obtain ⟨ma, ea⟩ := putE_some HS1.out
      obtain ⟨mb, eb⟩ := putE_some HS2.out
      have HA3 : Hid (Bs w2 (.slice qa N1 cca) (formE (k1, l1))) := Lib.hid (by have h := HA2.out.bs; rwa [ea] at h)
      have HB3 : Hid (Bs w2 (.slice qb N2 ccb) (formE (k2, l2))) := Lib.hid (by have h := HBy.out.bs; rwa [eb] at h)
      obtain ⟨na, ra, pa⟩ := bs_room HA3.out
      obtain ⟨nb, rb, pb⟩ := bs_room HB3.out
      by_cases hle : N1 ≤ N2
      · skip
        have sa := fun W => slice_pre_b qa N1 cca N1 (by omega) (by omega) pa W
        have sb := fun W => slice_pre_b qb N2 ccb N1 (by omega) (by omega) pb W
        have ca := fun (z : Later w2) => conv_bs ((bs_first HA3.out (k := N1) (by omega)).below (Later.bel z)) 9 Try.underlying9
        have cb := fun (z : Later w2) => conv_bs ((bs_first HB3.out (k := N1) (by omega)).below (Later.bel z)) 9 Try.underlying9
        have hse := str_eq ((formE (k1, l1)).take N1) ((formE (k2, l2)).take N1) (sameB k1 l1 k2 l2) (by
          have h := codec_es.apart (mayE_wfs (e := (k1, l1)) ma (fun a ha => (hR1 a ha).1)) (mayE_wfs (e := (k2, l2)) mb (fun a ha => (hR2 a ha).1))
          rw [← na, ← nb, show min N1 N2 = N1 by omega] at h
          rw [h, sameB_iff, Prod.mk.injEq])
        have HSm := Lib.hid (fun W (h : Below w2.heap.size w2 W) => HSa.out W (then_ HB2.out h))
        have f0 := fun (z : Later w2) => Later.cell (HX2.out.cell 0 rfl) z
        have f1 := fun (z : Later w2) => Later.cell (HX2.out.cell 1 rfl) z
        have g0 := fun (z : Later w2) => Later.cell (HY2.out.cell 0 rfl) z
        have g1 := fun (z : Later w2) => Later.cell (HY2.out.cell 1 rfl) z
        obtain ⟨sm, hsm⟩ : ∃ sm, sameB k1 l1 k2 l2 = sm := ⟨_, rfl⟩
        rw [hsm] at hse HSm
        obtain ⟨XA, hXA⟩ : ∃ XA, (⟨((formE (k1, l1)).take N1).toArray⟩ : ByteArray) = XA := ⟨_, rfl⟩
        obtain ⟨XB, hXB⟩ : ∃ XB, (⟨((formE (k2, l2)).take N1).toArray⟩ : ByteArray) = XB := ⟨_, rfl⟩
        simp only [hXA] at ca hse
        simp only [hXB] at cb hse
        have hl1 : decide ((N1 : Int) ≤ (N2 : Int)) = true := by simp; omega
        have hl2 : (N1 : Int) ≤ (N2 : Int) := by omega
        clear na nb ra rb pa pb hle ma mb ea eb hb hXA hXB hsm
        cases sm
        all_goals
          go_wp2_with fail
          refine wp_region_later (by kernel_rfl) (by kernel_rfl) ?_
          repeat (quiet_step ((first | (go_at_call 15; exact later_call _ (HSm.out _ (Later.bel _))))))
          refine wpQuiet_nil ?_
          intro wz hw'
          obtain ⟨⟨_, hbz⟩, rfl⟩ := hw'
          have HBz := Lib.hid (then_ HB2.out hbz)
          clear hbz ca cb f0 f1 g0 g1
          go_wp2_with fail
          go_meet
          exact HBz.out
      · skip
        have sa := fun W => slice_pre_b qa N1 cca N2 (by omega) (by omega) pa W
        have sb := fun W => slice_pre_b qb N2 ccb N2 (by omega) (by omega) pb W
        have ca := fun (z : Later w2) => conv_bs ((bs_first HA3.out (k := N2) (by omega)).below (Later.bel z)) 9 Try.underlying9
        have cb := fun (z : Later w2) => conv_bs ((bs_first HB3.out (k := N2) (by omega)).below (Later.bel z)) 9 Try.underlying9
        have hse := str_eq ((formE (k1, l1)).take N2) ((formE (k2, l2)).take N2) (sameB k1 l1 k2 l2) (by
          have h := codec_es.apart (mayE_wfs (e := (k1, l1)) ma (fun a ha => (hR1 a ha).1)) (mayE_wfs (e := (k2, l2)) mb (fun a ha => (hR2 a ha).1))
          rw [← na, ← nb, show min N1 N2 = N2 by omega] at h
          rw [h, sameB_iff, Prod.mk.injEq])
        have HSm := Lib.hid (fun W (h : Below w2.heap.size w2 W) => HSa.out W (then_ HB2.out h))
        have f0 := fun (z : Later w2) => Later.cell (HX2.out.cell 0 rfl) z
        have f1 := fun (z : Later w2) => Later.cell (HX2.out.cell 1 rfl) z
        have g0 := fun (z : Later w2) => Later.cell (HY2.out.cell 0 rfl) z
        have g1 := fun (z : Later w2) => Later.cell (HY2.out.cell 1 rfl) z
        obtain ⟨sm, hsm⟩ : ∃ sm, sameB k1 l1 k2 l2 = sm := ⟨_, rfl⟩
        rw [hsm] at hse HSm
        obtain ⟨XA, hXA⟩ : ∃ XA, (⟨((formE (k1, l1)).take N2).toArray⟩ : ByteArray) = XA := ⟨_, rfl⟩
        obtain ⟨XB, hXB⟩ : ∃ XB, (⟨((formE (k2, l2)).take N2).toArray⟩ : ByteArray) = XB := ⟨_, rfl⟩
        simp only [hXA] at ca hse
        simp only [hXB] at cb hse
        have hl1 : decide ((N1 : Int) ≤ (N2 : Int)) = false := by simp; omega
        have hl2 : ¬ (N1 : Int) ≤ (N2 : Int) := by omega
        clear na nb ra rb pa pb hle ma mb ea eb hb hXA hXB hsm
        cases sm
        all_goals
          go_wp2_with fail
          refine wp_region_later (by kernel_rfl) (by kernel_rfl) ?_
          repeat (quiet_step ((first | (go_at_call 15; exact later_call _ (HSm.out _ (Later.bel _))))))
          refine wpQuiet_nil ?_
          intro wz hw'
          obtain ⟨⟨_, hbz⟩, rfl⟩ := hw'
          have HBz := Lib.hid (then_ HB2.out hbz)
          clear hbz ca cb f0 f1 g0 g1
          go_wp2_with fail
          go_meet
          exact HBz.out
  case rest =>
  have HBc := Lib.hid hcut
  clear hcut HX2 HY2 HBy HA2
  go_wp2_with fail
  refine (HQ3.out _ HBc.out).mono ?_; rintro e w3 ⟨vc, rfl, hoc, bc⟩
  obtain ⟨e3, he3⟩ : ∃ e3 : Int, (if (putP c3).isSome then 0 else 30) = e3 := ⟨_, rfl⟩
  rw [he3]
  have HE3 := Lib.hid he3
  have HC := Lib.hid hoc
  have HB3 := Lib.hid (then_ HBc.out bc)
  obtain ⟨qc, ccc, rfl⟩ := hoc.form
  obtain ⟨N3, hN3⟩ : ∃ N3, ((putP c3).getD []).length = N3 := ⟨_, rfl⟩
  rw [hN3] at HC ⊢
  clear he3 hoc bc hN3
  go_wp2_with fail
  refine (HQ4.out _ HB3.out).mono ?_; rintro e w4 ⟨vd, rfl, hod, bd⟩
  obtain ⟨e4, he4⟩ : ∃ e4 : Int, (if (putP c4).isSome then 0 else 30) = e4 := ⟨_, rfl⟩
  rw [he4]
  have HE4 := Lib.hid he4
  have HC4 := Lib.hid (HC.out.below bd)
  have HD := Lib.hid hod
  have HB4 := Lib.hid (then_ HB3.out bd)
  obtain ⟨qd, ccd, rfl⟩ := hod.form
  obtain ⟨N4, hN4⟩ : ∃ N4, ((putP c4).getD []).length = N4 := ⟨_, rfl⟩
  rw [hN4] at HD ⊢
  clear he4 hod bd hN4 HC
  cases h3 : (putP c3).isSome with
  | false =>
    have g3 := HE3.out
    rw [h3] at g3
    simp only [Bool.false_eq_true, reduceIte] at g3
    subst g3
    go_wp2_with fail
    refine (wakes_any _).mono ?_; rintro e w5 ⟨rfl, b5⟩
    go_wp2_with fail
    go_ret
    exact ⟨rfl, then_ HB4.out b5⟩
  | true =>
    have g3 := HE3.out
    rw [h3] at g3
    simp only [reduceIte] at g3
    subst g3
    cases h4 : (putP c4).isSome with
    | false =>
      have g4 := HE4.out
      rw [h4] at g4
      simp only [Bool.false_eq_true, reduceIte] at g4
      subst g4
      go_wp2_with fail
      refine (wakes_any _).mono ?_; rintro e w5 ⟨rfl, b5⟩
      go_wp2_with fail
      go_ret
      exact ⟨rfl, then_ HB4.out b5⟩
    | true =>
      have g4 := HE4.out
      rw [h4] at g4
      simp only [reduceIte] at g4
      subst g4
      obtain ⟨ma, ea⟩ := putP_some h3
      obtain ⟨mb, eb⟩ := putP_some h4
      have hb : True := trivial
      have HA3 : Hid (Bs w4 (.slice qc N3 ccc) (formPz (toPz c3))) := Lib.hid (by have h := HC4.out.bs; rwa [ea] at h)
      have HB3' : Hid (Bs w4 (.slice qd N4 ccd) (formPz (toPz c4))) := Lib.hid (by have h := HD.out.bs; rwa [eb] at h)
      clear HB3
      have HB3 := HB3'
      obtain ⟨na, ra, pa⟩ := bs_room HA3.out
      obtain ⟨nb, rb, pb⟩ := bs_room HB3.out
      by_cases hle : N3 ≤ N4
      · skip
        have sa := fun W => slice_pre_b qc N3 ccc N3 (by omega) (by omega) pa W
        have sb := fun W => slice_pre_b qd N4 ccd N3 (by omega) (by omega) pb W
        have ca := fun (z : Later w4) => conv_bs ((bs_first HA3.out (k := N3) (by omega)).below (Later.bel z)) 9 Try.underlying9
        have cb := fun (z : Later w4) => conv_bs ((bs_first HB3.out (k := N3) (by omega)).below (Later.bel z)) 9 Try.underlying9
        have hse := str_eq ((formPz (toPz c3)).take N3) ((formPz (toPz c4)).take N3) (decide (cmpL cmpC c3 c4 = 0)) (by
          have h := codec_pzs.apart (mayP_wfs ma hF3).1 (mayP_wfs mb hF4).1
          rw [← na, ← nb, show min N3 N4 = N3 by omega] at h
          rw [h]; exact same_pz (mayP_wfs ma hF3).2 (mayP_wfs mb hF4).2)
        have HSm := Lib.hid (fun W (h : Below w4.heap.size w4 W) => HSp.out W (then_ HB4.out h))
        obtain ⟨sm, hsm⟩ : ∃ sm, decide (cmpL cmpC c3 c4 = 0) = sm := ⟨_, rfl⟩
        rw [hsm] at hse HSm
        obtain ⟨XA, hXA⟩ : ∃ XA, (⟨((formPz (toPz c3)).take N3).toArray⟩ : ByteArray) = XA := ⟨_, rfl⟩
        obtain ⟨XB, hXB⟩ : ∃ XB, (⟨((formPz (toPz c4)).take N3).toArray⟩ : ByteArray) = XB := ⟨_, rfl⟩
        simp only [hXA] at ca hse
        simp only [hXB] at cb hse
        have hl1 : decide ((N3 : Int) ≤ (N4 : Int)) = true := by simp; omega
        have hl2 : (N3 : Int) ≤ (N4 : Int) := by omega
        clear na nb ra rb pa pb hle ma mb ea eb hb hXA hXB hsm
        cases sm
        all_goals
          go_wp2_with fail
          refine wp_region_later (by kernel_rfl) (by kernel_rfl) ?_
          repeat (quiet_step ((first | (go_at_call 22; exact later_call _ (HSm.out _ (Later.bel _))) | (go_at_call 17; exact later_call _ (wakes_any _)))))
          refine wpQuiet_nil ?_
          intro wz hw'
          obtain ⟨⟨_, hbz⟩, rfl⟩ := hw'
          have HBz := Lib.hid (then_ HB4.out hbz)
          clear hbz ca cb
          go_wp2_with fail
          go_ret
          exact ⟨rfl, HBz.out⟩
      · skip
        have sa := fun W => slice_pre_b qc N3 ccc N4 (by omega) (by omega) pa W
        have sb := fun W => slice_pre_b qd N4 ccd N4 (by omega) (by omega) pb W
        have ca := fun (z : Later w4) => conv_bs ((bs_first HA3.out (k := N4) (by omega)).below (Later.bel z)) 9 Try.underlying9
        have cb := fun (z : Later w4) => conv_bs ((bs_first HB3.out (k := N4) (by omega)).below (Later.bel z)) 9 Try.underlying9
        have hse := str_eq ((formPz (toPz c3)).take N4) ((formPz (toPz c4)).take N4) (decide (cmpL cmpC c3 c4 = 0)) (by
          have h := codec_pzs.apart (mayP_wfs ma hF3).1 (mayP_wfs mb hF4).1
          rw [← na, ← nb, show min N3 N4 = N4 by omega] at h
          rw [h]; exact same_pz (mayP_wfs ma hF3).2 (mayP_wfs mb hF4).2)
        have HSm := Lib.hid (fun W (h : Below w4.heap.size w4 W) => HSp.out W (then_ HB4.out h))
        obtain ⟨sm, hsm⟩ : ∃ sm, decide (cmpL cmpC c3 c4 = 0) = sm := ⟨_, rfl⟩
        rw [hsm] at hse HSm
        obtain ⟨XA, hXA⟩ : ∃ XA, (⟨((formPz (toPz c3)).take N4).toArray⟩ : ByteArray) = XA := ⟨_, rfl⟩
        obtain ⟨XB, hXB⟩ : ∃ XB, (⟨((formPz (toPz c4)).take N4).toArray⟩ : ByteArray) = XB := ⟨_, rfl⟩
        simp only [hXA] at ca hse
        simp only [hXB] at cb hse
        have hl1 : decide ((N3 : Int) ≤ (N4 : Int)) = false := by simp; omega
        have hl2 : ¬ (N3 : Int) ≤ (N4 : Int) := by omega
        clear na nb ra rb pa pb hle ma mb ea eb hb hXA hXB hsm
        cases sm
        all_goals
          go_wp2_with fail
          refine wp_region_later (by kernel_rfl) (by kernel_rfl) ?_
          repeat (quiet_step ((first | (go_at_call 22; exact later_call _ (HSm.out _ (Later.bel _))) | (go_at_call 17; exact later_call _ (wakes_any _)))))
          refine wpQuiet_nil ?_
          intro wz hw'
          obtain ⟨⟨_, hbz⟩, rfl⟩ := hw'
          have HBz := Lib.hid (then_ HB4.out hbz)
          clear hbz ca cb
          go_wp2_with fail
          go_ret
          exact ⟨rfl, HBz.out⟩
end Go.Proofs.Ytkfheodcmhodpaa.Gm
