/- The document's TakePage. -/
import Derived.Test.YtkfheodcmhodpaaGreatVw
import Derived.Test.YtkfheodcmhodpaaGreatVq
set_option linter.unusedSimpArgs false
set_option linter.unusedVariables false
namespace Go.Proofs.YtkfheodcmhodpaaGreat.Gm
open Go Go.RowKit
attribute [local go_sem ↓] Go.wp_at_zero Go.wp_at_succ

theorem many_stepP {α β : Type} (rd : Rd α) (F : List α × List UInt8 → β) (D : List UInt8) (m : Nat) (x : α) (hx : ∀ z, (rd D).map Prod.fst = some z → z = x) : (manyR rd (m + 1) D).map F = (((rd D).map Prod.snd).bind (manyR rd m)).map (fun q => F (x :: q.1, q.2)) := by
  show (bindR rd (fun x => mapR (manyR rd m) fun l => x :: l) D).map F = _
  unfold bindR
  cases hs : rd D with
  | none => rfl
  | some y =>
    obtain ⟨y, E⟩ := y
    have := hx y (by rw [hs]; rfl)
    subst this
    simp only [Option.map_some, Option.bind_some]
    unfold mapR
    cases manyR rd m E <;> rfl
theorem many_endP {α β : Type} (rd : Rd α) (F : List α × List UInt8 → β) (o : Option (List UInt8)) : (o.bind (manyR rd 0)).map F = o.map (fun D => F ([], D)) := by cases o <;> rfl
theorem count_split {α : Type} (rd : Rd α) (most : Nat) (o : Option (List UInt8)) : o.bind (countR most rd) = ((o.bind (nR most)).map Prod.snd).bind (manyR rd (((o.bind (nR most)).map Prod.fst).getD 0)) := by
  cases o with
  | none => rfl
  | some D =>
    show countR most rd D = _
    unfold countR bindR
    simp only [Option.bind_some]
    cases nR most D <;> rfl
/-- What was read, and what is left. -/
theorem got {α : Type} {O : Option (α × List UInt8)} {x : α} (h : ∀ z, O.map Prod.fst = some z → z = x) : O = (O.map Prod.snd).map (fun D => (x, D)) := by
  cases O with
  | none => rfl
  | some q =>
    obtain ⟨y, D⟩ := q
    have := h y rfl
    subst this
    rfl
theorem gotD {α : Type} {O : Option (α × List UInt8)} {d : α} : ∀ z, O.map Prod.fst = some z → z = (O.map Prod.fst).getD d := by
  intro z h
  rw [h]; rfl
theorem pg_all {L : List UInt8} {fr en : Nat} {its : List It} {gps : List Gp} {last : Bool} {o1 o2 o4 o6 o7 : Option (List UInt8)} (e1 : nR 1099511627777 L = o1.map (fun D => (fr, D))) (e2 : o1.bind (nR 1099511627777) = o2.map (fun D => (en, D))) (e3 : o2.bind (countR 4 itR) = o4.map (fun D => (its, D))) (e4 : o4.bind (countR 16 gR) = o6.map (fun D => (gps, D))) (e5 : o6.bind bR = o7.map (fun D => (last, D))) : pgR L = o7.map (fun D => ((fr, en, its, gps, last), D)) := by
  unfold pgR bindR mapR
  rw [e1]
  cases o1 with
  | none => cases o2 <;> cases o4 <;> cases o6 <;> cases o7 <;> simp_all
  | some D1 =>
    simp only [Option.bind_some] at e2
    simp only [Option.map_some, e2]
    cases o2 with
    | none => cases o4 <;> cases o6 <;> cases o7 <;> simp_all
    | some D2 =>
      simp only [Option.bind_some] at e3
      simp only [Option.map_some, e3]
      cases o4 with
      | none => cases o6 <;> cases o7 <;> simp_all
      | some D4 =>
        simp only [Option.bind_some] at e4
        simp only [Option.map_some, e4]
        cases o6 with
        | none => cases o7 <;> simp_all
        | some D6 =>
          simp only [Option.bind_some] at e5
          simp only [Option.map_some, e5]
          cases o7 <;> rfl
theorem br_of (o : Option (List UInt8)) : o.bind bR = (o.bind (nR 1)).map (fun q => (q.1 == 1, q.2)) := by
  cases o with
  | none => rfl
  | some D =>
    show mapR (nR 1) (fun n => n == 1) D = _
    unfold mapR
    simp only [Option.bind_some]
    cases nR 1 D <;> rfl
theorem gr_of (D : List UInt8) : gR D = ((((nR 1099511627776 D).map Prod.snd).bind (nR 1099511627776))).map (fun q => ((((nR 1099511627776 D).map Prod.fst).getD 0, q.1), q.2)) := by
  unfold gR bindR mapR
  cases nR 1099511627776 D with
  | none => rfl
  | some x =>
    obtain ⟨n, E⟩ := x
    simp only [Option.map_some, Option.bind_some, Option.getD_some]
    cases nR 1099511627776 E <;> rfl
theorem ownsRow_grownP {w w' : World} {base n m : Nat} {e : TypeId} {v : Value} {xs : List Value} {r : Option Nat} (h : w.ownsRow base e n v m xs) (hg : w.grownBy w' r) (hr : ∀ g, v.ownBlock = some g → r ≠ some g) : w'.ownsRow base e n v m xs := by
  refine ⟨h.1, ?_⟩
  rcases h.2 with h0 | ⟨g, cap, cur, hv, hb, hh, rest⟩
  · exact .inl h0
  · exact .inr ⟨g, cap, cur, hv, hb, (hg.block g (lt_of_block hh) (fun e => hr g (by rw [hv]; rfl) e.symm)).trans hh, rest⟩
/-- A row from base on is left by what turns a block ahead of base. -/
theorem ownsRow_pastP {w w' : World} {base n m R : Nat} {e : TypeId} {v : Value} {xs : List Value} (h : w.ownsRow base e n v m xs) (hg : w.grownBy w' (some R)) (hR : R < base) : w'.ownsRow base e n v m xs :=
  ownsRow_grownP h hg (fun g hg2 e2 => by have := (World.ownsRow.lt h g hg2).1; have := Option.some.inj e2; omega)
theorem RxP.bad {w : World} {R b : Nat} {o : Option (List UInt8)} (h : Rx w R b o) : w.cell? ⟨R, 1, none⟩ = some (.bool (!o.isSome)) := by
  cases o with
  | none => obtain ⟨p, n, c, h⟩ := h; exact Blk.cell h 1 rfl
  | some L => obtain ⟨v, h⟩ := h; exact Blk.cell h.rq 1 rfl
theorem newsI (w : World) (t : TypeId) (H : Nat) (hH : w.heap.size = H) (a : Im) : ∀ (j : Nat) (u : Value), (encI a)[j]? = some u → (w.alloc (.cells #[.int .u64 a.n, .int .u64 a.t, .string a.key, .slice a.ap a.at_.length a.ac] t)).cell? ((⟨H, 0, none⟩ : Addr).add j) = some u := by
  subst hH
  exact World.news_of_block (cs := #[.int .u64 a.n, .int .u64 a.t, .string a.key, .slice a.ap a.at_.length a.ac]) (heap_alloc_new w _)
theorem newsG (w : World) (t : TypeId) (H : Nat) (hH : w.heap.size = H) (a : Gp) : ∀ (j : Nat) (u : Value), (encG a)[j]? = some u → (w.alloc (.cells #[.int .u64 a.1, .int .u64 a.2] t)).cell? ((⟨H, 0, none⟩ : Addr).add j) = some u := by
  subst hH
  exact World.news_of_block (cs := #[.int .u64 a.1, .int .u64 a.2]) (heap_alloc_new w _)
theorem num_le {most : Nat} (hm : most < 18446744073709551616) (o : Option (List UInt8)) : ((o.bind (nR most)).map Prod.fst).getD 0 ≤ most := by
  cases o with
  | none => simp
  | some D =>
    simp only [Option.bind_some]
    cases hr : nR most D with
    | none => simp
    | some x => obtain ⟨n, E⟩ := x; simp; exact ((codec_n hm).only D n E hr).1
theorem pgin_wf {w : World} {base : Nat} {p : Pm} (ho : w.ownsRow base 51 4 p.iv p.its.length (p.its.flatMap encI)) (hi : ∀ c ∈ p.its, invI w base c) (hg : w.ownsRow base 53 2 p.gv p.gps.length (p.gps.flatMap encG)) (hx : WfPg (toPg p)) : PgIn w p := by
  obtain ⟨h1, h2, ⟨h3, h4⟩, ⟨h5, h6⟩, _⟩ := hx
  simp only [toPg, List.length_map] at h1 h2 h3 h5 h6
  simp only [toPg] at h4
  refine ⟨⟨rowL_in (row_of_own encI_length ho), by omega, fun c hc => ?_⟩, ⟨rowL_in (row_of_own encG_length hg), by omega, fun c hc => ?_⟩, by omega, by omega⟩
  · have k1 := h4 _ (List.mem_map_of_mem hc)
    have k2 : WfE (c.key, c.at_) := k1.2.2
    have k3 := k1.1
    have k4 := k1.2.1
    simp only [toIt] at k3 k4
    exact ⟨sl_own (hi c hc) (by have := k2.2.1; simp only at this; omega), room_r k2, by omega, by omega⟩
  · have k1 := h6 c hc
    exact ⟨by have := k1.1; omega, by have := k1.2; omega⟩
abbrev zeroP : Array Value := #[.int .u64 0, .int .u64 0, .slice none 0 0, .slice none 0 0, .bool false]
set_option maxHeartbeats 16000000 in
set_option maxRecDepth 100000 in
theorem qtake_page (v0 : Value) (L : List UInt8) (w : World) (hB : Bs w v0 L) (hL : L.length ≤ 140737488355328) : Calls Tryz.prog 7 #[v0] w (TakeE pgR mayPg (PgR w.heap.size) (.agg #[.int .u64 0, .int .u64 0, .slice none 0 0, .slice none 0 0, .bool false]) L w) := by
  obtain ⟨i0, ii0, iz0, iz1, iz2⟩ := info_parts infoI4
  obtain ⟨j0, jj0, jz0, jz1, jz2⟩ := info_parts infoG2
  obtain ⟨pv, cv, hv⟩ := hB.form
  obtain ⟨nL, hnL⟩ : ∃ nL, L.length = nL := ⟨_, rfl⟩
  rw [hnL] at hv
  subst hv
  have HB0 := Lib.hid (below_one w (.cells zeroP 26))
  have HB1 := Lib.hid (then_ HB0.out (below_one (w.alloc (.cells zeroP 26)) (.cells #[.slice pv nL cv, .bool false] 60)))
  have HK1 := Lib.hid ((Blk.new w 26 zeroP).alloc (.cells #[.slice pv nL cv, .bool false] 60))
  have HR1 : Hid (Rq ((w.alloc (.cells zeroP 26)).alloc (.cells #[.slice pv nL cv, .bool false] 60)) (w.heap.size + 1) (.slice pv nL cv) false) := Lib.hid (by have h := Blk.new (w.alloc (.cells zeroP 26)) 60 #[.slice pv nL cv, .bool false]; simpa using h)
  obtain ⟨b, hb, hX⟩ := rx_start hB HR1.out HB1.out (by omega) (by omega)
  have hz : w.heap.size + 2 = ((w.alloc (.cells zeroP 26)).alloc (.cells #[.slice pv nL cv, .bool false] 60)).heap.size := by simp
  rw [← hz] at hb
  have HX := Lib.hid hX
  have Hz := Lib.hid hz
  obtain ⟨A, hA⟩ : ∃ A, w.heap.size = A := ⟨_, rfl⟩
  have HA := Lib.hid hA
  rw [hA] at HK1 HB1 HX HR1 Hz hb ⊢
  clear hX hB hnL hz
  go_enter Tryz.func7, Tryz.ntmps7
  go_wp2_with fail
  refine (rnumX (A + 1) b (some L) 1099511627777 (by decide) _ HX.out).mono ?_; rintro e w2 ⟨u, rfl, hu, hX2, hG2⟩
  replace hu : u = .int .u64 (((nR 1099511627777 L).map Prod.fst).getD 0 : Nat) := hu
  replace hX2 : Rx w2 (A + 1) b ((nR 1099511627777 L).map Prod.snd) := hX2
  have e1 := got (gotD (O := nR 1099511627777 L) (d := 0))
  obtain ⟨fr, hfr⟩ : ∃ fr, ((nR 1099511627777 L).map Prod.fst).getD 0 = fr := ⟨_, rfl⟩
  obtain ⟨o1, ho1⟩ : ∃ o1, (nR 1099511627777 L).map Prod.snd = o1 := ⟨_, rfl⟩
  rw [hfr] at hu e1
  rw [ho1] at hX2 e1
  subst hu
  have E1 := Lib.hid e1
  have hz2 : A + 2 ≤ w2.heap.size := by rw [Hz.out]; exact hG2.size
  have HX2 := Lib.hid (hX2.below (H := A + 2) ((Below.refl (A + 2) w2).alloc hz2 (.cells #[.int .u64 fr, .int .u64 0, .slice none 0 0, .slice none 0 0, .bool false] 26)) (by omega) hb)
  have HB2 : Hid (Below A w w2) := Lib.hid (HB1.out.trans (grown_old (base := A) hG2 (by rw [← Hz.out]; omega) (fun g hg => by have := Option.some.inj hg; omega)))
  have HK2 : Hid (Blk w2 A 26 zeroP) := Lib.hid (HK1.out.grown hG2 (by intro e; have := Option.some.inj e; omega))
  have HL3 := Lib.hid (Blk.new w2 26 #[.int .u64 fr, .int .u64 0, .slice none 0 0, .slice none 0 0, .bool false])
  have HB3 := Lib.hid (HB2.out.trans ((Below.refl A w2).alloc (by omega) (.cells #[.int .u64 fr, .int .u64 0, .slice none 0 0, .slice none 0 0, .bool false] 26)))
  have HK3 := Lib.hid (HK2.out.alloc (.cells #[.int .u64 fr, .int .u64 0, .slice none 0 0, .slice none 0 0, .bool false] 26))
  obtain ⟨G, hG⟩ : ∃ G, w2.heap.size = G := ⟨_, rfl⟩
  have HGG := Lib.hid hG
  rw [hG] at HL3 hz2
  clear hX2 hG2 hfr ho1 e1 hG HB2 HK2 HX HB1 HK1 HR1
  go_wp2_with fail
  rw [HGG.out]
  refine (rnumX (A + 1) b o1 1099511627777 (by decide) _ HX2.out).mono ?_; rintro e w4 ⟨u, rfl, hu, hX4, hG4⟩
  replace hu : u = .int .u64 (((o1.bind (nR 1099511627777)).map Prod.fst).getD 0 : Nat) := hu
  have e2 := got (gotD (O := o1.bind (nR 1099511627777)) (d := 0))
  obtain ⟨en, hen⟩ : ∃ en, ((o1.bind (nR 1099511627777)).map Prod.fst).getD 0 = en := ⟨_, rfl⟩
  obtain ⟨o2, ho2⟩ : ∃ o2, (o1.bind (nR 1099511627777)).map Prod.snd = o2 := ⟨_, rfl⟩
  rw [hen] at hu e2
  rw [ho2] at hX4 e2
  subst hu
  have E2 := Lib.hid e2
  have hL4 := HL3.out.grown hG4 (by intro e; have := Option.some.inj e; omega)
  have q1 := hL4.cell 1 (u := .int .u64 0) rfl
  have f1 := hL4.free 1
  have HX4 := Lib.hid (hX4.below (H := A + 2) (below_cell (i := 1) (u := .int .u64 en) (Below.refl (A + 2) w4) hz2) (by omega) hb)
  have HL4 : Hid (Blk (w4.setCell ⟨G, 1, none⟩ (.int .u64 en)) G 26 #[.int .u64 fr, .int .u64 en, .slice none 0 0, .slice none 0 0, .bool false]) := Lib.hid (blk_set hL4 1 (.int .u64 en))
  have HK4 := Lib.hid ((HK3.out.grown hG4 (by intro e; have := Option.some.inj e; omega)).other (i := 1) (show A ≠ G by omega) (.int .u64 en))
  have HB4 := Lib.hid (below_cell (i := 1) (u := .int .u64 en) (HB3.out.trans (grown_old (base := A) hG4 (by have := HGG.out; simp; omega) (fun g hg => by have := Option.some.inj hg; omega))) (show A ≤ G by omega))
  obtain ⟨W4, hW4⟩ : ∃ W4, w4.setCell ⟨G, 1, none⟩ (.int .u64 en) = W4 := ⟨_, rfl⟩
  have HW4 := Lib.hid hW4
  rw [hW4] at HX4 HL4 HK4 HB4
  clear hX4 hG4 hen ho2 e2 hL4 hW4 HX2 HL3 HB3 HK3
  go_wp2_with fail
  rw [HW4.out]
  refine (rnumX (A + 1) b o2 4 (by decide) W4 HX4.out).mono ?_; rintro e w5 ⟨u, rfl, hu, hX5, hG5⟩
  replace hu : u = .int .u64 (((o2.bind (nR 4)).map Prod.fst).getD 0 : Nat) := hu
  have hN := num_le (most := 4) (by decide) o2
  have e3 := count_split itR 4 o2
  obtain ⟨N1, hN1⟩ : ∃ N1, ((o2.bind (nR 4)).map Prod.fst).getD 0 = N1 := ⟨_, rfl⟩
  obtain ⟨o3, ho3⟩ : ∃ o3, (o2.bind (nR 4)).map Prod.snd = o3 := ⟨_, rfl⟩
  rw [hN1] at hu hN e3
  rw [ho3] at hX5 e3
  subst hu
  have E3 := Lib.hid e3
  have HX5 := Lib.hid hX5
  have HL5 := Lib.hid (HL4.out.grown hG5 (by intro e; have := Option.some.inj e; omega))
  have HK5 := Lib.hid (HK4.out.grown hG5 (by intro e; have := Option.some.inj e; omega))
  have hz4 : G + 1 ≤ W4.heap.size := HL4.out.lt
  have HB5 := Lib.hid (HB4.out.trans (grown_old (base := A) hG5 (by omega) (fun g hg => by have := Option.some.inj hg; omega)))
  clear hX5 hG5 hN1 ho3 e3 HX4 HL4 HK4 HB4 HW4
  go_wp2_with fail
  go_loopw [7] (fun iv wr => ∃ (i : Nat) (l : List Im) (pi : Option Addr) (ci : Nat) (o' : Option (List UInt8)), iv = .int .u64 i ∧ i ≤ N1 ∧ Hid (l.length = i) ∧ Hid (Rx wr (A + 1) b o') ∧ Hid (Blk wr A 26 zeroP) ∧ Hid (Blk wr G 26 #[.int .u64 fr, .int .u64 en, .slice pi i ci, .slice none 0 0, .bool false]) ∧ Hid (wr.ownsRow (A + 2) 51 4 (.slice pi i ci) i (l.flatMap encI)) ∧ Hid (∀ x ∈ l, invI wr (A + 2) x) ∧ Hid (o3.bind (manyR itR N1) = (o'.bind (manyR itR (N1 - i))).map (fun q => (l.map toIt ++ q.1, q.2))) ∧ Hid (Below A w wr)) (fun iv _ => N1 - (intOf iv).toNat)
  case atStart => exact ⟨0, [], none, 0, o3, rfl, Nat.zero_le _, Lib.hid rfl, HX5, HK5, HL5, Lib.hid (World.ownsRow_nil _ _ _ _), Lib.hid (fun x hx => by cases hx), Lib.hid (by simp), HB5⟩
  case round =>
    obtain ⟨i, l, pi, ci, o', rfl, hi, Hli, HX, HK, HL, HO, HI, HEq, HB⟩ := hrel
    have c1 := RxP.bad HX.out
    have hzr : G + 1 ≤ wr.heap.size := HL.out.lt
    go_upto_region 6 with (fail)
    go_cut [30] from 21 to 30 (fun tt wq => tt = .bool (decide (i < N1) && o'.isSome) ∧ wr = wq)
    case first =>
      by_cases hiN : i < N1
      · have d1 : decide ((i : Int) < (N1 : Int)) = true := by simp; omega
        have d1n : decide (i < N1) = true := by simp; omega
        cases o' with
        | none =>
          simp only [Option.isSome_none, Bool.not_false] at c1
          clear hiN
          go_wp2_with fail
          go_meet
          exact ⟨by simp, rfl⟩
        | some D =>
          simp only [Option.isSome_some, Bool.not_true] at c1
          clear hiN
          go_wp2_with fail
          go_meet
          exact ⟨by simp [d1n], rfl⟩
      · have d1 : decide ((i : Int) < (N1 : Int)) = false := by simp; omega
        have d1n : decide (i < N1) = false := by simp; omega
        clear hiN
        go_wp2_with fail
        go_meet
        exact ⟨by simp [d1n], rfl⟩
    case rest =>
    obtain ⟨rfl, hw⟩ := hcut
    subst hw
    clear c1
    obtain ⟨T30, hT30⟩ : ∃ t, (decide (i < N1) && o'.isSome) = t := ⟨_, rfl⟩
    rw [hT30]
    cases T30 with
    | true =>
      simp only [Bool.and_eq_true, decide_eq_true_eq] at hT30
      obtain ⟨hiN, hsome⟩ := hT30
      obtain ⟨D, rfl⟩ : ∃ D, o' = some D := Option.isSome_iff_exists.1 hsome
      have HIt := Lib.hid (fun W (h : Rx W (A + 1) b (some D)) (hb : b < W.heap.size) => ritemX (A + 1) b (some D) W h hb)
      have q1 := HL.out.cell 2 (u := .slice pi i ci) rfl
      have hbw : b < wr.heap.size := by omega
      have HapG := Lib.hid (HL.out.apart HO.out (by decide))
      have HapA := Lib.hid (HK.out.apart HO.out (by decide))
      have HSt := Lib.hid (fun y hy => many_stepP itR (fun q => (l.map toIt ++ q.1, q.2)) D (N1 - (i + 1)) y hy)
      rw [show N1 - (i + 1) + 1 = N1 - i by omega] at HSt
      clear hsome
      go_wp2_with fail
      go_region_law (first | (refine step_append_lies _ (by rfl) _ _ 23 (by rfl) (A + 2) 51 i0 (.agg #[.int .u64 0, .int .u64 0, .string ⟨#[]⟩, .slice none 0 0]) 4 56 Tryz.underlying23 ii0 iz0 iz1 iz2 rfl (by decide) _ _ _ (by rfl) (World.ownsRow.alloc HO8.out _) ⟨w8.heap.size, 0, none⟩ 1 1 (encI ⟨N', T', key, ps, cs, la⟩) (by rfl) rfl HNw.out (encI_one _) (by decide) (by unfold maxLen; omega) (by omega) (by simp; omega) (w8.heap.size + 1) (by simp) ?_; intro g5 cap5 w5 hown5 hgrow5 _ _; have HL5 := Lib.hid (Blk.grown (HL8.out.alloc _) hgrow5 HapG.out); have HK5 := Lib.hid (Blk.grown (HK8.out.alloc _) hgrow5 HapA.out); have q5 := HL5.out.cell 2 (u := .slice pi i ci) rfl; have f5 := HL5.out.free 2) | (go_simp; go_at_call 19; refine (HIt.out _ (by first | exact HX.out | exact HX.out.below ((Below.refl (A + 2) wr).drew) (by omega) hb) (by first | exact hbw | (show b < wr.heap.size; exact hbw))).mono ?_; rintro e w8 ⟨u, rfl, ⟨N', T', key, sl, la, rfl, hOa, hla8, hy⟩, hX8, hG8⟩; obtain ⟨ps, cs, rfl⟩ := own_form hOa; obtain ⟨ma, hma⟩ : ∃ m, la.length = m := ⟨_, rfl⟩; rw [hma] at hOa ⊢; have HMa := Lib.hid hma; have hz8 : wr.heap.size ≤ w8.heap.size := hG8.size; have HY := Lib.hid hy; have HX8 := Lib.hid hX8; have HG8 : Hid (wr.grownBy w8 (some (A + 1))) := Lib.hid ⟨hG8.os, hG8.tape, hG8.output, hG8.size, hG8.block⟩; have HOa : Hid (w8.ownsRow (A + 2) 104 5 (.slice ps ma cs) ma (la.flatMap encA)) := Lib.hid (by have h : w8.ownsRow wr.heap.size 104 5 (.slice ps ma cs) la.length (la.flatMap encA) := hOa; rw [hma] at h; exact own_base h (by omega)); have HO8 := Lib.hid (ownsRow_pastP HO.out HG8.out (by omega)); have HI8 : Hid (∀ x ∈ l, invI w8 (A + 2) x) := Lib.hid (fun x hx => ownsRow_pastP (HI.out x hx) HG8.out (by omega)); have HL8 := Lib.hid (HL.out.grown HG8.out (by intro e; have := Option.some.inj e; omega)); have HK8 := Lib.hid (HK.out.grown HG8.out (by intro e; have := Option.some.inj e; omega)); have HNw : Hid (∀ (j : Nat) (u : Value), (encI ⟨N', T', key, ps, cs, la⟩)[j]? = some u → (w8.alloc (.cells #[.int .u64 N', .int .u64 T', .string key, .slice ps ma cs] 51)).cell? ((⟨w8.heap.size, 0, none⟩ : Addr).add j) = some u) := Lib.hid (by have h := newsI w8 51 w8.heap.size rfl ⟨N', T', key, ps, cs, la⟩; simp only [hma] at h; exact h); have q4 := HL8.out.cell 2 (u := .slice pi i ci) rfl; have q44 := fun o => (HL8.out.alloc o).cell 2 (u := .slice pi i ci) rfl; clear hy hX8 hG8 hOa hma; try go_wp2_with fail))
      all_goals go_wp2_with fail
      all_goals
        have hB5 : Below (A + 2) w8 w5 := ((Below.refl (A + 2) w8).alloc (show A + 2 ≤ w8.heap.size by omega) _).grown hgrow5 (by simp; omega) (fun j hj => (World.ownsRow.lt HO8.out j hj).1)
        have hkeep : ∀ (base m : Nat) (vv : Value) (xs : List Value), w8.ownsRow base 104 5 vv m xs → (w5.setCell ⟨G, 2, none⟩ (.slice (some ⟨g5, 0, none⟩) (i + 1) cap5)).ownsRow base 104 5 vv m xs := fun base m vv xs h => by
          have h1 := World.ownsRow.alloc h (.cells #[.int .u64 N', .int .u64 T', .string key, .slice ps ma cs] 51)
          have h2 := ownsRow_grownP h1 hgrow5 (fun g hg e => by
            have e2 : (Value.slice pi i ci).ownBlock = some g := e
            rcases own_apart (World.ownsRow.alloc HO8.out (.cells #[.int .u64 N', .int .u64 T', .string key, .slice ps ma cs] 51)) h1 (by decide) with h3 | h3
            · rw [h3] at e2; cases e2
            · exact h3 (e2.trans hg.symm))
          exact ownsRow_setCell_other h2 (HL5.out.apart h2 (by decide)) _
        have hO5 : w5.ownsRow (A + 2) 51 4 (.slice (some ⟨g5, 0, none⟩) (i + 1) cap5) (i + 1) ((l ++ [(⟨N', T', key, ps, cs, la⟩ : Im)]).flatMap encI) := by
          rw [List.flatMap_append]
          simpa using hown5
        refine ⟨⟨i + 1, l ++ [⟨N', T', key, ps, cs, la⟩], some ⟨g5, 0, none⟩, cap5, (itR D).map Prod.snd, by simp, by omega, Lib.hid (by rw [List.length_append, Hli.out]; rfl), Lib.hid (HX8.out.below (H := A + 2) (below_cell hB5 (show A + 2 ≤ G by omega)) (by omega) hb), Lib.hid (HK5.out.other (show A ≠ G by omega) _), Lib.hid (blk_set HL5.out 2 _), Lib.hid (ownsRow_setCell_other hO5 (HL5.out.apart hO5 (by decide)) _), Lib.hid (fun x hx => ?_), Lib.hid ?_, Lib.hid (below_cell (HB.out.trans ((grown_old (base := A) HG8.out (by omega) (fun g hg => by have := Option.some.inj hg; omega)).trans (hB5.mono (by omega)))) (show A ≤ G by omega))⟩, by simp [intOf]; omega⟩
        · rcases List.mem_append.1 hx with hx | hx
          · exact hkeep _ _ _ _ (HI8.out x hx)
          · obtain rfl := List.mem_singleton.1 hx
            show World.ownsRow _ (A + 2) 104 5 (.slice ps la.length cs) la.length (la.flatMap encA)
            rw [HMa.out]
            exact hkeep _ _ _ _ HOa.out
        · rw [HEq.out]
          show (manyR itR (N1 - i) D).map _ = _
          rw [HSt.out (N', T', key, la) HY.out]
          congr 1
          funext q
          simp [toIt]
    | false =>
      have HF3 : Hid (o2.bind (countR 4 itR) = o'.map (fun D => (l.map toIt, D))) := Lib.hid (by
        rw [E3.out, HEq.out]
        cases o' with
        | none => rfl
        | some D =>
          simp only [Option.isSome_some, Bool.and_true, decide_eq_false_iff_not] at hT30
          rw [show N1 - i = 0 by omega, many_endP]
          simp)
      clear hT30 HEq E3 HB5 HK5 HL5 HX5
      obtain ⟨ni, hni⟩ : ∃ ni, i = ni := ⟨_, rfl⟩
      subst hni
      obtain ⟨Wz, rfl⟩ : ∃ Wz : World, Wz = wr := ⟨_, rfl⟩
      go_wp2_with fail
      refine (rnumX (A + 1) b o' 16 (by decide) Wz HX.out).mono ?_; rintro e w6 ⟨u, rfl, hu, hX6, hG6⟩
      replace hu : u = .int .u64 (((o'.bind (nR 16)).map Prod.fst).getD 0 : Nat) := hu
      have hN := num_le (most := 16) (by decide) o'
      have e4 := count_split gR 16 o'
      obtain ⟨N2, hN2⟩ : ∃ N2, ((o'.bind (nR 16)).map Prod.fst).getD 0 = N2 := ⟨_, rfl⟩
      obtain ⟨o5, ho5⟩ : ∃ o5, (o'.bind (nR 16)).map Prod.snd = o5 := ⟨_, rfl⟩
      rw [hN2] at hu hN e4
      rw [ho5] at hX6 e4
      subst hu
      have E4 := Lib.hid e4
      have HX6 := Lib.hid hX6
      have HL6 := Lib.hid (HL.out.grown hG6 (by intro e; have := Option.some.inj e; omega))
      have HK6 := Lib.hid (HK.out.grown hG6 (by intro e; have := Option.some.inj e; omega))
      have HO6 := Lib.hid (ownsRow_pastP HO.out hG6 (by omega))
      have HI6 : Hid (∀ x ∈ l, invI w6 (A + 2) x) := Lib.hid (fun x hx => ownsRow_pastP (HI.out x hx) hG6 (by omega))
      have HB6 := Lib.hid (HB.out.trans (grown_old (base := A) hG6 (by omega) (fun g hg => by have := Option.some.inj hg; omega)))
      clear hX6 hG6 hN2 ho5 e4 HX HL HK HO HI HB
      go_wp2_with fail
      go_loopw [8] (fun kv wr => ∃ (k : Nat) (gl : List Gp) (pg : Option Addr) (cg : Nat) (o'' : Option (List UInt8)), kv = .int .u64 k ∧ k ≤ N2 ∧ Hid (gl.length = k) ∧ Hid (Rx wr (A + 1) b o'') ∧ Hid (Blk wr A 26 zeroP) ∧ Hid (Blk wr G 26 #[.int .u64 fr, .int .u64 en, .slice pi i ci, .slice pg k cg, .bool false]) ∧ Hid (wr.ownsRow (A + 2) 51 4 (.slice pi i ci) i (l.flatMap encI)) ∧ Hid (∀ x ∈ l, invI wr (A + 2) x) ∧ Hid (wr.ownsRow (A + 2) 53 2 (.slice pg k cg) k (gl.flatMap encG)) ∧ Hid (o5.bind (manyR gR N2) = (o''.bind (manyR gR (N2 - k))).map (fun q => (gl ++ q.1, q.2))) ∧ Hid (Below A w wr)) (fun kv _ => N2 - (intOf kv).toNat)
      case atStart => exact ⟨0, [], none, 0, o5, rfl, Nat.zero_le _, Lib.hid rfl, HX6, HK6, HL6, HO6, HI6, Lib.hid (World.ownsRow_nil _ _ _ _), Lib.hid (by simp), HB6⟩
      case round =>
        obtain ⟨k, gl, pg, cg, o'', rfl, hk, Hgl, HX, HK, HL, HO, HI, HGo, HEq, HB⟩ := hrel
        have c1 := RxP.bad HX.out
        have hzr : G + 1 ≤ wr.heap.size := HL.out.lt
        go_upto_region 11 with (fail)
        go_cut [51] from 42 to 51 (fun tt wq => tt = .bool (decide (k < N2) && o''.isSome) ∧ wr = wq)
        case first =>
          by_cases hkN : k < N2
          · have d1 : decide ((k : Int) < (N2 : Int)) = true := by simp; omega
            have d1n : decide (k < N2) = true := by simp; omega
            cases o'' with
            | none =>
              simp only [Option.isSome_none, Bool.not_false] at c1
              clear hkN
              go_wp2_with fail
              go_meet
              exact ⟨by simp, rfl⟩
            | some D =>
              simp only [Option.isSome_some, Bool.not_true] at c1
              clear hkN
              go_wp2_with fail
              go_meet
              exact ⟨by simp [d1n], rfl⟩
          · have d1 : decide ((k : Int) < (N2 : Int)) = false := by simp; omega
            have d1n : decide (k < N2) = false := by simp; omega
            clear hkN
            go_wp2_with fail
            go_meet
            exact ⟨by simp [d1n], rfl⟩
        case rest =>
        obtain ⟨rfl, hw⟩ := hcut
        subst hw
        clear c1
        obtain ⟨T51, hT51⟩ : ∃ t, (decide (k < N2) && o''.isSome) = t := ⟨_, rfl⟩
        rw [hT51]
        cases T51 with
        | true =>
          simp only [Bool.and_eq_true, decide_eq_true_eq] at hT51
          obtain ⟨hkN, hsome⟩ := hT51
          obtain ⟨D, rfl⟩ : ∃ D, o'' = some D := Option.isSome_iff_exists.1 hsome
          clear hsome
          go_wp2_with fail
          refine (rnumX (A + 1) b (some D) 1099511627776 (by decide) wr HX.out).mono ?_; rintro e w7 ⟨u, rfl, hu, hX7, hG7⟩
          replace hu : u = .int .u64 (((nR 1099511627776 D).map Prod.fst).getD 0 : Nat) := hu
          replace hX7 : Rx w7 (A + 1) b ((nR 1099511627776 D).map Prod.snd) := hX7
          have hgr := gr_of D
          obtain ⟨f, hf⟩ : ∃ f, ((nR 1099511627776 D).map Prod.fst).getD 0 = f := ⟨_, rfl⟩
          obtain ⟨oa, hoa⟩ : ∃ oa, (nR 1099511627776 D).map Prod.snd = oa := ⟨_, rfl⟩
          rw [hf] at hu hgr
          rw [hoa] at hX7 hgr
          subst hu
          have Hgr := Lib.hid hgr
          have HX7 := Lib.hid hX7
          have hz7 : wr.heap.size ≤ w7.heap.size := hG7.size
          have HL7 := Lib.hid (HL.out.grown hG7 (by intro e; have := Option.some.inj e; omega))
          have HK7 := Lib.hid (HK.out.grown hG7 (by intro e; have := Option.some.inj e; omega))
          have HO7 := Lib.hid (ownsRow_pastP HO.out hG7 (by omega))
          have HGo7 := Lib.hid (ownsRow_pastP HGo.out hG7 (by omega))
          have HI7 : Hid (∀ x ∈ l, invI w7 (A + 2) x) := Lib.hid (fun x hx => ownsRow_pastP (HI.out x hx) hG7 (by omega))
          have HB7 := Lib.hid (HB.out.trans (grown_old (base := A) hG7 (by omega) (fun g hg => by have := Option.some.inj hg; omega)))
          have q1 := HL7.out.cell 3 (u := .slice pg k cg) rfl
          have HapG := Lib.hid (HL7.out.apart HGo7.out (by decide))
          have HapA := Lib.hid (HK7.out.apart HGo7.out (by decide))
          have HNu := Lib.hid (fun W (h : Rx W (A + 1) b oa) => rnumX (A + 1) b oa 1099511627776 (by decide) W h)
          clear hX7 hG7 hf hoa hgr HX HL HK HO HI HGo HB
          go_wp2_with fail
          go_region_law (first | (refine step_append_lies _ (by rfl) _ _ 24 (by rfl) (A + 2) 53 j0 (.agg #[.int .u64 0, .int .u64 0]) 2 16 Tryz.underlying24 jj0 jz0 jz1 jz2 rfl (by decide) _ _ _ (by rfl) (World.ownsRow.alloc HGo8.out _) ⟨w8.heap.size, 0, none⟩ 1 1 (encG (f, t)) (by rfl) rfl (newsG w8 53 w8.heap.size rfl (f, t)) (encG_one _) (by decide) (by unfold maxLen; omega) (by omega) (by simp; omega) (w8.heap.size + 1) (by simp) ?_; intro g5 cap5 w5 hown5 hgrow5 _ _; have HL5 := Lib.hid (Blk.grown (HL8.out.alloc _) hgrow5 HapG.out); have HK5 := Lib.hid (Blk.grown (HK8.out.alloc _) hgrow5 HapA.out); have q5 := HL5.out.cell 3 (u := .slice pg k cg) rfl; have f5 := HL5.out.free 3) | (go_simp; go_at_call 18; refine (HNu.out _ (by first | exact HX7.out | exact HX7.out.below ((Below.refl (A + 2) w7).drew) (by omega) hb)).mono ?_; rintro e w8 ⟨u, rfl, hu, hX8, hG8⟩; obtain ⟨t, ht⟩ : ∃ t, ((oa.bind (nR 1099511627776)).map Prod.fst).getD 0 = t := ⟨_, rfl⟩; replace hu : u = .int .u64 (((oa.bind (nR 1099511627776)).map Prod.fst).getD 0 : Nat) := hu; rw [ht] at hu; subst hu; have Ht := Lib.hid ht; have hz8 : w7.heap.size ≤ w8.heap.size := hG8.size; have HX8 := Lib.hid hX8; have HG8 : Hid (w7.grownBy w8 (some (A + 1))) := Lib.hid ⟨hG8.os, hG8.tape, hG8.output, hG8.size, hG8.block⟩; have HO8 := Lib.hid (ownsRow_pastP HO7.out HG8.out (by omega)); have HGo8 := Lib.hid (ownsRow_pastP HGo7.out HG8.out (by omega)); have HI8 : Hid (∀ x ∈ l, invI w8 (A + 2) x) := Lib.hid (fun x hx => ownsRow_pastP (HI7.out x hx) HG8.out (by omega)); have HL8 := Lib.hid (HL7.out.grown HG8.out (by intro e; have := Option.some.inj e; omega)); have HK8 := Lib.hid (HK7.out.grown HG8.out (by intro e; have := Option.some.inj e; omega)); have q4 := HL8.out.cell 3 (u := .slice pg k cg) rfl; have q44 := fun o => (HL8.out.alloc o).cell 3 (u := .slice pg k cg) rfl; clear hX8 hG8 ht; try go_wp2_with fail))
          all_goals go_wp2_with fail
          all_goals
            have hB5 : Below (A + 2) w8 w5 := ((Below.refl (A + 2) w8).alloc (show A + 2 ≤ w8.heap.size by omega) _).grown hgrow5 (by simp; omega) (fun j hj => (World.ownsRow.lt HGo8.out j hj).1)
            have hkeep : ∀ (e : TypeId) (n base m : Nat) (vv : Value) (xs : List Value), 53 ≠ e → e ≠ 26 → w8.ownsRow base e n vv m xs → (w5.setCell ⟨G, 3, none⟩ (.slice (some ⟨g5, 0, none⟩) (k + 1) cap5)).ownsRow base e n vv m xs := fun e n base m vv xs hne hne2 h => by
              have h1 := World.ownsRow.alloc h (.cells #[.int .u64 f, .int .u64 t] 53)
              have h2 := ownsRow_grownP h1 hgrow5 (fun g hg e => by
                have e2 : (Value.slice pg k cg).ownBlock = some g := e
                rcases own_apart (World.ownsRow.alloc HGo8.out (.cells #[.int .u64 f, .int .u64 t] 53)) h1 hne with h3 | h3
                · rw [h3] at e2; cases e2
                · exact h3 (e2.trans hg.symm))
              exact ownsRow_setCell_other h2 (HL5.out.apart h2 hne2) _
            have hO5 : w5.ownsRow (A + 2) 53 2 (.slice (some ⟨g5, 0, none⟩) (k + 1) cap5) (k + 1) ((gl ++ [((f, t) : Gp)]).flatMap encG) := by
              rw [List.flatMap_append]
              simpa using hown5
            have hgD : (gR D).map Prod.snd = (oa.bind (nR 1099511627776)).map Prod.snd ∧ ∀ z, (gR D).map Prod.fst = some z → z = (f, t) := by
              rw [Hgr.out, ← Ht.out]
              cases oa.bind (nR 1099511627776) with
              | none => exact ⟨rfl, fun z h => by cases h⟩
              | some q => exact ⟨rfl, fun z h => by have := Option.some.inj h; rw [← this]; rfl⟩
            refine ⟨⟨k + 1, gl ++ [(f, t)], some ⟨g5, 0, none⟩, cap5, (oa.bind (nR 1099511627776)).map Prod.snd, by simp, by omega, Lib.hid (by rw [List.length_append, Hgl.out]; rfl), Lib.hid (HX8.out.below (H := A + 2) (below_cell hB5 (show A + 2 ≤ G by omega)) (by omega) hb), Lib.hid (HK5.out.other (show A ≠ G by omega) _), Lib.hid (blk_set HL5.out 3 _), Lib.hid (hkeep _ _ _ _ _ _ (by decide) (by decide) HO8.out), Lib.hid (fun x hx => hkeep _ _ _ _ _ _ (by decide) (by decide) (HI8.out x hx)), Lib.hid (ownsRow_setCell_other hO5 (HL5.out.apart hO5 (by decide)) _), Lib.hid ?_, Lib.hid (below_cell (HB7.out.trans ((grown_old (base := A) HG8.out (by omega) (fun g hg => by have := Option.some.inj hg; omega)).trans (hB5.mono (by omega)))) (show A ≤ G by omega))⟩, by simp [intOf]; omega⟩
            rw [HEq.out]
            show (manyR gR (N2 - k) D).map _ = _
            rw [show N2 - k = N2 - (k + 1) + 1 by omega, many_stepP gR (fun q => (gl ++ q.1, q.2)) D (N2 - (k + 1)) (f, t) hgD.2, hgD.1]
            congr 1
            funext q
            simp
        | false =>
          have HF4 : Hid (o'.bind (countR 16 gR) = o''.map (fun D => (gl, D))) := Lib.hid (by
            rw [E4.out, HEq.out]
            cases o'' with
            | none => rfl
            | some D =>
              simp only [Option.isSome_some, Bool.and_true, decide_eq_false_iff_not] at hT51
              rw [show N2 - k = 0 by omega, many_endP]
              simp)
          clear hT51 HEq E4 HB6 HK6 HL6 HX6 HO6 HI6
          obtain ⟨Wy, rfl⟩ : ∃ Wy : World, Wy = wr := ⟨_, rfl⟩
          go_wp2_with fail
          refine (rnumX (A + 1) b o'' 1 (by decide) Wy HX.out).mono ?_; rintro e w7 ⟨u, rfl, hu, hX7, hG7⟩
          replace hu : u = .int .u64 (((o''.bind (nR 1)).map Prod.fst).getD 0 : Nat) := hu
          obtain ⟨n, hn⟩ : ∃ n, ((o''.bind (nR 1)).map Prod.fst).getD 0 = n := ⟨_, rfl⟩
          obtain ⟨o7, ho7⟩ : ∃ o7, (o''.bind (nR 1)).map Prod.snd = o7 := ⟨_, rfl⟩
          have e5 := got (gotD (O := o''.bind (nR 1)) (d := 0))
          rw [hn] at hu e5
          rw [ho7] at hX7 e5
          subst hu
          obtain ⟨last, hlast⟩ : ∃ last, ((n : Int) == 1) = last := ⟨_, rfl⟩
          have HFin : Hid (pgR L = o7.map (fun D => ((fr, en, l.map toIt, gl, last), D))) := Lib.hid (pg_all E1.out E2.out HF3.out HF4.out (by
            rw [br_of, e5, ← hlast, int_beq1]
            cases o7 <;> rfl))
          have hL7 := HL.out.grown hG7 (by intro e; have := Option.some.inj e; omega)
          have q4 := hL7.cell 4 (u := .bool false) rfl
          have f4 := hL7.free 4
          have HX8 := Lib.hid (hX7.below (H := A + 2) (below_cell (i := 4) (u := .bool last) (Below.refl (A + 2) w7) hz2) (by omega) hb)
          have HL8 : Hid (Blk (w7.setCell ⟨G, 4, none⟩ (.bool last)) G 26 #[.int .u64 fr, .int .u64 en, .slice pi i ci, .slice pg k cg, .bool last]) := Lib.hid (blk_set hL7 4 (.bool last))
          have HK8 := Lib.hid ((HK.out.grown hG7 (by intro e; have := Option.some.inj e; omega)).other (i := 4) (show A ≠ G by omega) (.bool last))
          have HO8 := Lib.hid (ownsRow_setCell_other (ownsRow_pastP HO.out hG7 (show A + 1 < A + 2 by omega)) (hL7.apart (ownsRow_pastP HO.out hG7 (show A + 1 < A + 2 by omega)) (by decide)) (.bool last) (a := ⟨G, 4, none⟩))
          have HI8 : Hid (∀ x ∈ l, invI (w7.setCell ⟨G, 4, none⟩ (.bool last)) (A + 2) x) := Lib.hid (fun x hx => ownsRow_setCell_other (ownsRow_pastP (HI.out x hx) hG7 (show A + 1 < A + 2 by omega)) (hL7.apart (ownsRow_pastP (HI.out x hx) hG7 (show A + 1 < A + 2 by omega)) (by decide)) (.bool last) (a := ⟨G, 4, none⟩))
          have HG8 := Lib.hid (ownsRow_setCell_other (ownsRow_pastP HGo.out hG7 (show A + 1 < A + 2 by omega)) (hL7.apart (ownsRow_pastP HGo.out hG7 (show A + 1 < A + 2 by omega)) (by decide)) (.bool last) (a := ⟨G, 4, none⟩))
          have HB8 := Lib.hid (below_cell (i := 4) (u := .bool last) (HB.out.trans (grown_old (base := A) hG7 (by omega) (fun g hg => by have := Option.some.inj hg; omega))) (show A ≤ G by omega))
          obtain ⟨W8, hW8⟩ : ∃ W8, w7.setCell ⟨G, 4, none⟩ (.bool last) = W8 := ⟨_, rfl⟩
          have HW8 := Lib.hid hW8
          rw [hW8] at HX8 HL8 HK8 HO8 HI8 HG8 HB8
          have Hlast := Lib.hid hlast
          have hlz : A ≤ W8.heap.size := by have := HL8.out.lt; omega
          clear hX7 hG7 hn ho7 e5 hW8 hL7 HX HL HK HO HI HGo HB HF3 HF4 E1 E2 hlast
          cases hd : doneR o7 with
          | false =>
            have HD := Lib.hid (rdoneX (A + 1) b o7 W8 HX8.out)
            rw [hd] at HD
            have HN : Hid (takeR pgR mayPg L = none) := Lib.hid (take_bad (by rw [HFin.out, Option.map_map]; cases o7 <;> exact hd))
            have k0 := HK8.out.cell 0 (u := .int .u64 0) rfl
            have g0 := HK8.out.free 0
            have k1 := HK8.out.cell 1 (u := .int .u64 0) rfl
            have g1 := HK8.out.free 1
            have k2 := HK8.out.cell 2 (u := .slice none 0 0) rfl
            have g2 := HK8.out.free 2
            have k3 := HK8.out.cell 3 (u := .slice none 0 0) rfl
            have g3 := HK8.out.free 3
            have k4 := HK8.out.cell 4 (u := .bool false) rfl
            have g4 := HK8.out.free 4
            clear hd
            go_wp2_with fail
            rw [Hlast.out, HW8.out]
            refine HD.out.mono ?_; rintro e w8 ⟨rfl, hw8⟩; subst w8
            go_wp2_with fail
            refine bodyPost_ret (v := .tuple #[.agg zeroP, .int .i64 5]) (by simp [results, Tryz.results7, go_sem, k0, k1, k2, k3, k4]) rfl ?_
            exact takeE_no HN.out (by rw [HA.out]; exact (below_cell (i := 4) (u := .bool false) (below_cell (i := 3) (u := .slice none 0 0) (below_cell (i := 2) (u := .slice none 0 0) (below_cell (i := 1) (u := .int .u64 0) (below_cell (i := 0) (u := .int .u64 0) HB8.out (Nat.le_refl _)) (Nat.le_refl _)) (Nat.le_refl _)) (Nat.le_refl _)) (Nat.le_refl _)))
          | true =>
            have HD := Lib.hid (rdoneX (A + 1) b o7 W8 HX8.out)
            rw [hd] at HD
            obtain ⟨x, hr, ht⟩ := take_good (rd := pgR) (may := mayPg) (L := L) (by rw [HFin.out, Option.map_map]; cases o7 <;> exact hd)
            have hx : x = toPg ⟨fr, en, pi, ci, l, pg, cg, gl, last⟩ := by
              have h := HFin.out
              rw [hr] at h
              cases o7 with
              | none => cases h
              | some D => simp only [Option.map_some, Option.some.injEq, Prod.mk.injEq] at h; exact h.1
            subst hx
            have HT := Lib.hid ht
            have hwf := (codec_pg.only _ _ _ hr).1
            have hO : W8.ownsRow (A + 2) 51 4 (.slice pi l.length ci) l.length (l.flatMap encI) := by rw [Hli.out]; exact HO8.out
            have hGl : W8.ownsRow (A + 2) 53 2 (.slice pg gl.length cg) gl.length (gl.flatMap encG) := by rw [Hgl.out]; exact HG8.out
            have HMay := Lib.hid (qmaypage_any ⟨fr, en, pi, ci, l, pg, cg, gl, last⟩ W8 (pgin_wf hO HI8.out hGl hwf))
            rw [show pp ⟨fr, en, pi, ci, l, pg, cg, gl, last⟩ = .agg #[.int .u64 fr, .int .u64 en, .slice pi i ci, .slice pg k cg, .bool last] by rw [← Hli.out, ← Hgl.out]] at HMay
            have l0 := HL8.out.cell 0 (u := .int .u64 fr) rfl
            have l1 := HL8.out.cell 1 (u := .int .u64 en) rfl
            have l2 := HL8.out.cell 2 (u := .slice pi i ci) rfl
            have l3 := HL8.out.cell 3 (u := .slice pg k cg) rfl
            have l4 := HL8.out.cell 4 (u := .bool last) rfl
            clear hd hr ht hwf hO hGl
            go_wp2_with fail
            rw [Hlast.out, HW8.out]
            refine HD.out.mono ?_; rintro e w8 ⟨rfl, hw8⟩; subst w8
            go_wp2_with fail
            refine HMay.out.mono ?_; rintro e w9 ⟨rfl, b9⟩
            have HB9 := Lib.hid (HB8.out.trans (b9.mono hlz))
            have HO9 := Lib.hid (own_later HO8.out b9)
            have HG9 := Lib.hid (own_later HG8.out b9)
            have HI9 : Hid (∀ x ∈ l, invI w9 (A + 2) x) := Lib.hid (fun x hx => own_later (HI8.out x hx) b9)
            have HK9 := Lib.hid (HK8.out.later b9)
            have HL9 := Lib.hid (HL8.out.later b9)
            have k0 := HK9.out.cell 0 (u := .int .u64 0) rfl
            have g0 := HK9.out.free 0
            have k1 := HK9.out.cell 1 (u := .int .u64 0) rfl
            have g1 := HK9.out.free 1
            have k2 := HK9.out.cell 2 (u := .slice none 0 0) rfl
            have g2 := HK9.out.free 2
            have k3 := HK9.out.cell 3 (u := .slice none 0 0) rfl
            have g3 := HK9.out.free 3
            have k4 := HK9.out.cell 4 (u := .bool false) rfl
            have g4 := HK9.out.free 4
            have m0 := HL9.out.cell 0 (u := .int .u64 fr) rfl
            have m1 := HL9.out.cell 1 (u := .int .u64 en) rfl
            have m2 := HL9.out.cell 2 (u := .slice pi i ci) rfl
            have m3 := HL9.out.cell 3 (u := .slice pg k cg) rfl
            have m4 := HL9.out.cell 4 (u := .bool last) rfl
            clear b9 l0 l1 l2 l3 l4
            cases hm : mayPg (toPg ⟨fr, en, pi, ci, l, pg, cg, gl, last⟩) with
            | false =>
              have HN : Hid (takeR pgR mayPg L = none) := Lib.hid (by have h := HT.out; rw [hm] at h; simpa using h)
              clear hm HT
              go_wp2_with fail
              refine bodyPost_ret (v := .tuple #[.agg zeroP, .int .i64 5]) (by simp [results, Tryz.results7, go_sem, k0, k1, k2, k3, k4]) rfl ?_
              exact takeE_no HN.out (by rw [HA.out]; exact (below_cell (i := 4) (u := .bool false) (below_cell (i := 3) (u := .slice none 0 0) (below_cell (i := 2) (u := .slice none 0 0) (below_cell (i := 1) (u := .int .u64 0) (below_cell (i := 0) (u := .int .u64 0) HB9.out (Nat.le_refl _)) (Nat.le_refl _)) (Nat.le_refl _)) (Nat.le_refl _)) (Nat.le_refl _)))
            | true =>
              have HY : Hid (takeR pgR mayPg L = some (toPg ⟨fr, en, pi, ci, l, pg, cg, gl, last⟩)) := Lib.hid (by have h := HT.out; rw [hm] at h; simpa using h)
              have hsets : ∀ (e : TypeId) (n base m : Nat) (vv : Value) (xs : List Value), e ≠ 26 → w9.ownsRow base e n vv m xs → (((((w9.setCell ⟨A, 0, none⟩ (.int .u64 fr)).setCell ⟨A, 1, none⟩ (.int .u64 en)).setCell ⟨A, 2, none⟩ (.slice pi i ci)).setCell ⟨A, 3, none⟩ (.slice pg k cg)).setCell ⟨A, 4, none⟩ (.bool last)).ownsRow base e n vv m xs := fun e n base m vv xs hne h => by
                have h1 := ownsRow_setCell_other h (HK9.out.apart h hne) (.int .u64 fr) (a := ⟨A, 0, none⟩)
                have b1 := blk_set HK9.out 0 (.int .u64 fr)
                have h2 := ownsRow_setCell_other h1 (Blk.apart b1 h1 hne) (.int .u64 en) (a := ⟨A, 1, none⟩)
                have b2 := blk_set b1 1 (.int .u64 en)
                have h3 := ownsRow_setCell_other h2 (Blk.apart b2 h2 hne) (.slice pi i ci) (a := ⟨A, 2, none⟩)
                have b3 := blk_set b2 2 (.slice pi i ci)
                have h4 := ownsRow_setCell_other h3 (Blk.apart b3 h3 hne) (.slice pg k cg) (a := ⟨A, 3, none⟩)
                have b4 := blk_set b3 3 (.slice pg k cg)
                exact ownsRow_setCell_other h4 (Blk.apart b4 h4 hne) (.bool last) (a := ⟨A, 4, none⟩)
              have Hsets := Lib.hid hsets
              clear hm HT hsets
              go_wp2_with fail
              refine bodyPost_ret (v := .tuple #[.agg #[.int .u64 fr, .int .u64 en, .slice pi i ci, .slice pg k cg, .bool last], .int .i64 0]) (by simp [results, Tryz.results7, go_sem, k0, k1, k2, k3, k4]) rfl ?_
              refine takeE_ok' HY.out ⟨⟨fr, en, pi, ci, l, pg, cg, gl, last⟩, rfl, by rw [← Hli.out, ← Hgl.out], ?_, ?_, ?_⟩ (by rw [HA.out]; exact (below_cell (i := 4) (u := .bool last) (below_cell (i := 3) (u := .slice pg k cg) (below_cell (i := 2) (u := .slice pi i ci) (below_cell (i := 1) (u := .int .u64 en) (below_cell (i := 0) (u := .int .u64 fr) HB9.out (Nat.le_refl _)) (Nat.le_refl _)) (Nat.le_refl _)) (Nat.le_refl _)) (Nat.le_refl _)))
              · show World.ownsRow _ A 51 4 (.slice pi l.length ci) l.length (l.flatMap encI)
                rw [Hli.out]
                exact own_base (Hsets.out _ _ _ _ _ _ (by decide) HO9.out) (show A ≤ A + 2 by omega)
              · intro c hc
                exact own_base (Hsets.out _ _ _ _ _ _ (by decide) (HI9.out c hc)) (show A ≤ A + 2 by omega)
              · show World.ownsRow _ A 53 2 (.slice pg gl.length cg) gl.length (gl.flatMap encG)
                rw [Hgl.out]
                exact own_base (Hsets.out _ _ _ _ _ _ (by decide) HG9.out) (show A ≤ A + 2 by omega)
end Go.Proofs.YtkfheodcmhodpaaGreat.Gm
