/- The document's TakePred. -/
import Derived.Test.YtkfheodcmhodpaaVq
import Derived.Test.YtkfheodcmhodpaaRMd
set_option linter.unusedSimpArgs false
set_option linter.unusedVariables false
namespace Go.Proofs.Ytkfheodcmhodpaa.Gm
open Go Go.RowKit
attribute [local go_sem ↓] Go.wp_at_zero Go.wp_at_succ

theorem many_stepX {α β : Type} (rd : Rd α) (F : List α × List UInt8 → β) (D : List UInt8) (m : Nat) (x : α) (hx : ∀ z, (rd D).map Prod.fst = some z → x = z) : (manyR rd (m + 1) D).map F = (((rd D).map Prod.snd).bind (manyR rd m)).map (fun q => F (x :: q.1, q.2)) := by
  show (bindR rd (fun x => mapR (manyR rd m) fun l => x :: l) D).map F = _
  unfold bindR
  cases hs : rd D with
  | none => rfl
  | some y =>
    obtain ⟨y, E⟩ := y
    have := hx y (by rw [hs]; rfl)
    subst this
    simp only [Option.map_some, Option.bind_some]
    unfold mapR
    cases manyR rd m E <;> rfl
theorem many_endX {α β : Type} (rd : Rd α) (F : List α × List UInt8 → β) (o : Option (List UInt8)) : (o.bind (manyR rd 0)).map F = o.map (fun D => F ([], D)) := by cases o <;> rfl
theorem cz_start (D : List UInt8) : czR D = (((((sR 16 D).map Prod.snd).bind (nR 9)).map Prod.snd).bind (ctR (((((sR 16 D).map Prod.snd).bind (nR 9)).map Prod.fst).getD 0))).map (fun q => (((((sR 16 D).map Prod.fst).getD ⟨#[]⟩, ((((sR 16 D).map Prod.snd).bind (nR 9)).map Prod.fst).getD 0), q.1), q.2)) := by
  unfold czR bindR mapR
  cases hs : sR 16 D with
  | none => rfl
  | some y =>
    obtain ⟨y, E⟩ := y
    simp only [Option.map_some, Option.bind_some, Option.getD_some]
    cases hn : nR 9 E with
    | none => rfl
    | some n =>
      obtain ⟨n, G⟩ := n
      simp only [Option.map_some, Option.bind_some, Option.getD_some]
      cases ctR n G <;> rfl
theorem ct_9 (o : Option (List UInt8)) : o.bind (ctR 9) = (((o.bind (nR 6)).map Prod.snd).bind (manyR vR (((o.bind (nR 6)).map Prod.fst).getD 0))).map (fun q => (((default : Vl), q.1), q.2)) := by
  cases o with
  | none => rfl
  | some D =>
    show mapR (countR 6 vR) (fun l => ((default : Vl), l)) D = _
    unfold mapR countR bindR
    simp only [Option.bind_some]
    cases hn : nR 6 D with
    | none => rfl
    | some n =>
      obtain ⟨n, G⟩ := n
      simp only [Option.map_some, Option.bind_some, Option.getD_some]
      cases manyR vR n G <;> rfl
theorem ct_1 (o : Option (List UInt8)) : o.bind (ctR 1) = o.map (fun D => (((default : Vl), ([] : List Vl)), D)) := by cases o <;> rfl
theorem ct_o (o : Option (List UInt8)) {op : Nat} (h9 : op ≠ 9) (h1 : op ≠ 1) : o.bind (ctR op) = (o.bind vR).map (fun q => ((q.1, ([] : List Vl)), q.2)) := by
  cases o with
  | none => rfl
  | some D =>
    simp only [Option.bind_some]
    unfold ctR
    rw [if_neg h9, if_neg h1]
    unfold mapR
    cases vR D <;> rfl
theorem ownsRow_grown {w w' : World} {base n m : Nat} {e : TypeId} {v : Value} {xs : List Value} {r : Option Nat} (h : w.ownsRow base e n v m xs) (hg : w.grownBy w' r) (hr : ∀ g, v.ownBlock = some g → r ≠ some g) : w'.ownsRow base e n v m xs := by
  refine ⟨h.1, ?_⟩
  rcases h.2 with h0 | ⟨g, cap, cur, hv, hb, hh, rest⟩
  · exact .inl h0
  · exact .inr ⟨g, cap, cur, hv, hb, (hg.block g (lt_of_block hh) (fun e => hr g (by rw [hv]; rfl) e.symm)).trans hh, rest⟩
/-- Rows of one type are left by what turns a block of another one. -/
theorem ownsRow_other {w w' : World} {base n m R : Nat} {e t : TypeId} {v : Value} {xs : List Value} {cs : Array Value} (h : w.ownsRow base e n v m xs) (hg : w.grownBy w' (some R)) (hR : Blk w R t cs) (ht : e ≠ t) : w'.ownsRow base e n v m xs :=
  ownsRow_grown h hg (fun g hg2 e2 => hR.apart h ht (by rw [hg2, ← Option.some.inj e2]))
theorem OwnC.other {w w' : World} {base R : Nat} {v : Value} {l : List Cn} {cs : Array Value} (h : OwnC w base v l) (hg : w.grownBy w' (some R)) (hR : Blk w R 96 cs) : OwnC w' base v l :=
  ⟨ownsRow_other h.1 hg hR (by decide), fun c hc => ownsRow_other (h.2 c hc) hg hR (by decide)⟩
theorem Rx.blk {w : World} {R b : Nat} {o : Option (List UInt8)} (h : Rx w R b o) : ∃ cs, Blk w R 96 cs := by
  cases o with
  | none => obtain ⟨p, n, c, h⟩ := h; exact ⟨_, h⟩
  | some L => obtain ⟨v, h⟩ := h; exact ⟨_, h.rq⟩
theorem Rx.bad {w : World} {R b : Nat} {o : Option (List UInt8)} (h : Rx w R b o) : w.cell? ⟨R, 1, none⟩ = some (.bool (!o.isSome)) := by
  cases o with
  | none => obtain ⟨p, n, c, h⟩ := h; exact Blk.cell h 1 rfl
  | some L => obtain ⟨v, h⟩ := h; exact Blk.cell h.rq 1 rfl
theorem encV_one' (x : Vl) : ∀ u ∈ encV x, u.oneCell' = true := by
  intro u hu
  simp only [encV, List.mem_cons, List.not_mem_nil, or_false] at hu
  rcases hu with rfl | rfl | rfl | rfl <;> rfl
theorem newsV (w : World) (t : TypeId) (H : Nat) (hH : w.heap.size = H) (a : Vl) : ∀ (j : Nat) (u : Value), (encV a)[j]? = some u → (w.alloc (.cells #[.int .i64 a.k, .int .i64 a.n, .string a.s, .bool a.b] t)).cell? ((⟨H, 0, none⟩ : Addr).add j) = some u := by
  subst hH
  exact World.news_of_block (cs := #[.int .i64 a.k, .int .i64 a.n, .string a.s, .bool a.b]) (heap_alloc_new w _)
theorem newsC (w : World) (t : TypeId) (H : Nat) (hH : w.heap.size = H) (a : Cn) : ∀ (j : Nat) (u : Value), (encC a)[j]? = some u → (w.alloc (.cells #[.string a.nm, .int .i64 a.op, .int .i64 a.v.k, .int .i64 a.v.n, .string a.v.s, .bool a.v.b, .slice a.sp a.set.length a.sc] t)).cell? ((⟨H, 0, none⟩ : Addr).add j) = some u := by
  subst hH
  exact World.news_of_block (cs := #[.string a.nm, .int .i64 a.op, .int .i64 a.v.k, .int .i64 a.v.n, .string a.v.s, .bool a.v.b, .slice a.sp a.set.length a.sc]) (heap_alloc_new w _)
abbrev C7 (nm : ByteArray) (op : Nat) (v : Vl) (sp : Option Addr) (n sc : Nat) : Array Value := #[.string nm, .int .i64 op, .int .i64 v.k, .int .i64 v.n, .string v.s, .bool v.b, .slice sp n sc]
set_option maxHeartbeats 16000000 in
set_option maxRecDepth 100000 in
theorem qtake_pred (v0 : Value) (L : List UInt8) (w : World) (hB : Bs w v0 L) (hL : L.length ≤ 140737488355328) : Calls Try.prog 21 #[v0] w (TakeE pzR mayPz (PrR w.heap.size) (.slice none 0 0) L w) := by
  obtain ⟨i0, ii, iz0, iz1, iz2⟩ := info_parts infoV
  obtain ⟨j0, jj, jz0, jz1, jz2⟩ := info_parts infoC
  obtain ⟨pv, cv, hv⟩ := hB.form
  obtain ⟨nL, hnL⟩ : ∃ nL, L.length = nL := ⟨_, rfl⟩
  rw [hnL] at hv
  subst hv
  have HB1 := Lib.hid (below_one w (.cells #[.slice pv nL cv, .bool false] 96))
  have HR1 := Lib.hid (Blk.new w 96 #[.slice pv nL cv, .bool false])
  obtain ⟨b, hb, hX⟩ := rx_start hB HR1.out HB1.out (by omega) (by omega)
  obtain ⟨R, hR⟩ : ∃ R, w.heap.size = R := ⟨_, rfl⟩
  have HRr := Lib.hid hR
  rw [hR] at HB1 hX ⊢
  have hbR : b < R + 1 := by simp at hb; omega
  have HX := Lib.hid hX
  have Hb := Lib.hid hb
  clear hX hB hnL hb HR1
  go_enter Try.func21, Try.ntmps21
  go_wp2_with fail
  refine (rnumX R b (some L) 6 (by decide) _ HX.out).mono ?_; rintro e w2 ⟨u, rfl, hu, hX2, hG2⟩
  replace hu : u = .int .u64 (((nR 6 L).map Prod.fst).getD 0 : Nat) := hu
  replace hX2 : Rx w2 R b ((nR 6 L).map Prod.snd) := hX2
  obtain ⟨N, hN⟩ : ∃ N, ((nR 6 L).map Prod.fst).getD 0 = N := ⟨_, rfl⟩
  have hN6 : N ≤ 6 := by
    cases hr : nR 6 L with
    | none => rw [hr] at hN; simp at hN; omega
    | some x => obtain ⟨n, D⟩ := x; rw [hr] at hN; simp at hN; have := ((codec_n (show 6 < 18446744073709551616 by decide)).only L n D hr).1; omega
  have hst : pzR L = (((nR 6 L).map Prod.snd).bind (manyR czR N)).map (fun q => ([] ++ q.1, q.2)) := by
    unfold pzR countR bindR
    cases hr : nR 6 L with
    | none => rfl
    | some x =>
      obtain ⟨n, D⟩ := x
      rw [hr] at hN
      simp only [Option.map_some, Option.getD_some] at hN
      subst hN
      simp only [Option.map_some, Option.bind_some]
      cases manyR czR n D <;> simp
  rw [hN] at hu
  subst hu
  obtain ⟨O, hO⟩ : ∃ O, pzR L = O := ⟨_, rfl⟩
  rw [hO] at hst
  have HO := Lib.hid hO
  obtain ⟨o2, ho2⟩ : ∃ o2, (nR 6 L).map Prod.snd = o2 := ⟨_, rfl⟩
  rw [ho2] at hst hX2
  have HE2 := Lib.hid hst
  have HX2 := Lib.hid hX2
  have HB2 : Hid (Below R w w2) := Lib.hid (HB1.out.trans (grown_old (base := R) hG2 (by simp; omega) (fun g hg => by have := Option.some.inj hg; omega)))
  have hz2 : R + 1 ≤ w2.heap.size := by have := hG2.size; simp at this; omega
  clear hst hO ho2 hX2 hG2 hN HX
  go_wp2_with fail
  go_loopw [5, 7] (fun pv iv wr => ∃ (i : Nat) (l : List Cn) (pp : Option Addr) (cp : Nat) (o' : Option (List UInt8)), iv = .int .u64 i ∧ i ≤ N ∧ l.length = i ∧ pv = .slice pp i cp ∧ R + 1 ≤ wr.heap.size ∧ Hid (Rx wr R b o') ∧ Hid (OwnC wr (R + 1) (.slice pp i cp) l) ∧ Hid (∀ c ∈ l, c.set.length ≤ 6 ∧ 0 ≤ c.op) ∧ Hid (O = (o'.bind (manyR czR (N - i))).map (fun q => (l.map toCz ++ q.1, q.2))) ∧ Hid (Below R w wr)) (fun _ iv _ => N - (intOf iv).toNat)
  case atStart => exact ⟨0, [], none, 0, o2, rfl, Nat.zero_le _, rfl, rfl, hz2, HX2, Lib.hid (OwnC.nil _ _), Lib.hid (fun c hc => by cases hc), HE2, HB2⟩
  case round =>
    obtain ⟨i, l, pp, cp, o', rfl, hi, hli, rfl, hzr, HX, HC, HI, HEq, HB⟩ := hrel
    have Hli := Lib.hid hli
    have c1 := HX.out.bad
    by_cases hiN : i < N
    · have d1 : decide ((i : Int) < (N : Int)) = true := by simp; omega
      have d1n : decide (i < N) = true := by simp; omega
      cases o' with
      | none =>
        simp only [Option.isSome_none, Bool.not_false] at c1
        obtain ⟨o', ho'⟩ : ∃ o' : Option (List UInt8), none = o' := ⟨_, rfl⟩
        have HFin : Hid (O.map Prod.snd = o' ∧ ∀ z, O.map Prod.fst = some z → l.map toCz = z) := Lib.hid (by
          rw [← ho', show O = none from HEq.out]
          exact ⟨rfl, fun z h => by cases h⟩)
        rw [ho'] at HX
        clear ho'
        go_wp2_with fail
        refine (rdoneX R b o' wr HX.out).mono ?_; rintro e w8 ⟨rfl, hw8⟩; subst w8
        cases hd : doneR o' with
        | false =>
          have HN : Hid (takeR pzR mayPz L = none) := Lib.hid (take_bad (by rw [HO.out, HFin.out.1]; exact hd))
          clear hd
          go_wp2_with fail
          go_ret2
          exact takeE_no HN.out (by rw [HRr.out]; exact HB.out)
        | true =>
          obtain ⟨x, hr, ht⟩ := take_good (rd := pzR) (may := mayPz) (L := L) (by rw [HO.out, HFin.out.1]; exact hd)
          have hx := HFin.out.2 x (by rw [← HO.out, hr]; rfl)
          subst hx
          rw [mayPz_of (fun c hc => (HI.out c hc).2)] at ht
          have HT := Lib.hid ht
          have HMay := Lib.hid (rmaypr_any (.slice pp i cp) l wr (by have h : OwnC wr (R + 1) (.slice pp l.length cp) l := by rw [Hli.out]; exact HC.out
                                                                     have h2 := h.cs (by rw [Hli.out]; omega) (fun c hc => by have := (HI.out c hc).1; omega)
                                                                     rwa [Hli.out] at h2))
          clear hd hr ht
          go_wp2_with fail
          refine HMay.out.mono ?_; rintro e w9 ⟨rfl, b9⟩
          cases hm : mayPr l with
          | false =>
            have HN : Hid (takeR pzR mayPz L = none) := Lib.hid (by have h := HT.out; rw [hm] at h; simpa using h)
            clear hm HT
            go_wp2_with fail
            go_ret2
            exact takeE_no HN.out (by rw [HRr.out]; exact HB.out.trans (b9.mono (by omega)))
          | true =>
            have HY : Hid (takeR pzR mayPz L = some (l.map toCz)) := Lib.hid (by have h := HT.out; rw [hm] at h; simpa using h)
            clear hm HT
            go_wp2_with fail
            go_ret2
            refine takeE_ok' HY.out ⟨l, rfl, ?_, fun c hc => ⟨?_, (HI.out c hc).2⟩⟩ (by rw [HRr.out]; exact HB.out.trans (b9.mono (by omega)))
            · have h := own_base (own_later HC.out.1 b9) (show R ≤ R + 1 by omega)
              show w9.ownsRow R 99 7 (.slice pp i cp) l.length (l.flatMap encC)
              exact h
            · exact own_base (own_later (HC.out.2 c hc) b9) (show R ≤ R + 1 by omega)
      | some D =>
        simp only [Option.isSome_some, Bool.not_true] at c1
        obtain ⟨wo, rfl⟩ : ∃ wo : World, wo = wr := ⟨_, rfl⟩
        go_wp2_with fail
        refine (rtextX R b (some D) 16 (by decide) wo HX.out).mono ?_; rintro e w3 ⟨u, rfl, hu, hX3, hG3⟩
        replace hu : u = .string (((sR 16 D).map Prod.fst).getD ⟨#[]⟩) := hu
        replace hX3 : Rx w3 R b ((sR 16 D).map Prod.snd) := hX3
        have hcz := cz_start D
        obtain ⟨nm, hnm⟩ : ∃ nm, ((sR 16 D).map Prod.fst).getD ⟨#[]⟩ = nm := ⟨_, rfl⟩
        obtain ⟨o3, ho3⟩ : ∃ o3, (sR 16 D).map Prod.snd = o3 := ⟨_, rfl⟩
        rw [hnm] at hu hcz
        rw [ho3] at hX3 hcz
        subst hu
        have Hcz := Lib.hid hcz
        have HX3 := Lib.hid hX3
        have HG3 := Lib.hid hG3
        clear hcz hX3 hG3 hnm ho3
        go_wp2_with fail
        refine (rnumX R b o3 9 (by decide) w3 HX3.out).mono ?_; rintro e w4 ⟨u, rfl, hu, hX4, hG4⟩
        have hcz := Hcz.out
        replace hu : u = .int .u64 (((o3.bind (nR 9)).map Prod.fst).getD 0 : Nat) := hu
        obtain ⟨op, hop⟩ : ∃ op, ((o3.bind (nR 9)).map Prod.fst).getD 0 = op := ⟨_, rfl⟩
        have hop9 : op ≤ 9 := by
          cases o3 with
          | none => simp at hop; omega
          | some E =>
            simp only [Option.bind_some] at hop
            cases hr : nR 9 E with
            | none => rw [hr] at hop; simp at hop; omega
            | some x => obtain ⟨n, G⟩ := x; rw [hr] at hop; simp at hop; have := ((codec_n (show 9 < 18446744073709551616 by decide)).only E n G hr).1; omega
        obtain ⟨o4, ho4⟩ : ∃ o4, (o3.bind (nR 9)).map Prod.snd = o4 := ⟨_, rfl⟩
        rw [hop] at hu hcz
        rw [ho4] at hX4 hcz
        subst hu
        have Hcz := Lib.hid hcz
        have HX4 := Lib.hid hX4
        have HG4 := Lib.hid (grown_then HG3.out hG4 (.inl rfl))
        have hwo : IntKind.i64.wrap (op : Int) = (op : Int) := by rw [IntKind.wrap_i64]; omega
        obtain ⟨csR, hcsR⟩ := HX.out.blk
        have HC4 := Lib.hid (HC.out.other HG4.out hcsR)
        have HB4 := Lib.hid (HB.out.trans (grown_old (base := R) HG4.out (by omega) (fun g hg => by have := Option.some.inj hg; omega)))
        have hz4 : R + 1 ≤ w4.heap.size := by have := HG4.out.size; omega
        have HX6 := Lib.hid (HX4.out.below (H := R + 1) ((Below.refl (R + 1) w4).alloc hz4 (.cells #[.string nm, .int .i64 op, .int .i64 0, .int .i64 0, .string ⟨#[]⟩, .bool false, .slice none 0 0] 99)) (by omega) hbR)
        have HK6 := Lib.hid (Blk.new w4 99 #[.string nm, .int .i64 op, .int .i64 0, .int .i64 0, .string ⟨#[]⟩, .bool false, .slice none 0 0])
        have HG6 := Lib.hid (grown_below (below_one w4 (.cells #[.string nm, .int .i64 op, .int .i64 0, .int .i64 0, .string ⟨#[]⟩, .bool false, .slice none 0 0] 99)) (some R))
        obtain ⟨C, hC⟩ : ∃ C, w4.heap.size = C := ⟨_, rfl⟩
        have HCC := Lib.hid hC
        rw [hC] at HK6
        obtain ⟨W6, hW6⟩ : ∃ W6, w4.alloc (.cells #[.string nm, .int .i64 op, .int .i64 0, .int .i64 0, .string ⟨#[]⟩, .bool false, .slice none 0 0] 99) = W6 := ⟨_, rfl⟩
        rw [hW6] at HX6 HK6 HG6
        have hzW6 : W6.heap.size = C + 1 := by rw [← hW6]; simp [hC]
        have k1 := HK6.out.cell 1 (u := .int .i64 op) rfl
        have HWw := Lib.hid hW6
        clear hcz hX4 hG4 hop ho4 hcsR HG3 HX3 c1 d1 d1n hW6 hC
        go_upto_if 36 with (fail)
        rw [HWw.out, HCC.out]
        have HB6 := Lib.hid (HB4.out.trans ((Below.refl R w4).alloc (by omega) (.cells #[.string nm, .int .i64 op, .int .i64 0, .int .i64 0, .string ⟨#[]⟩, .bool false, .slice none 0 0] 99)))
        rw [HWw.out] at HB6
        have hCR : R + 1 ≤ C := by rw [← HCC.out]; exact hz4
        have hb6 : b < W6.heap.size := by omega
        have hwC : w4.heap.size ≤ C := by rw [HCC.out]; exact Nat.le_refl _
        have hCw : C ≤ w4.heap.size := by rw [HCC.out]; exact Nat.le_refl _
        obtain ⟨t36, ht36⟩ : ∃ t, ((op : Int) == 9) = t := ⟨_, rfl⟩
        rw [ht36]
        have HT36 := Lib.hid ht36
        clear ht36
        go_cut [9, 10] from 37 to 63 (fun n9 k10 wq => ∃ (v : Vl) (sp : Option Addr) (sc ns : Nat) (set : List Vl), Hid (set.length = ns) ∧ Hid (Rx wq R b ((czR D).map Prod.snd)) ∧ Hid (Blk wq C 99 (C7 nm op v sp ns sc)) ∧ Hid (wq.ownsRow (C + 1) 79 4 (.slice sp ns sc) ns (set.flatMap encV)) ∧ ns ≤ 6 ∧ Hid (∀ z, (czR D).map Prod.fst = some z → ((nm, op), v, set) = z) ∧ Hid (w4.grownBy wq (some R)))
        case first =>
          cases t36 with
          | true =>
            have e9 : op = 9 := by have h := HT36.out; rw [beq_iff_eq] at h; omega
            have hcz := Hcz.out
            rw [e9, ct_9, Option.map_map] at hcz
            rw [← e9] at hcz
            have E9 := Lib.hid e9
            clear e9
            go_wp2_with fail
            refine (rnumX R b o4 6 (by decide) W6 HX6.out).mono ?_; rintro e w7 ⟨u, rfl, hu, hX7, hG7⟩
            replace hu : u = .int .u64 (((o4.bind (nR 6)).map Prod.fst).getD 0 : Nat) := hu
            obtain ⟨m, hm⟩ : ∃ m, ((o4.bind (nR 6)).map Prod.fst).getD 0 = m := ⟨_, rfl⟩
            have hm6 : m ≤ 6 := by
              cases o4 with
              | none => simp at hm; omega
              | some E =>
                simp only [Option.bind_some] at hm
                cases hr : nR 6 E with
                | none => rw [hr] at hm; simp at hm; omega
                | some x => obtain ⟨n, G⟩ := x; rw [hr] at hm; simp at hm; have := ((codec_n (show 6 < 18446744073709551616 by decide)).only E n G hr).1; omega
            obtain ⟨o5, ho5⟩ : ∃ o5, (o4.bind (nR 6)).map Prod.snd = o5 := ⟨_, rfl⟩
            rw [hm] at hu hcz
            rw [ho5] at hX7 hcz
            subst hu
            have HCz := Lib.hid hcz
            have HX7 := Lib.hid hX7
            have HG7 := Lib.hid (grown_then HG6.out hG7 (.inl rfl))
            have HK7 := Lib.hid (HK6.out.grown hG7 (by intro e; have := Option.some.inj e; omega))
            clear hX7 hG7 hm ho5 hcz HC HI HEq HB HX HC4 HB4 Hcz
            go_wp2_with fail
            go_loopw [10] (fun kv wq => ∃ (k : Nat) (ls : List Vl) (sp : Option Addr) (sc : Nat) (o'' : Option (List UInt8)), kv = .int .u64 k ∧ k ≤ m ∧ Hid (ls.length = k) ∧ Hid (Rx wq R b o'') ∧ Hid (Blk wq C 99 #[.string nm, .int .i64 op, .int .i64 0, .int .i64 0, .string ⟨#[]⟩, .bool false, .slice sp k sc]) ∧ Hid (wq.ownsRow (C + 1) 79 4 (.slice sp k sc) k (ls.flatMap encV)) ∧ Hid (o5.bind (manyR vR m) = (o''.bind (manyR vR (m - k))).map (fun q => (ls ++ q.1, q.2))) ∧ Hid (w4.grownBy wq (some R))) (fun kv _ => m - (intOf kv).toNat)
            case atStart => exact ⟨0, [], none, 0, o5, rfl, Nat.zero_le _, Lib.hid rfl, HX7, HK7, Lib.hid (World.ownsRow_nil _ _ _ _), Lib.hid (by simp), HG7⟩
            case round =>
              obtain ⟨k, ls, sp, sc, o'', rfl, hk, Hls, HX, HK, HV, HEq, HG⟩ := hrel
              have c1 := HX.out.bad
              have hzw : C + 1 ≤ wr.heap.size := HK.out.lt
              by_cases hkm : k < m
              · have d1 : decide ((k : Int) < (m : Int)) = true := by simp; omega
                have d1n : decide (k < m) = true := by simp; omega
                cases o'' with
                | none =>
                  have hend : czR D = none := by rw [HCz.out, HEq.out]; rfl
                  simp only [Option.isSome_none, Bool.not_false] at c1
                  go_wp2_with fail
                  go_meet
                  exact ⟨⟨0, 0, ⟨#[]⟩, false⟩, sp, sc, k, ls, Hls, Lib.hid (by rw [hend]; exact HX.out), HK, HV, by omega, Lib.hid (by rw [hend]; intro z h; cases h), HG⟩
                | some E =>
                  simp only [Option.isSome_some, Bool.not_true] at c1
                  have HVa := Lib.hid (fun W (h : Rx W R b (some E)) (hb : b < W.heap.size) => rvalueX R b (some E) W h hb)
                  have q1 := HK.out.cell 6 (u := .slice sp k sc) rfl
                  have hbw : b < wr.heap.size := by omega
                  have HapC := Lib.hid (HK.out.apart HV.out (by decide))
                  have HSt := Lib.hid (fun y hy => many_stepX vR (fun q => (ls ++ q.1, q.2)) E (m - (k + 1)) y hy)
                  rw [show m - (k + 1) + 1 = m - k by omega] at HSt
                  go_wp2_with fail
                  go_region_law (first | (refine step_append_lies _ (by rfl) _ _ 97 (by rfl) (C + 1) 79 i0 (.agg #[.int .i64 0, .int .i64 0, .string ⟨#[]⟩, .bool false]) 4 40 Try.underlying97 ii iz0 iz1 iz2 rfl (by decide) _ _ _ (by rfl) (World.ownsRow.alloc HV4.out _) ⟨w8.heap.size, 0, none⟩ 1 1 (encV y) (by rfl) rfl (newsV _ 79 w8.heap.size rfl y) (encV_one' _) (by decide) (by unfold maxLen; omega) (by omega) (by simp; omega) (w8.heap.size + 1) (by simp) ?_; intro g5 cap5 w5 hown5 hgrow5 _ _; have HK5 := Lib.hid (Blk.grown (HK8.out.alloc _) hgrow5 HapC.out); have q5 := HK5.out.cell 6 (u := .slice sp k sc) rfl; have f5 := HK5.out.free 6) | (go_simp; go_at_call 56; refine (HVa.out _ (by first | exact HX.out | exact HX.out.below ((Below.refl (R + 1) wr).drew) (by omega) hbR) (by first | exact hbw | (show b < wr.heap.size; exact hbw))).mono ?_; rintro e w8 ⟨u, rfl, ⟨y, rfl, hy⟩, hX8, hG8⟩; have hz8 : wr.heap.size ≤ w8.heap.size := hG8.size; have HY := Lib.hid hy; have HX8 := Lib.hid hX8; have HG8 : Hid (wr.grownBy w8 (some R)) := Lib.hid ⟨hG8.os, hG8.tape, hG8.output, hG8.size, hG8.block⟩; have HK8 := Lib.hid (HK.out.grown HG8.out (by intro e; have := Option.some.inj e; omega)); have HV4 : Hid (w8.ownsRow (C + 1) 79 4 (.slice sp k sc) k (ls.flatMap encV)) := Lib.hid (ownsRow_grown HV.out HG8.out (fun g hg e => by have := (World.ownsRow.lt HV.out g hg).1; have := Option.some.inj e; omega)); have q4 := HK8.out.cell 6 (u := .slice sp k sc) rfl; have q44 := fun o => (HK8.out.alloc o).cell 6 (u := .slice sp k sc) rfl; clear hy hX8 hG8; try go_wp2_with fail))
                  all_goals go_wp2_with fail
                  all_goals
                    have hB5 : Below (R + 1) w8 w5 := ((Below.refl (R + 1) w8).alloc (show R + 1 ≤ w8.heap.size by omega) _).grown hgrow5 (by simp; omega) (fun j hj => by have := (World.ownsRow.lt HV4.out j hj).1; omega)
                    have hV5 : w5.ownsRow (C + 1) 79 4 (.slice (some ⟨g5, 0, none⟩) (k + 1) cap5) (k + 1) ((ls ++ [y]).flatMap encV) := by
                      rw [List.flatMap_append]
                      simpa using hown5
                    have hG5 : w4.grownBy w5 (some R) := grown_then (grown_then HG.out HG8.out (.inl rfl)) (grown_then (grown_below (below_one w8 _) _) hgrow5 (.inl rfl)) (.inr fun g hg => by have := (World.ownsRow.lt HV4.out g hg).1; omega)
                    refine ⟨⟨k + 1, ls ++ [y], some ⟨g5, 0, none⟩, cap5, ((some E).bind vR).map Prod.snd, by simp, by omega, Lib.hid (by rw [List.length_append, Hls.out]; rfl), Lib.hid (HX8.out.below (H := R + 1) (below_cell hB5 (show R + 1 ≤ C by omega)) (by omega) hbR), Lib.hid (blk_set HK5.out 6 (.slice (some ⟨g5, 0, none⟩) (k + 1) cap5)), Lib.hid (ownsRow_setCell_other hV5 (HK5.out.apart hV5 (by decide)) _), Lib.hid ?_, Lib.hid (grown_cell hG5 (by omega))⟩, by simp [intOf]; omega⟩
                    rw [HEq.out]
                    show (manyR vR (m - k) E).map _ = _
                    rw [HSt.out y HY.out]
                    show ((((vR E).map Prod.snd).bind (manyR vR (m - (k + 1)))).map fun q => (ls ++ y :: q.1, q.2)) = _
                    congr 1
                    funext q
                    simp
              · have d1 : decide ((k : Int) < (m : Int)) = false := by simp; omega
                have d1n : decide (k < m) = false := by simp; omega
                have hend : czR D = o''.map (fun E => (((nm, op), (⟨0, 0, ⟨#[]⟩, false⟩ : Vl), ls), E)) := by
                  rw [HCz.out, HEq.out, show m - k = 0 by omega, many_endX]
                  cases o'' with
                  | none => rfl
                  | some E => simp; rfl
                have HZ := Lib.hid hend
                clear hend
                go_wp2_with fail
                go_meet
                exact ⟨⟨0, 0, ⟨#[]⟩, false⟩, sp, sc, k, ls, Hls, Lib.hid (by rw [HZ.out, Option.map_map]; cases o'' <;> exact HX.out), HK, HV, by omega, Lib.hid (by rw [HZ.out]; intro z h; cases o'' with
                  | none => cases h
                  | some E => exact Option.some.inj h), HG⟩
          | false =>
            have e9 : ¬ op = 9 := by have h := HT36.out; rw [beq_eq_false_iff_ne] at h; omega
            have k1 := HK6.out.cell 1 (u := .int .i64 op) rfl
            by_cases e1 : op = 1
            · have t1 : ((op : Int) == 1) = true := by rw [beq_iff_eq]; omega
              have t1b : ((op : Int) != 1) = false := by rw [bne, t1]; rfl
              have hend : czR D = o4.map (fun E => (((nm, op), (⟨0, 0, ⟨#[]⟩, false⟩ : Vl), ([] : List Vl)), E)) := by
                rw [Hcz.out, e1, ct_1]
                cases o4 <;> rfl
              have HZ := Lib.hid hend
              clear hend e1 e9
              go_wp2_with fail
              go_meet
              exact ⟨⟨0, 0, ⟨#[]⟩, false⟩, none, 0, 0, [], Lib.hid rfl, Lib.hid (by rw [HZ.out, Option.map_map]; cases o4 <;> exact HX6.out), HK6, Lib.hid (World.ownsRow_nil _ _ _ _), by omega, Lib.hid (by rw [HZ.out]; intro z h; cases o4 with
                | none => cases h
                | some E => exact Option.some.inj h), HG6⟩
            · have t1 : ((op : Int) == 1) = false := by rw [beq_eq_false_iff_ne]; omega
              have t1b : ((op : Int) != 1) = true := by rw [bne, t1]; rfl
              have hend : czR D = (o4.bind vR).map (fun q => (((nm, op), q.1, ([] : List Vl)), q.2)) := by
                rw [Hcz.out, ct_o o4 e9 e1]
                cases o4.bind vR <;> rfl
              have HZ := Lib.hid hend
              clear hend
              go_wp2_with fail
              refine (rvalueX R b o4 W6 HX6.out hb6).mono ?_; rintro e w7 ⟨u, rfl, ⟨y, rfl, hy⟩, hX7, hG7⟩
              have HY := Lib.hid hy
              have hK7 := HK6.out.grown hG7 (by intro e; have := Option.some.inj e; omega)
              have HK7 := Lib.hid hK7
              have q2 := hK7.cell 2 (u := .int .i64 0) rfl
              have q3 := fun u2 => (blk_set hK7 2 u2).cell 3 (u := .int .i64 0) rfl
              have q4 := fun u2 u3 => (blk_set (blk_set hK7 2 u2) 3 u3).cell 4 (u := .string ⟨#[]⟩) rfl
              have q5 := fun u2 u3 u4 => (blk_set (blk_set (blk_set hK7 2 u2) 3 u3) 4 u4).cell 5 (u := .bool false) rfl
              have f2 := hK7.free 2
              have f3 := fun u2 => (blk_set hK7 2 u2).free 3
              have f4 := fun u2 u3 => (blk_set (blk_set hK7 2 u2) 3 u3).free 4
              have f5 := fun u2 u3 u4 => (blk_set (blk_set (blk_set hK7 2 u2) 3 u3) 4 u4).free 5
              have HX7 := Lib.hid (hX7.below (H := R + 1) (below_cell (i := 5) (u := .bool y.b) (below_cell (i := 4) (u := .string y.s) (below_cell (i := 3) (u := .int .i64 y.n) (below_cell (i := 2) (u := .int .i64 y.k) (Below.refl (R + 1) w7) hCR) hCR) hCR) hCR) (by omega) hbR)
              have HG7 := Lib.hid (grown_cell (i := 5) (u := .bool y.b) (grown_cell (i := 4) (u := .string y.s) (grown_cell (i := 3) (u := .int .i64 y.n) (grown_cell (i := 2) (u := .int .i64 y.k) (grown_then HG6.out hG7 (.inl rfl)) hwC) hwC) hwC) hwC)
              clear hy hX7 hG7 hK7
              go_wp2_with fail
              go_meet
              exact ⟨y, none, 0, 0, [], Lib.hid rfl, Lib.hid (by rw [HZ.out, Option.map_map]; exact HX7.out), Lib.hid (blk_set (blk_set (blk_set (blk_set HK7.out 2 (.int .i64 y.k)) 3 (.int .i64 y.n)) 4 (.string y.s)) 5 (.bool y.b)), Lib.hid (World.ownsRow_nil _ _ _ _), by omega, Lib.hid (by
                rw [HZ.out]
                intro z h
                cases hr : o4.bind vR with
                | none => rw [hr] at h; cases h
                | some q =>
                  rw [hr] at h
                  have := HY.out q.1 (by rw [hr]; rfl)
                  simp only [Option.map_some, Option.some.injEq] at h
                  rw [← h, this]), HG7⟩
        case rest =>
        obtain ⟨v, sp, sc, ns, set, Hns, HX8, HK8, HV8, hns6, HZ8, HG8⟩ := hcut
        obtain ⟨W8, rfl⟩ : ∃ W8 : World, W8 = wc := ⟨_, rfl⟩
        obtain ⟨csR, hcsR⟩ := HX4.out.blk
        have HC8 := Lib.hid (HC4.out.other HG8.out hcsR)
        have hz8 : C + 1 ≤ W8.heap.size := HK8.out.lt
        have HB8 := Lib.hid (HB4.out.trans (grown_old (base := R) HG8.out (by omega) (fun g hg => by have := Option.some.inj hg; omega)))
        have l0 := HK8.out.cell 0 (u := .string nm) rfl
        have l1 := HK8.out.cell 1 (u := .int .i64 op) rfl
        have l2 := HK8.out.cell 2 (u := .int .i64 v.k) rfl
        have l3 := HK8.out.cell 3 (u := .int .i64 v.n) rfl
        have l4 := HK8.out.cell 4 (u := .string v.s) rfl
        have l5 := HK8.out.cell 5 (u := .bool v.b) rfl
        have l6 := HK8.out.cell 6 (u := .slice sp ns sc) rfl
        have HP8 : Hid ((W8.alloc (.cells (C7 nm op v sp ns sc) 99)).ownsRow (R + 1) 99 7 (.slice pp i cp) i (l.flatMap encC)) := Lib.hid (by have h := HC8.out.1; rw [Hli.out] at h; exact World.ownsRow.alloc h _)
        have HNw : Hid (∀ (j : Nat) (u : Value), (encC ⟨nm, (op : Int), v, sp, sc, set⟩)[j]? = some u → (W8.alloc (.cells (C7 nm op v sp ns sc) 99)).cell? ((⟨W8.heap.size, 0, none⟩ : Addr).add j) = some u) := Lib.hid (by have h := newsC W8 99 W8.heap.size rfl ⟨nm, (op : Int), v, sp, sc, set⟩; simp only [Hns.out] at h; exact h)
        have HSt := Lib.hid (many_stepX czR (fun q => (l.map toCz ++ q.1, q.2)) D (N - (i + 1)) ((nm, op), v, set) HZ8.out)
        rw [show N - (i + 1) + 1 = N - i by omega] at HSt
        go_wp2_with (at_builtin; refine wpList_append_lies _ rfl _ _ 40 rfl (R + 1) 99 j0 (.agg #[.string ⟨#[]⟩, .int .i64 0, .int .i64 0, .int .i64 0, .string ⟨#[]⟩, .bool false, .slice none 0 0]) 7 88 Try.underlying40 jj jz0 jz1 jz2 rfl (by decide) _ _ _ rfl HP8.out ⟨W8.heap.size, 0, none⟩ 1 1 (encC ⟨nm, (op : Int), v, sp, sc, set⟩) rfl rfl HNw.out (encC_one _) (by decide) (by unfold maxLen; omega) (by omega) (by simp; omega) (W8.heap.size + 1) (by simp) ?_; intro g9 cap9 w9 hown9 hgrow9 _ _)
        go_roundw
        case rel =>
          have hB9 : Below (R + 1) W8 w9 := ((Below.refl (R + 1) W8).alloc (show R + 1 ≤ W8.heap.size by omega) _).grown hgrow9 (by simp; omega) (fun j hj => (World.ownsRow.lt HP8.out j hj).1)
          have hkeep : ∀ (base m : Nat) (vv : Value) (xs : List Value), W8.ownsRow base 79 4 vv m xs → w9.ownsRow base 79 4 vv m xs := fun base m vv xs h => by
            have h1 := World.ownsRow.alloc h (.cells (C7 nm op v sp ns sc) 99)
            refine ownsRow_grown h1 hgrow9 (fun g hg e => ?_)
            rcases own_apart HP8.out h1 (by decide) with h2 | h2
            · have e2 : (Value.slice pp i cp).ownBlock = some g := e
              rw [h2] at e2; cases e2
            · exact h2 ((show (Value.slice pp i cp).ownBlock = some g from e).trans hg.symm)
          refine ⟨i + 1, l ++ [⟨nm, (op : Int), v, sp, sc, set⟩], some ⟨g9, 0, none⟩, cap9, (czR D).map Prod.snd, by simp, by omega, by simp [hli], rfl, by have := hB9.size; omega, Lib.hid (HX8.out.below hB9 (by omega) hbR), Lib.hid ⟨?_, ?_⟩, Lib.hid ?_, Lib.hid ?_, Lib.hid (HB8.out.trans (hB9.mono (by omega)))⟩
          · rw [List.length_append, hli, List.length_singleton, List.flatMap_append]
            simpa using hown9
          · intro c hc
            rcases List.mem_append.1 hc with hc | hc
            · exact hkeep _ _ _ _ (HC8.out.2 c hc)
            · obtain rfl := List.mem_singleton.1 hc
              have h := hkeep _ _ _ _ (own_base HV8.out (show R + 1 ≤ C + 1 by omega))
              show w9.ownsRow (R + 1) 79 4 (.slice sp set.length sc) set.length (set.flatMap encV)
              rw [Hns.out]; exact h
          · intro c hc
            rcases List.mem_append.1 hc with hc | hc
            · exact HI.out c hc
            · obtain rfl := List.mem_singleton.1 hc
              exact ⟨by show set.length ≤ 6; rw [Hns.out]; exact hns6, by show 0 ≤ ((op : Nat) : Int); omega⟩
          · rw [HEq.out]
            show (manyR czR (N - i) D).map _ = _
            rw [HSt.out]
            congr 1
            funext q
            simp [toCz]
        case measure => simp [intOf]; omega
    · have d1 : decide ((i : Int) < (N : Int)) = false := by simp; omega
      have d1n : decide (i < N) = false := by simp; omega
      have HFin : Hid (O.map Prod.snd = o' ∧ ∀ z, O.map Prod.fst = some z → l.map toCz = z) := Lib.hid (by
        have h := HEq.out
        rw [show N - i = 0 by omega, many_endX] at h
        rw [h]
        cases o' with
        | none => exact ⟨rfl, fun z h => by cases h⟩
        | some E => exact ⟨rfl, fun z h => by have := Option.some.inj h; rw [← this]; simp⟩)
      go_wp2_with fail
      refine (rdoneX R b o' wr HX.out).mono ?_; rintro e w8 ⟨rfl, hw8⟩; subst w8
      cases hd : doneR o' with
      | false =>
        have HN : Hid (takeR pzR mayPz L = none) := Lib.hid (take_bad (by rw [HO.out, HFin.out.1]; exact hd))
        clear hd
        go_wp2_with fail
        go_ret2
        exact takeE_no HN.out (by rw [HRr.out]; exact HB.out)
      | true =>
        obtain ⟨x, hr, ht⟩ := take_good (rd := pzR) (may := mayPz) (L := L) (by rw [HO.out, HFin.out.1]; exact hd)
        have hx := HFin.out.2 x (by rw [← HO.out, hr]; rfl)
        subst hx
        rw [mayPz_of (fun c hc => (HI.out c hc).2)] at ht
        have HT := Lib.hid ht
        have HMay := Lib.hid (rmaypr_any (.slice pp i cp) l wr (by have h : OwnC wr (R + 1) (.slice pp l.length cp) l := by rw [Hli.out]; exact HC.out
                                                                   have h2 := h.cs (by rw [Hli.out]; omega) (fun c hc => by have := (HI.out c hc).1; omega)
                                                                   rwa [Hli.out] at h2))
        clear hd hr ht
        go_wp2_with fail
        refine HMay.out.mono ?_; rintro e w9 ⟨rfl, b9⟩
        cases hm : mayPr l with
        | false =>
          have HN : Hid (takeR pzR mayPz L = none) := Lib.hid (by have h := HT.out; rw [hm] at h; simpa using h)
          clear hm HT
          go_wp2_with fail
          go_ret2
          exact takeE_no HN.out (by rw [HRr.out]; exact HB.out.trans (b9.mono (by omega)))
        | true =>
          have HY : Hid (takeR pzR mayPz L = some (l.map toCz)) := Lib.hid (by have h := HT.out; rw [hm] at h; simpa using h)
          clear hm HT
          go_wp2_with fail
          go_ret2
          refine takeE_ok' HY.out ⟨l, rfl, ?_, fun c hc => ⟨?_, (HI.out c hc).2⟩⟩ (by rw [HRr.out]; exact HB.out.trans (b9.mono (by omega)))
          · have h := own_base (own_later HC.out.1 b9) (show R ≤ R + 1 by omega)
            show w9.ownsRow R 99 7 (.slice pp i cp) l.length (l.flatMap encC)
            exact h
          · exact own_base (own_later (HC.out.2 c hc) b9) (show R ≤ R + 1 by omega)
end Go.Proofs.Ytkfheodcmhodpaa.Gm
