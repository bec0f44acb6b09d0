/- Layer 8: Looks. -/
import Derived.Test.YtlnjmcodgdebmaaGreatRMa
/- Layer 8: ask, as Looks calls it. -/
set_option linter.unusedSimpArgs false
set_option linter.unusedVariables false
namespace Go.Proofs.YtlnjmcodgdebmaaGreat.Gm
open Go Go.RowKit Go.Maps
attribute [local go_sem ↓] Go.wp_at_zero Go.wp_at_succ

set_option maxHeartbeats 4000000 in
set_option maxRecDepth 100000 in
theorem ask_looks (x bp bn nn : Nat) (Dn : DataW Value) (D : List Ent) (U : ByteArray → Value) (key : ByteArray) (sl : Value) (l : List At) (gc T : Nat) (I : List ((Int × Cn) × At) → World → Prop) (w0 w : World)
    (h2 : Maps2 w0 x bp bn) (hown : w0.ownsMap Tryz.prog 9 idElem bn nn Dn) (hN : NamedIs w0 Dn D U) (hE : Es w0 sl l) (hs : ∀ a ∈ l, a.nm.size ≤ maxLen) (hD : ∀ nm, (named D nm).length ≤ 1000000)
    (hb : Below w0.heap.size w0 w) (hT : w0.heap.size ≤ T) (hTw : T < w.heap.size)
    (hI : ∀ pre W W', I pre W → SameTo w.heap.size W W' → I pre W') (h0 : I [] w)
    (hstep : ∀ pre o a W, pre.length < (asks D l).length → a ∈ l → o ∈ named D a.nm → Below w0.heap.size w0 W → w.heap.size ≤ W.heap.size → I pre W → Calls Tryz.prog 38 #[oo o, vv a.v, .pointer (some ⟨gc, 0, none⟩)] W (Step8 I (pre ++ [(o, a)]) T W)) :
    Calls Tryz.prog 33 #[.pointer (some ⟨x, 0, none⟩), .agg #[.string key, sl], .func (.func 38) #[] #[.pointer (some ⟨gc, 0, none⟩)]] w (Step8 I (asks D l) T w) := by
  obtain ⟨p, cap, rfl⟩ := hE.1.form
  have hmm := @run_makeMap Tryz.prog
  have H2 := Lib.hid h2
  have HO := Lib.hid hown
  have HN := Lib.hid hN
  have HE := Lib.hid hE
  have HS := Lib.hid hs
  have HD := Lib.hid hD
  have HB := Lib.hid hb
  have HT := Lib.hid hT
  have HTw := Lib.hid hTw
  have HI := Lib.hid hI
  have H0 := Lib.hid h0
  have HP := Lib.hid hstep
  have hlen := hE.2
  clear h2 hown hN hE hs hD hb hT hTw hI h0 hstep
  have B1 := below_one w (.cells #[.string key, .slice p l.length cap] 34)
  have K1 := Blk.new w 34 #[.string key, .slice p l.length cap]
  obtain ⟨W1, hW1⟩ : ∃ W1, w.alloc (.cells #[.string key, .slice p l.length cap] 34) = W1 := ⟨_, rfl⟩
  rw [hW1] at B1 K1
  have B2 : Below w.heap.size w (W1.alloc (.map #[] 0)) := then_ B1 (below_one W1 _)
  have K2 := K1.alloc (.map #[] 0)
  have M2 := World.ownsMap_made (P := Tryz.prog) (k := 9) (R := unitElem (H := Value)) W1
  obtain ⟨W2, hW2⟩ : ∃ W2, W1.alloc (.map #[] 0) = W2 := ⟨_, rfl⟩
  have hbm : w.heap.size < W1.heap.size := by rw [← hW1]; simp
  obtain ⟨bm, hbmE⟩ : ∃ bm, W1.heap.size = bm := ⟨_, rfl⟩
  rw [hbmE] at M2 hbm
  rw [hW2] at K2 M2 B2
  have HA0 : Hid (Asks8 I (asks D (l.take 0)) ((l.take 0).map (·.nm)) T bm 0 w0 w (.map []) W2) := Lib.hid ⟨HI.out _ _ _ H0.out (SameTo.of B2), grown_below B2 _, then_ HB.out B2 |>.mono (Nat.le_refl _), M2, ⟨isMap_empty, fun nm _ => by simp [Maps.has]⟩⟩
  have HK0 := Lib.hid K2
  have HBM := Lib.hid hbm
  have HW2 : Hid (bm < W2.heap.size) := Lib.hid (by rw [← hW2, ← hbmE]; simp)
  have c1 := K2.cell 1 rfl
  clear B1 K1 M2 B2 hbm
  go_enter Tryz.func33, Tryz.ntmps33
  go_wp2_with fail
  go_loopw [17] (fun i wr => ∃ (k s : Nat) (Ds : DataW Value), k ≤ l.length ∧ s ≤ k ∧ i = .int .i64 k ∧ Hid (Asks8 I (asks D (l.take k)) ((l.take k).map (·.nm)) T bm s w0 w Ds wr)) (fun i _ => l.length - (intOf i).toNat)
  case atStart => exact ⟨0, 0, _, Nat.zero_le _, Nat.le_refl _, rfl, HA0⟩
  case round =>
    obtain ⟨k, s, Ds, hk, hsk, rfl, HA⟩ := hrel
    clear HA0 HK0
    by_cases hkl : k < l.length
    · obtain ⟨p1, cap1, b, o, hv, hp, hbl, a0, a1, a2, a3, a4⟩ := five_at (HE.out.1.later HA.out.b) hkl
      simp only [Value.slice.injEq] at hv
      obtain ⟨rfl, -, rfl⟩ := hv
      have hidx := idx_a p b o l.length cap k hp hkl
      have HTK := Lib.hid (take_snoc l hkl)
      have hmem : l.getD k default ∈ l := by rw [List.getD_eq_getElem?_getD, List.getElem?_eq_getElem hkl]; exact List.getElem_mem hkl
      obtain ⟨a, ha⟩ : ∃ a, l.getD k default = a := ⟨_, rfl⟩
      rw [ha] at a0 a1 a2 a3 a4 HTK hmem
      have HMem := Lib.hid hmem
      have hsz := HS.out a hmem
      have hk0 := WideMaps.keyOf_string_mk (P := Tryz.prog) Tryz.underlying9 hsz
      have HSZ := Lib.hid hsz
      have hA3 := map_later HA.out.m (below_one wr (.cells (atc a) 66)) HA.out.m.lt
      have HB3 := Lib.hid (below_one wr (.cells (atc a) 66))
      have HKA := Lib.hid (Blk.new wr 66 (atc a))
      have hhas := HA.out.is.2 a.nm hsz
      have HKL := Lib.hid hkl
      clear hp ha hmem hsz hbl
      by_cases hseen : a.nm ∈ (l.take k).map (·.nm)
      · have hseen' : Maps.has Ds (.string a.nm.data.toList) = true := by rw [hhas]; simpa using hseen
        have HSE := Lib.hid hseen
        clear hhas hseen
        go_wp2_with (at_lookup; refine wpList_lookup_own_unit _ rfl _ _ 103 rfl 9 104 (string_keyed Tryz.underlying9) Tryz.underlying103 (zero_unit _) bm s Ds rfl hA3 _ _ rfl hk0 ?_; rw [hseen'])
        have HAn : Hid (Asks8 I (asks D (l.take (k + 1))) ((l.take (k + 1)).map (·.nm)) T bm s w0 w Ds ((wr.alloc (.cells (atc a) 66)).alloc (.cells #[] 104))) := Lib.hid (by
          rw [HTK.out, asks_snoc, if_pos HSE.out, List.append_nil, List.map_append]
          exact ⟨((HA.out.later HI.out HB3.out).later HI.out (below_one _ _)).i, ((HA.out.later HI.out HB3.out).later HI.out (below_one _ _)).g, ((HA.out.later HI.out HB3.out).later HI.out (below_one _ _)).b, ((HA.out.later HI.out HB3.out).later HI.out (below_one _ _)).m, HA.out.is.again HSE.out⟩)
        go_roundw
        case rel => exact ⟨k + 1, s, Ds, by omega, by omega, by go_num, HAn⟩
        case measure => simp [intOf]; omega
      · have hseen' : Maps.has Ds (.string a.nm.data.toList) = false := by rw [hhas]; simpa using hseen
        have HSE := Lib.hid hseen
        clear hhas hseen
        have HA4 := Lib.hid ((HA.out.later HI.out HB3.out).later HI.out (below_one _ (.cells #[] 104)))
        have HK4 := Lib.hid (HKA.out.later (below_one _ (.cells #[] 104)))
        have hA4 := HA4.out.m
        have hsm : s < maxLen := by unfold maxLen; omega
        have hBA : bm < wr.heap.size := HA.out.m.lt
        have k40 := HK4.out.cell 0 rfl
        go_wp2_with (first
          | (at_lookup; refine wpList_lookup_own_unit _ rfl _ _ 103 rfl 9 104 (string_keyed Tryz.underlying9) Tryz.underlying103 (zero_unit _) bm s Ds rfl hA3 _ _ rfl hk0 ?_; rw [hseen'])
          | (at_mapUpdate; refine wpList_mapUpdate_in _ rfl _ _ _ 103 rfl 9 104 (string_keyed Tryz.underlying9) Tryz.underlying103 unitElem bm s Ds rfl hA4 hsm (.string a.nm) (.agg #[]) _ rfl rfl hk0 (.agg []) [] unitElem_mk ?_; intro w5 hown5 hturn5)
          | fail)
        have hne5 : wr.heap.size ≠ bm := by omega
        have HK5 := Lib.hid (HK4.out.grownR hturn5.grown hne5)
        have HA5 := Lib.hid (HA4.out.turned HI.out hturn5.grown (Nat.le_of_lt HBM.out) HB.out.size hown5 (HA4.out.is.put a.nm (.agg [])))
        obtain ⟨pU, cU, hU⟩ := (HN.out.row a.nm HSZ.out).form
        have HLk := Lib.hid (fun (z : Later w5) => named_look (map_later HO.out (then_ HA5.out.b z.bel) HO.out.lt) (HN.out.later (then_ HA5.out.b z.bel)) a.nm HSZ.out)
        have HRW := Lib.hid (HN.out.row a.nm HSZ.out)
        rw [hU] at HLk HRW
        have hM7 := HD.out a.nm
        obtain ⟨M, hM⟩ : ∃ M, named D a.nm = M := ⟨_, rfl⟩
        rw [hM] at HLk HRW hM7
        have HMM := Lib.hid hM
        have q0 := fun (z : Later w5) => (H2.out.later (then_ HA5.out.b z.bel)).n
        have q1 := fun (z : Later w5) => Later.cell (HK5.out.cell 0 rfl) z
        have q2 := HLk.out
        obtain ⟨A, hAE⟩ : ∃ A, wr.heap.size = A := ⟨_, rfl⟩
        have HAW : Hid (w.heap.size ≤ A) := Lib.hid (by rw [← hAE]; exact HA.out.size)
        rw [hAE] at HK5 q1 ⊢
        clear hA3 hA4 hown5 hturn5 hU hM hne5 hseen' hsm hBA k40 hk0 hidx a0 a1 a2 a3 a4 HKA HK4 HA4 HB3 hAE
        refine wp_region_later (by kernel_rfl) (by kernel_rfl) ?_
        repeat (quiet_step (fail))
        refine wpQuiet_nil ?_
        intro wz hw'
        obtain ⟨⟨_, hbz⟩, rfl⟩ := hw'
        have HAz := Lib.hid (HA5.out.later HI.out hbz)
        have HKz := Lib.hid (HK5.out.later hbz)
        clear hbz q0 q1 q2 HLk
        go_wp2_with fail
        go_loopw [41] (fun i w2 => ∃ j : Nat, j ≤ M.length ∧ i = .int .i64 j ∧ Hid (Asks8 I (asks D (l.take k) ++ (M.take j).map (fun o => (o, a))) ((l.take k).map (·.nm) ++ [a.nm]) T bm (s + 1) w0 w (Ds.put (.string a.nm.data.toList) (.agg [])) w2) ∧ Hid (Blk w2 A 66 (atc a))) (fun i _ => M.length - (intOf i).toNat)
        case atStart => exact ⟨0, Nat.zero_le _, rfl, Lib.hid (by rw [List.take_zero, List.map_nil, List.append_nil]; exact HAz.out), HKz⟩
        case round =>
          obtain ⟨j, hj, rfl, HAj, HKj⟩ := hrel
          clear HAz HKz HA5 HK5
          by_cases hjm : j < M.length
          · obtain ⟨p2, cap2, b2, o2, hv2, hp2, hb2, e0, e1, e2, e3, e4, e5, e6, e7⟩ := eight_at (HRW.out.later HAj.out.b) hjm
            simp only [Value.slice.injEq] at hv2
            obtain ⟨rfl, -, rfl⟩ := hv2
            have hidx2 := idx_o pU b2 o2 M.length cU j hp2 hjm
            have HTJ := Lib.hid (take_snoc M hjm)
            have hmo : M.getD j default ∈ M := by rw [List.getD_eq_getElem?_getD, List.getElem?_eq_getElem hjm]; exact List.getElem_mem hjm
            obtain ⟨q, hq⟩ : ∃ q, M.getD j default = q := ⟨_, rfl⟩
            rw [hq] at e0 e1 e2 e3 e4 e5 e6 e7 HTJ hmo
            have HMO : Hid (q ∈ named D a.nm) := Lib.hid (by rw [HMM.out]; exact hmo)
            have HJM := Lib.hid hjm
            have hb9 := below_one wr (.cells (ooc q) 77)
            have HA6 := Lib.hid (HAj.out.later HI.out hb9)
            have HK6 := Lib.hid (HKj.out.later hb9)
            have v1 := HK6.out.cell 1 rfl
            have v2 := HK6.out.cell 2 rfl
            have v3 := HK6.out.cell 3 rfl
            have v4 := HK6.out.cell 4 rfl
            have HC := Lib.hid (HP.out (asks D (l.take k) ++ (M.take j).map (fun o => (o, a))) q a (wr.alloc (.cells (ooc q) 77)) (by
              obtain ⟨r, hr⟩ := asks_prefix D l (k + 1)
              rw [hr, HTK.out, asks_snoc, if_neg HSE.out, HMM.out]
              simp only [List.length_append, List.length_map, List.length_take]
              have := HJM.out
              omega) HMem.out HMO.out HA6.out.b HA6.out.size HA6.out.i)
            rw [oo_agg] at HC
            clear hp2 hq hmo hb2 hb9
            go_wp2_with fail
            refine HC.out.mono ?_; rintro e w7 ⟨rfl, i7, g7⟩
            have HA7 : Hid (Asks8 I (asks D (l.take k) ++ (M.take (j + 1)).map (fun o => (o, a))) ((l.take k).map (·.nm) ++ [a.nm]) T bm (s + 1) w0 w (Ds.put (.string a.nm.data.toList) (.agg [])) w7) := Lib.hid (by
              have hsz6 := HA6.out.size
              have hTw := HTw.out
              have hbw := HBM.out
              refine ⟨?_, HA6.out.g.trans g7, HA6.out.b.trans (below_turned g7 (Nat.le_trans HB.out.size hsz6) HT.out), ?_, HA6.out.is⟩
              · rw [HTJ.out, List.map_append, ← List.append_assoc]; exact i7
              · exact map_grown HA6.out.m g7 (by omega))
            have HK7 : Hid (Blk w7 A 66 (atc a)) := Lib.hid (HK6.out.grownR g7 (by have h1 := HAW.out; have h2 := HTw.out; omega))
            clear i7 g7
            go_wp2_with fail
            go_roundw
            case rel => exact ⟨j + 1, by omega, by go_num, HA7, HK7⟩
            case measure => simp [intOf]; omega
          · have hje : j = M.length := by omega
            subst hje
            rw [List.take_length] at HAj
            have HAn : Hid (Asks8 I (asks D (l.take (k + 1))) ((l.take (k + 1)).map (·.nm)) T bm (s + 1) w0 w (Ds.put (.string a.nm.data.toList) (.agg [])) wr) := Lib.hid (by
              rw [HTK.out, asks_snoc, if_neg HSE.out, List.map_append, HMM.out]
              exact HAj.out)
            go_wp2_with fail
            go_roundw
            case rel => exact ⟨k + 1, s + 1, _, by omega, by omega, by go_num, HAn⟩
            case measure => simp [intOf]; omega
    · have hke : k = l.length := by omega
      subst hke
      rw [List.take_length] at HA
      go_wp2_with fail
      go_end0
      exact ⟨rfl, HA.out.i, HA.out.g⟩
end Go.Proofs.YtlnjmcodgdebmaaGreat.Gm
set_option linter.unusedSimpArgs false
set_option linter.unusedVariables false
namespace Go.Proofs.YtlnjmcodgdebmaaGreat.Gm
open Go Go.RowKit Go.Maps
attribute [local go_sem ↓] Go.wp_at_zero Go.wp_at_succ

def Cnt (g : Nat) (pre : List ((Int × Cn) × At)) (w : World) : Prop := w.cell? ⟨g, 0, none⟩ = some (.int .i64 (pre.length : Int)) ∧ w.frozen? ⟨g, 0, none⟩ = false ∧ g < w.heap.size
theorem cell_same {w w' : World} {a : Addr} (h : w'.heap[a.block]? = w.heap[a.block]?) : w'.cell? a = w.cell? a := World.cell?_of_block h
theorem frozen_same {w w' : World} {b i : Nat} (h : w'.heap[b]? = w.heap[b]?) : w'.frozen? ⟨b, i, none⟩ = w.frozen? ⟨b, i, none⟩ := by simp only [World.frozen?, h]
theorem looks_none (v : Value) (key : ByteArray) (w : World) (p : Option Addr) (n c : Nat) (hv : v = .slice p n c) : Calls Tryz.prog 15 #[.pointer none, .agg #[.string key, v]] w (Gives (.int .i64 0) w) := by
  subst hv
  have HM := Lib.hid (fun W => made_none W)
  have HB0 := Lib.hid (below_one w (.cells #[.string key, .slice p n c] 34))
  go_enter Tryz.func15, Tryz.ntmps15
  go_wp2_with fail
  refine (HM.out _).mono ?_; rintro e w1 ⟨rfl, b1⟩
  have HB := Lib.hid (then_ HB0.out b1)
  clear b1
  go_wp2_with fail
  go_ret
  exact ⟨rfl, HB.out⟩
set_option maxHeartbeats 4000000 in
set_option maxRecDepth 100000 in
theorem looks_any (x bp bn nn : Nat) (Dn : DataW Value) (D : List Ent) (U : ByteArray → Value) (key : ByteArray) (sl : Value) (l : List At) (w : World)
    (h2 : Maps2 w x bp bn) (hown : w.ownsMap Tryz.prog 9 idElem bn nn Dn) (hN : NamedIs w Dn D U) (hE : Es w sl l) (hs : ∀ a ∈ l, a.nm.size ≤ maxLen) (hD : ∀ nm, (named D nm).length ≤ 1000000) (hA : (asks D l).length < 1099511627776) :
    Calls Tryz.prog 15 #[.pointer (some ⟨x, 0, none⟩), .agg #[.string key, sl]] w (Gives (.int .i64 (looks D l : Nat)) w) := by
  obtain ⟨p, cap, rfl⟩ := hE.1.form
  have H2 := Lib.hid h2
  have HM := Lib.hid (fun (W : World) (h : Below w.heap.size w W) => made_yes x bp bn W (h2.later h))
  have HB0 := Lib.hid (below_one w (.cells #[.string key, .slice p l.length cap] 34))
  have HK0 := Lib.hid (Blk.new w 34 #[.string key, .slice p l.length cap])
  obtain ⟨W1, hW1⟩ : ∃ W1, w.alloc (.cells #[.string key, .slice p l.length cap] 34) = W1 := ⟨_, rfl⟩
  rw [hW1] at HB0 HK0
  have HCA := Lib.hid (fun (g : Nat) (W : World) (hw : Below w.heap.size w W) (hg : w.heap.size ≤ g) (hc : Cnt g [] W) => ask_looks x bp bn nn Dn D U key _ l g g (Cnt g) w W h2 hown hN hE hs hD hw hg hc.2.2
    (fun pre W1 W2 h hS => ⟨(cell_same (hS.2 _ hc.2.2)).trans h.1, (frozen_same (hS.2 _ hc.2.2)).trans h.2.1, Nat.lt_of_lt_of_le h.2.2 hS.1⟩) hc
    (fun pre o a W' hl _ _ _ _ hI => (looks_one g pre.length (by omega) (by omega) o a.v W' hI.1 hI.2.1 hI.2.2).mono fun e W2 ⟨h1, h2, h3, h4⟩ => ⟨h1, ⟨by rw [h2, List.length_append]; rfl, h3, Nat.lt_of_lt_of_le hI.2.2 h4.size⟩, h4⟩))
  have HAL := Lib.hid (asks_len D l)
  have HAB := Lib.hid hA
  clear h2 hown hN hE hs hD hA
  go_enter Tryz.func15, Tryz.ntmps15
  go_wp2_with fail
  refine (HM.out _ HB0.out).mono ?_; rintro e w2 ⟨rfl, b2⟩
  have HB2 := Lib.hid (then_ HB0.out b2)
  have k2 := HK0.out.later b2
  have k3 := k2.alloc (.cells #[.int .i64 0] 3)
  have c0 := k3.cell 0 rfl
  have c1 := k3.cell 1 rfl
  have hc0 : Cnt w2.heap.size [] (w2.alloc (.cells #[.int .i64 0] 3)) := by
    have hk := Blk.new w2 3 #[.int .i64 0]
    exact ⟨hk.cell 0 rfl, hk.free 0, hk.lt⟩
  have HB3 := Lib.hid (then_ HB2.out (below_one w2 (.cells #[.int .i64 0] 3)))
  have HC := Lib.hid (HCA.out w2.heap.size _ HB3.out HB2.out.size hc0)
  have HG := Lib.hid HB2.out.size
  clear b2 k2 k3 hc0 HCA
  go_wp2_with fail
  refine HC.out.mono ?_; rintro e w4 ⟨rfl, hI, hg4⟩
  have HB4 := Lib.hid (HB3.out.trans (below_turned hg4 HB3.out.size HG.out))
  have d0 := hI.1
  rw [HAL.out] at d0
  clear hI hg4 HC
  go_wp2_with fail
  go_ret
  exact ⟨rfl, HB4.out⟩
end Go.Proofs.YtlnjmcodgdebmaaGreat.Gm
