/- Layer 8: Match. -/
import Derived.Test.YtlnjmcodgdebmaaGreatHp
import Derived.Test.YtlnjmcodgdebmaaGreatHr
import Derived.Test.YtlnjmcodgdebmaaGreatHq
set_option linter.unusedSimpArgs false
set_option linter.unusedVariables false
namespace Go.Proofs.YtlnjmcodgdebmaaGreat.Gm
open Go Go.RowKit Go.Maps
attribute [local go_sem ↓] Go.wp_at_zero Go.wp_at_succ

theorem sort_perm {a b : List Int} (h : a.Perm b) : (a.mergeSort fun x y => decide (x ≤ y)) = b.mergeSort fun x y => decide (x ≤ y) := by
  have hs : ∀ l : List Int, (l.mergeSort fun x y => decide (x ≤ y)).Pairwise (fun x y : Int => x ≤ y) := fun l =>
    (List.pairwise_mergeSort (le := fun x y : Int => decide (x ≤ y)) (fun a b c h1 h2 => by simp at *; omega) (fun a b => by simp; omega) l).imp fun {a b} hab => by simpa using hab
  exact ((List.mergeSort_perm a _).trans (h.trans (List.mergeSort_perm b _).symm)).eq_of_pairwise (fun a b _ _ h1 h2 => Int.le_antisymm h1 h2) (hs a) (hs b)
theorem own_grown8 {w w' : World} {r : Nat} {v : Value} {L : List Int} (h : OwnN w (r + 1) v L) (hg : w.grownBy w' (some r)) : OwnN w' (r + 1) v L := by
  refine ⟨h.1, ?_⟩
  rcases h.2 with h0 | ⟨g, cap, cur, hv, hb, hh, rest⟩
  · exact .inl h0
  · exact .inr ⟨g, cap, cur, hv, hb, (hg.block g (lt_of_block hh) (by rintro he; have := Option.some.inj he; omega)).trans hh, rest⟩
theorem infoN : (Tryz.prog.info? 3).map (fun i => (i.zero, i.size, i.bytes)) = some (some (.int .i64 0), 1, 8) := by kernel_rfl
theorem src_n (w : World) (i : Int) : Src (w.alloc (.cells #[.int .i64 i] 3)) (.slice (some ⟨w.heap.size, 0, none⟩) 1 1) 1 1 [.int .i64 i] :=
  .inr ⟨⟨w.heap.size, 0, none⟩, 1, rfl, rfl, World.news_of_block (cs := #[.int .i64 i]) (heap_alloc_new w _), by intro u hu; rw [List.mem_singleton.1 hu]; rfl⟩
/-- How often a number was counted. -/
def cnt8 (pre : List ((Int × Cn) × At)) (i : Int) : Nat := pre.countP fun q => decide (q.1.1 = i) && holdsB q.1.2 q.2.v
theorem cnt8_le (pre : List ((Int × Cn) × At)) (i : Int) : cnt8 pre i ≤ pre.length := List.countP_le_length
theorem cnt8_snoc (pre : List ((Int × Cn) × At)) (o : Int × Cn) (a : At) (i : Int) : cnt8 (pre ++ [(o, a)]) i = cnt8 pre i + if i = o.1 ∧ holdsB o.2 a.v = true then 1 else 0 := by
  unfold cnt8
  rw [List.countP_append]
  congr 1
  by_cases h : i = o.1
  · subst h; cases hh : holdsB o.2 a.v <;> simp [hh]
  · have h' : ¬ o.1 = i := fun e => h e.symm
    simp [h, h']
/-- The counts, where Match's closure keeps them. -/
structure HeldAt (g bh : Nat) (pre : List ((Int × Cn) × At)) (W : World) : Prop where
  c : W.cell? ⟨g, 0, none⟩ = some (.map (some bh))
  lt : g < W.heap.size
  m : ∃ Dh, W.ownsMap Tryz.prog 3 (plainElem Tryz.prog 3) bh pre.length Dh ∧ HeldIs Dh (cnt8 pre)
theorem HeldAt.same {B g bh : Nat} {pre : List ((Int × Cn) × At)} {W W' : World} (h : HeldAt g bh pre W) (hS : SameTo B W W') (hg : g < B) (hb : bh < B) : HeldAt g bh pre W' := by
  obtain ⟨c, lt, Dh, ⟨es, clock, e, r⟩, hH⟩ := h
  exact ⟨(cell_same (hS.2 _ hg)).trans c, Nat.lt_of_lt_of_le lt hS.1, Dh, ⟨es, clock, (hS.2 _ hb).trans e, r⟩, hH⟩
theorem match_none (v : Value) (key : ByteArray) (w : World) (p : Option Addr) (n c : Nat) (hv : v = .slice p n c) : Calls Tryz.prog 13 #[.pointer none, .agg #[.string key, v]] w (Gives (.slice none 0 0) w) := by
  subst hv
  have HM := Lib.hid (fun W => made_none W)
  have HB0 := Lib.hid (below_one w (.cells #[.string key, .slice p n c] 34))
  go_enter Tryz.func13, Tryz.ntmps13
  go_wp2_with fail
  refine (HM.out _).mono ?_; rintro e w1 ⟨rfl, b1⟩
  have HB := Lib.hid (then_ HB0.out b1)
  clear b1
  go_wp2_with fail
  go_ret
  exact ⟨rfl, HB.out⟩
/-- What Match tells of an index's predicates: the numbers of those that match, rising. -/
def matched (D : List Ent) (l : List At) : List Int := ((D.filter fun e => matchesB e.2 l).map (·.1)).mergeSort fun x y => decide (x ≤ y)
def MatchR (D : List Ent) (l : List At) (w : World) (e : Ending) (w' : World) : Prop := ∃ v, e = .returned v ∧ OwnN w' w.heap.size v (matched D l) ∧ Below w.heap.size w w'
set_option maxHeartbeats 4000000 in
set_option maxRecDepth 100000 in
theorem match_any (x bp bn nn np : Nat) (Dn Dp : DataW Value) (D : List Ent) (U : ByteArray → Value) (F : Int → Option Value) (key : ByteArray) (sl : Value) (l : List At) (w : World)
    (h2 : Maps2 w x bp bn) (hownP : w.ownsMap Tryz.prog 3 idElem bp np Dp) (hF : PredsIs Dp F) (hF1 : ∀ i p, (i, p) ∈ D → ∃ a c, F i = some (.slice a p.length c)) (hF2 : ∀ i v, F i = some v → ∃ p, (i, p) ∈ D)
    (hown : w.ownsMap Tryz.prog 9 idElem bn nn Dn) (hN : NamedIs w Dn D U) (hE : Es w sl l) (hs : ∀ a ∈ l, a.nm.size ≤ maxLen) (hD : ∀ nm, (named D nm).length ≤ 1000000) (hA : (asks D l).length < 1099511627776)
    (hnd : (D.map (·.1)).Nodup) (hwf : ∀ e ∈ D, (Lit.int .i64 e.1).wf = true) (hsets : ∀ e ∈ D, ∀ c ∈ e.2, Vs w c.sv c.set) (hlen : D.length ≤ 1000) :
    Calls Tryz.prog 13 #[.pointer (some ⟨x, 0, none⟩), .agg #[.string key, sl]] w (MatchR D l w) := by
  obtain ⟨p, cap, rfl⟩ := hE.1.form
  have hmm := @run_makeMap Tryz.prog
  have H2 := Lib.hid h2
  have HM := Lib.hid (fun (W : World) (h : Below w.heap.size w W) => made_yes x bp bn W (h2.later h))
  have HB0 := Lib.hid (below_one w (.cells #[.string key, .slice p l.length cap] 34))
  have HK0 := Lib.hid (Blk.new w 34 #[.string key, .slice p l.length cap])
  obtain ⟨W1, hW1⟩ : ∃ W1, w.alloc (.cells #[.string key, .slice p l.length cap] 34) = W1 := ⟨_, rfl⟩
  rw [hW1] at HB0 HK0
  have HCA := Lib.hid (fun (g bh : Nat) (W : World) (hw : Below w.heap.size w W) (hb : w.heap.size ≤ bh) (hbl : bh < W.heap.size) (hgb : g ≠ bh) (hc : HeldAt g bh [] W) => ask_match x bp bn nn Dn D U key _ l g bh (HeldAt g bh) w W h2 hown hN hE hs hD hw hb hbl
    (fun pre W1 W2 h hS => h.same hS hc.lt hbl) hc
    (fun pre o a W' hl _ ho hbw hsz hI => by
      obtain ⟨c, lt, Dh, hm, hH⟩ := hI
      unfold named at ho
      rw [List.mem_flatMap] at ho
      obtain ⟨en, hen, ho⟩ := ho
      have how := owns_mem ho
      refine (match_one g bh pre.length Dh (cnt8 pre) hH (cnt8_le pre) (by omega) o (by rw [how.1]; exact hwf en hen) a.v W' ((hsets en hen _ how.2.1).later hbw) c lt hm).mono fun e W2 ⟨h1, h2, D', h3, h4⟩ => ⟨h1, ⟨?_, Nat.lt_of_lt_of_le lt h2.size, D', by rw [List.length_append]; exact h3, ?_⟩, h2⟩
      · exact (cell_same (h2.block g lt (by rintro he; exact hgb (Option.some.inj he)))).trans c
      · intro i hi; rw [h4 i hi, cnt8_snoc]))
  have HOP := Lib.hid hownP
  have HF := Lib.hid hF
  have HF1 := Lib.hid hF1
  have HF2 := Lib.hid hF2
  have HND := Lib.hid hnd
  have HLen := Lib.hid hlen
  have HWF := Lib.hid hwf
  have HAB := Lib.hid hA
  clear h2 hown hN hE hs hD hA hownP hF hF1 hF2 hnd hwf hsets hlen
  go_enter Tryz.func13, Tryz.ntmps13
  go_wp2_with fail
  refine (HM.out _ HB0.out).mono ?_; rintro e w2 ⟨rfl, b2⟩
  have HB2 := Lib.hid (then_ HB0.out b2)
  have k2 := HK0.out.later b2
  have k3 := (k2.alloc (.map #[] 0)).alloc (.cells #[.map (some w2.heap.size)] 82)
  have c0 := k3.cell 0 rfl
  have c1 := k3.cell 1 rfl
  obtain ⟨bh, hbh⟩ : ∃ bh, w2.heap.size = bh := ⟨_, rfl⟩
  have M3 := World.ownsMap_made (P := Tryz.prog) (k := 3) (R := plainElem (H := Value) Tryz.prog 3) w2
  obtain ⟨W3, hW3⟩ : ∃ W3, w2.alloc (.map #[] 0) = W3 := ⟨_, rfl⟩
  have b3 : Below w2.heap.size w2 W3 := by rw [← hW3]; exact below_one w2 _
  have s3 : W3.heap.size = bh + 1 := by rw [← hW3, ← hbh]; simp
  rw [hW3, hbh] at M3
  rw [hW3, hbh] at k3 c0 c1
  have kg := Blk.new W3 82 #[.map (some bh)]
  have b4 := below_one W3 (.cells #[.map (some bh)] 82)
  have hc0 : HeldAt (bh + 1) bh [] (W3.alloc (.cells #[.map (some bh)] 82)) := by
    rw [← s3]
    refine ⟨kg.cell 0 rfl, kg.lt, .map [], map_later M3 b4 M3.lt, fun i _ => ?_⟩
    rfl
  have HB4 := Lib.hid (then_ (then_ HB2.out b3) b4)
  have HBH : Hid (w.heap.size ≤ bh) := Lib.hid (by rw [← hbh]; exact HB2.out.size)
  have HC := Lib.hid (HCA.out (bh + 1) bh _ HB4.out HBH.out (by simp [s3]; omega) (by omega) hc0)
  have HKG : Hid (W3.heap.size = bh + 1) := Lib.hid s3
  clear b2 k2 k3 hc0 HCA b3 b4 M3 kg
  go_wp2_with fail
  refine HC.out.mono ?_; rintro e w5 ⟨rfl, hI5, hg5⟩
  have HB5 := Lib.hid (HB4.out.trans (below_turned hg5 HB4.out.size HBH.out))
  have HI5 := Lib.hid hI5
  have h20 := (H2.out.later HB5.out).p
  have hoP := map_later HOP.out HB5.out HOP.out.lt
  clear hI5 hg5 HC HB4
  go_wp2_with (first | (at_range; refine wpList_range_own _ rfl _ 69 rfl 3 31 (Maps.int_keyed Tryz.underlying3) Tryz.underlying69 idElem bp np Dp rfl hoP ?_; intro w6 hrg6 hg6 hs6) | fail)
  obtain ⟨r, hr⟩ : ∃ r, w5.heap.size = r := ⟨_, rfl⟩
  rw [hr] at hrg6 hs6 ⊢
  have hb6 : Below w5.heap.size w5 w6 := ⟨hg6.os, hg6.tape, hg6.output, hg6.size, fun k hk => hg6.block k hk (by simp)⟩
  have HB6 := Lib.hid (then_ HB5.out hb6)
  have HI6 := Lib.hid (HI5.out.same (B := w5.heap.size) (SameTo.of hb6) HI5.out.lt (by obtain ⟨_, h, _⟩ := HI5.out.m; exact h.lt))
  have HRW : Hid (w.heap.size ≤ r) := Lib.hid (by rw [← hr]; exact HB5.out.size)
  have HGR : Hid (bh + 1 < r ∧ bh < r) := Lib.hid (by rw [← hr]; have := HI5.out.lt; omega)
  have HRG6 := Lib.hid hrg6
  have HS6 := Lib.hid hs6
  have HTN : Hid (told D (Maps.has Dp) (fun e => matchesB e.2 l) = []) := Lib.hid (told_none D _ _ fun e he => by
    obtain ⟨a, c, hv⟩ := HF1.out e.1 e.2 he
    have hw : (Lit.int .i64 e.1).wf = true := HWF.out e he
    rw [HF.out.has e.1 hw, hv]; rfl)
  clear hrg6 hg6 hs6 hb6 hr hoP
  go_frame
  go_loopw [6] (fun u wr => ∃ (left : Lit → Bool) (cnt : Nat) (L : List Int) (pu : Option Addr) (cu : Nat), u = .slice pu L.length cu ∧ Hid (wr.ranges Tryz.prog 3 idElem bp r np Dp left cnt ∧ (∀ z, left z = true → Maps.has Dp z = true)) ∧ Hid (OwnN wr (r + 1) (.slice pu L.length cu) L ∧ L.Perm (told D left fun e => matchesB e.2 l)) ∧ Hid (HeldAt (bh + 1) bh (asks D l) wr) ∧ Hid (Below w.heap.size w wr ∧ r + 1 ≤ wr.heap.size)) (fun _ wr => wr.rangeLeft bp r)
  case atStart => exact ⟨_, _, [], none, 0, rfl, Lib.hid ⟨HRG6.out, fun _ h => h⟩, Lib.hid ⟨World.ownsRow_nil _ _ _ _, by rw [HTN.out]⟩, HI6, Lib.hid ⟨HB6.out, by rw [HS6.out]; exact Nat.le_refl _⟩⟩
  case round =>
    obtain ⟨left, cnt, L, pu, cu, rfl, HRG, HOL, HHA, HBr⟩ := hrel
    clear HRG6 HB6 HI6 HTN HS6
    have hrg := HRG.out.1
    go_wp2_with (first | (at_next; refine wpList_next_ranges _ rfl _ rfl 3 (Maps.int_keyed Tryz.underlying3) idElem (Value.int .i64) id (fun key kl hkey => by obtain ⟨x', rfl, _⟩ := Maps.keyOf_int_inv Tryz.underlying3 hkey; exact ⟨x', rfl⟩) (fun v y _ => ⟨v, rfl⟩) bp r np Dp left cnt rfl hrg ?_ ?_) | fail)
    · intro hc0 hl0
      have HLL := Lib.hid (told_all D left (fun e => matchesB e.2 l) hl0)
      clear hc0 hl0 hrg
      have HOW : Hid (OwnN wr w.heap.size (.slice pu L.length cu) L) := Lib.hid (ownsRow_low HOL.out.1 (by have := HRW.out; omega))
      have HLn : Hid (L.length ≤ 1000000) := Lib.hid (by
        have h1 := HOL.out.2.length_eq
        rw [HLL.out, List.length_map] at h1
        have h2 := List.length_filter_le (fun e : Ent => matchesB e.2 l) D
        have := HLen.out
        omega)
      have HSO := Lib.hid (sort_own_n w.heap.size (.slice pu L.length cu) L wr HOW.out HBr.out.1.size HLn.out)
      rw [sort_perm (HOL.out.2.trans (by rw [HLL.out])), show (((D.filter fun e => matchesB e.2 l).map (·.1)).mergeSort fun x y => decide (x ≤ y)) = matched D l from rfl] at HSO
      go_wp2_with fail
      refine HSO.out.mono ?_; rintro e w9 ⟨rfl, ho9, b9⟩
      have HO9 := Lib.hid ho9
      have HB9 := Lib.hid (HBr.out.1.trans b9)
      clear ho9 b9
      go_wp2_with fail
      go_ret
      exact ⟨_, rfl, HO9.out, HB9.out⟩
    · intro i c kl y ps w7 cnt' hki hlk hRc hat hrg7 hlt hg7 hs7 hen
      obtain ⟨i', hi', rfl, hwi⟩ := Maps.keyOf_int_inv Tryz.underlying3 hki
      injection hi' with _ hi'
      subst hi'
      have hh := HF.out.has i hwi
      rw [HRG.out.2 _ hlk] at hh
      obtain ⟨v, hv⟩ : ∃ v, F i = some v := by
        cases h : F i with
        | none => rw [h] at hh; cases hh
        | some v => exact ⟨v, rfl⟩
      have hy := idElem_eq hRc
      have ha := HF.out.at_ i v hv (.held v)
      rw [hat (.held v), hy] at ha
      have hcv : c = v := DataW.held.inj ha
      subst hcv
      obtain ⟨pi, hpi⟩ := HF2.out i c hv
      obtain ⟨a1, c1', hv1⟩ := HF1.out i pi hpi
      rw [hv] at hv1
      obtain rfl := Option.some.inj hv1
      have HAL := Lib.hid (asks_all D l i pi HND.out hpi)
      have HTS := Lib.hid (told_step HND.out (m := fun e => matchesB e.2 l) hpi hlk)
      have hb7 : Below w.heap.size wr w7 := below_turned hg7 HBr.out.1.size HRW.out
      have HB7 := Lib.hid (HBr.out.1.trans hb7)
      have HI7 := Lib.hid (HHA.out.same (B := r) (SameTo.turned hg7 (by have := HBr.out.2; omega) (Nat.le_refl _)) (by have := HGR.out; omega) (by have := HGR.out; omega))
      have HO7 := Lib.hid (own_grown8 HOL.out.1 hg7)
      have HRG7 := Lib.hid hrg7
      have hLt := HRG7.out
      have hs7' : wr.heap.size = w7.heap.size := hs7.symm
      have HSZ7 : Hid (r + 1 ≤ w7.heap.size) := Lib.hid (by rw [hs7]; exact HBr.out.2)
      have HLTS := Lib.hid (fun z (hz : (left z && !z.sameKey (.int .i64 i)) = true) => HRG.out.2 z (by rw [Bool.and_eq_true] at hz; exact hz.1))
      have HLE : Hid (w7.rangeLeft bp r < wr.rangeLeft bp r) := Lib.hid (by rw [hrg7.left_eq, HRG.out.1.left_eq]; exact hlt)
      obtain ⟨cg, ltg, Dh, hmD, hHD⟩ := HI7.out
      have HHD := Lib.hid hHD
      have hka : keyOf Tryz.prog 3 (.int .i64 i) = some (.int .i64 i) := Maps.keyOf_int_mk Tryz.underlying3 hwi
      have HWI := Lib.hid hwi
      clear hlk hRc hat hrg7 hlt hg7 hs7 hs7' hh hv hy ha hv1 hpi hb7 hLt hrg hHD hwi hki
      obtain ⟨ck, hck⟩ : ∃ ck, cnt8 (asks D l) i = ck := ⟨_, rfl⟩
      rw [show (asks D l).countP (fun q => decide (q.1.1 = i) && holdsB q.1.2 q.2.v) = ck from hck] at HAL
      have HCK := Lib.hid hck
      obtain ⟨pn, hpn⟩ : ∃ pn, pi.length = pn := ⟨_, rfl⟩
      rw [hpn] at HAL
      clear hck
      cases hmt : matchesB pi l with
      | false =>
        rw [hmt] at HAL
        have hdec : ((ck : Int) == (pn : Int)) = false := by
          have := HAL.out
          rw [Bool.eq_false_iff]; intro h; rw [beq_iff_eq] at h
          exact absurd (of_decide_eq_false this) (by omega)
        have HPR : Hid (L.Perm (told D (fun z => left z && !z.sameKey (.int .i64 i)) fun e => matchesB e.2 l)) := Lib.hid (by
          have h := HTS.out
          rw [if_neg (by simp [hmt]), List.append_nil] at h
          exact HOL.out.2.trans h.symm)
        clear hmt
        try rw [hpn]
        rw [hpn] at hen
        clear hpn
        go_wp2_with (first
          | (at_lookup; refine wpList_lookup_own_int _ rfl _ _ 82 rfl 3 3 .i64 (Maps.int_keyed Tryz.underlying3) Tryz.underlying82 Tryz.underlying3 (by kernel_rfl) bh _ Dh rfl hmD _ _ rfl hka ?_; intro cn hcn hwc; rw [HHD.out i HWI.out, HCK.out] at hcn; injection hcn with hcn; injection hcn with _ hcn; subst hcn)
          | fail)
        go_roundw
        case rel => exact ⟨_, _, L, pu, cu, rfl, Lib.hid ⟨HRG7.out, HLTS.out⟩, Lib.hid ⟨HO7.out, HPR.out⟩, HI7, Lib.hid ⟨HB7.out, HSZ7.out⟩⟩
        case measure => exact HLE.out
      | true =>
        rw [hmt] at HAL
        have hdec : ((ck : Int) == (pn : Int)) = true := by
          have := of_decide_eq_true HAL.out
          rw [this]; simp
        have HPR : Hid ((L ++ [i]).Perm (told D (fun z => left z && !z.sameKey (.int .i64 i)) fun e => matchesB e.2 l)) := Lib.hid (by
          have h := HTS.out
          rw [if_pos (by simpa using hmt)] at h
          exact (HOL.out.2.append_right [i]).trans h.symm)
        have HLn : Hid (L.length ≤ 1000) := Lib.hid (by
          have h1 := HOL.out.2.length_eq
          have h2 : (told D left fun e => matchesB e.2 l).length ≤ D.length := by unfold told; rw [List.length_map]; exact List.length_filter_le _ _
          have := HLen.out
          omega)
        clear hmt
        try rw [hpn]
        rw [hpn] at hen
        clear hpn
        obtain ⟨i0, ii, iz0, iz1, iz2⟩ := info_parts infoN
        have HO8 : Hid ((w7.alloc (.cells #[.int .i64 i] 3)).ownsRow (r + 1) 3 1 (.slice pu L.length cu) L.length (L.map (Value.int .i64))) := Lib.hid (World.ownsRow.alloc HO7.out _)
        have HB8 := Lib.hid (below_one w7 (.cells #[.int .i64 i] 3))
        have hln := HLn.out
        have hr8 : r + 1 ≤ (w7.alloc (.cells #[.int .i64 i] 3)).heap.size := Nat.le_trans HSZ7.out HB8.out.size
        have HR8 := Lib.hid hr8
        clear hr8
        go_wp2_with (first
          | (at_lookup; refine wpList_lookup_own_int _ rfl _ _ 82 rfl 3 3 .i64 (Maps.int_keyed Tryz.underlying3) Tryz.underlying82 Tryz.underlying3 (by kernel_rfl) bh _ Dh rfl hmD _ _ rfl hka ?_; intro cn hcn hwc; rw [HHD.out i HWI.out, HCK.out] at hcn; injection hcn with hcn; injection hcn with _ hcn; subst hcn)
          | (at_builtin; refine wpList_append_src rfl _ _ 49 (by rfl) (r + 1) 3 i0 (.int .i64 0) 1 8 Tryz.underlying49 ii iz0 iz1 iz2 rfl (by decide) _ _ _ (by rfl) HO8.out _ 1 [.int .i64 i] (by rfl) (src_n w7 i) (L.length + 1) rfl (by unfold maxLen; omega) (by omega) HR8.out ?_; intro pA capA w9 hown9 hgrow9; have HO9 := Lib.hid hown9; have HB9 := Lib.hid hgrow9; clear hown9 hgrow9)
          | fail)
        have hb9 : Below (r + 1) (w7.alloc (.cells #[.int .i64 i] 3)) w9 := (Below.refl _ _).grown HB9.out HR8.out (fun j hj => (World.ownsRow.lt HO8.out j hj).1)
        have hall : Below (r + 1) w7 w9 := (HB8.out.mono HSZ7.out).trans hb9
        have HAl := Lib.hid hall
        have HOn : Hid (OwnN w9 (r + 1) (.slice pA (L ++ [i]).length capA) (L ++ [i])) := Lib.hid (by
          have h := HO9.out
          unfold OwnN
          rw [List.length_append, List.map_append]
          exact h)
        have HRn : Hid (w9.ranges Tryz.prog 3 idElem bp r np Dp (fun z => left z && !z.sameKey (.int .i64 i)) cnt') := Lib.hid (by
          have hbp : bp < r + 1 := by have := HOP.out.lt; have := HRW.out; omega
          refine ((HRG7.out.alloc (.cells #[.int .i64 i] 3)).kept HB9.out ?_ ?_)
          · intro he; have := (World.ownsRow.lt HO8.out bp he.symm).1; omega
          · intro he; have := (World.ownsRow.lt HO8.out r he.symm).1; omega)
        have HIn : Hid (HeldAt (bh + 1) bh (asks D l) w9) := Lib.hid (HI7.out.same (B := r + 1) (SameTo.of hall) (by have := HGR.out; omega) (by have := HGR.out; omega))
        have HBn : Hid (Below w.heap.size w w9) := Lib.hid (HB7.out.trans (hall.mono (by have := HRW.out; omega)))
        have HSn : Hid (r + 1 ≤ w9.heap.size) := Lib.hid (Nat.le_trans HSZ7.out hall.size)
        have HLEn : Hid (w9.rangeLeft bp r < wr.rangeLeft bp r) := Lib.hid (by rw [HRn.out.left_eq]; have := HLE.out; rwa [HRG7.out.left_eq] at this)
        have HLL : Hid ((L ++ [i]).length = L.length + 1) := Lib.hid (by simp)
        rw [HLL.out] at HOn
        clear hb9 hall
        go_roundw
        case rel => exact ⟨_, _, L ++ [i], pA, capA, by rw [HLL.out], Lib.hid ⟨HRn.out, HLTS.out⟩, Lib.hid ⟨by rw [HLL.out]; exact HOn.out, HPR.out⟩, HIn, Lib.hid ⟨HBn.out, HSn.out⟩⟩
        case measure => exact HLEn.out
end Go.Proofs.YtlnjmcodgdebmaaGreat.Gm
