/- Layer 12: records that may stand in one segment, and their forms: laid. -/
import Derived.Test.YtelocbohiddpgaaDoorSgm
import Derived.Test.YtelocbohiddpgaaDoorFmh
set_option linter.unusedSimpArgs false
set_option linter.unusedVariables false
namespace Go.Proofs.YtelocbohiddpgaaDoor.Crc
open Go Go.RowKit Gm
attribute [local go_sem ↓] Go.wp_at_zero Go.wp_at_succ

/-- The first k records. -/
def laidR (first : Nat) (steps : List UInt8) (data : List (List UInt8)) : Nat → List Rc
  | 0 => []
  | k + 1 => laidR first steps data k ++ [⟨nextN first (laidR first steps data k) + (steps.getD k 0).toNat, (data.getD k []).take 1500⟩]
def laidL (first : Nat) (steps : List UInt8) (data : List (List UInt8)) : List Rc := laidR first steps data (min steps.length 40)
theorem laidR_length (first : Nat) (steps : List UInt8) (data : List (List UInt8)) : ∀ k, (laidR first steps data k).length = k
  | 0 => rfl
  | k + 1 => by rw [laidR, List.length_append, laidR_length first steps data k]; rfl
theorem laidR_next (first : Nat) (steps : List UInt8) (data : List (List UInt8)) : ∀ k, first ≤ nextN first (laidR first steps data k) ∧ nextN first (laidR first steps data k) ≤ first + 256 * k
  | 0 => ⟨Nat.le_refl _, by simp [laidR, nextN]⟩
  | k + 1 => by
    have h := laidR_next first steps data k
    have h2 := (steps.getD k 0).toNat_lt
    rw [laidR, next_snoc]
    simp only
    omega
theorem laidR_rises {first : Nat} (h1 : 1 ≤ first) (h2 : first ≤ 1099511527776) (steps : List UInt8) (data : List (List UInt8)) : ∀ k, k ≤ 40 → rises first (laidR first steps data k)
  | 0, _ => trivial
  | k + 1, hk => by
    have h := laidR_next first steps data k
    have h3 := (steps.getD k 0).toNat_lt
    refine rises_snoc (laidR_rises h1 h2 steps data k (by omega)) ?_ ?_
    · rw [okRc_iff]
      simp only [List.length_take]
      omega
    · simp only; omega
theorem laid_rises {first : Nat} (h1 : 1 ≤ first) (h2 : first ≤ 1099511527776) (steps : List UInt8) (data : List (List UInt8)) : rises first (laidL first steps data) := laidR_rises h1 h2 steps data _ (by omega)
theorem laid_len (first : Nat) (steps : List UInt8) (data : List (List UInt8)) : (laidL first steps data).length ≤ 40 := by unfold laidL; rw [laidR_length]; omega
/-- What laid leaves. -/
def LaidR (l : List Rc) (w : World) (e : Ending) (w' : World) : Prop := ∃ v1 v2, e = .returned (.tuple #[v1, v2]) ∧ RowS w' v1 l ∧ OwnB w' w.heap.size v2 (forms l) ∧ Below w.heap.size w w'
theorem set_snd {w : World} {g : Nat} {t : TypeId} {a b : Value} (h : Blk w g t #[a, b]) (y : Value) : Blk (w.setCell ⟨g, 1, none⟩ y) g t #[a, y] := blk_set h y
set_option maxHeartbeats 16000000 in
set_option maxRecDepth 100000 in
theorem laid_any (first : Nat) (h1 : 1 ≤ first) (h2 : first ≤ 1099511527776) (v : Value) (steps : List UInt8) (u : Value) (data : List (List UInt8)) (W : World) (hE : Env12 W) (hS : Bs W v steps) (hsl : steps.length ≤ maxTk) (hR : RowR W u data) (hdl : data.length ≤ maxTk) : Calls Tryd.prog 13 #[.int .u64 (first : Int), v, u] W (LaidR (laidL first steps data) W) := by
  obtain ⟨i0, ii, iz0, iz1, iz2⟩ := info_parts infoB
  obtain ⟨j0, ji, jz0, jz1, jz2⟩ := info_parts infoRec12
  unfold maxTk at hsl hdl
  have HE := Lib.hid hE
  have HSt := Lib.hid hS
  obtain ⟨pd, cd, rfl, hc⟩ := hR
  have HC := Lib.hid hc
  obtain ⟨ps, cs, rfl⟩ := hS.form
  have HRi := Lib.hid (laidR_rises h1 h2 steps data)
  have HNx := Lib.hid (laidR_next first steps data)
  obtain ⟨ns, hns⟩ : ∃ n, steps.length = n := ⟨_, rfl⟩
  have HNS := Lib.hid hns
  obtain ⟨nd, hnd⟩ : ∃ n, data.length = n := ⟨_, rfl⟩
  have HND := Lib.hid hnd
  rw [hns] at hsl ⊢
  rw [hnd] at hdl ⊢
  unfold LaidR
  clear hE hS hc hns hnd
  go_enter Tryd.func13, Tryd.ntmps13
  go_wp2_with fail
  go_loopw [8, 9, 10, 19] (fun lv bv nv iv wr => ∃ (k n nb : Nat) (pl pb : Option Addr) (cl cb : Nat) (ys : List Rx), k ≤ ns ∧ k ≤ 40 ∧ n ≤ 1099511527776 + 256 * k ∧ nb ≤ k * 1518 ∧ iv = .int .i64 (k : Nat) ∧ nv = .int .u64 (n : Nat) ∧ lv = .slice pl k cl ∧ bv = .slice pb nb cb ∧ Hid (ys.map Rx.rc = laidR first steps data k ∧ n = nextN first (laidR first steps data k) ∧ (forms (laidR first steps data k)).length = nb ∧ ∀ y ∈ ys, Bs W y.v y.d) ∧ Hid (wr.ownsRow W.heap.size 45 2 (.slice pl k cl) k (cellsR ys)) ∧ Hid (wr.ownsRow W.heap.size 5 1 (.slice pb nb cb) nb (cellsB (forms (laidR first steps data k)))) ∧ Hid (Below W.heap.size W wr)) (fun _ _ _ iv _ => ns - (intOf iv).toNat)
  case atStart => exact ⟨0, first, 0, none, none, 0, 0, [], Nat.zero_le _, by omega, by omega, by omega, rfl, rfl, rfl, rfl, Lib.hid ⟨rfl, rfl, rfl, fun y hy => by cases hy⟩, Lib.hid (World.ownsRow_nil _ _ _ _), Lib.hid (World.ownsRow_nil _ _ _ _), Lib.hid (Below.refl _ _)⟩
  case round =>
    obtain ⟨k, n, nb, pl, pb, cl, cb, ys, hk, hk40, hn, hnb, rfl, rfl, rfl, rfl, HY, HO, HOb, HB⟩ := hrel
    by_cases hkn : k < ns ∧ k < 40
    · obtain ⟨hkn, hk4⟩ := hkn
      obtain ⟨p0, cap0, bb, o, e0, hp, hbl, c0⟩ := bs_at (HSt.out.below HB.out) (i := k) (by rw [HNS.out]; exact hkn)
      rw [HNS.out] at e0
      simp only [Value.slice.injEq, true_and] at e0
      obtain ⟨rfl, rfl⟩ := e0
      have hidx := idx_b _ bb o ns cs k hp hkn
      clear hp
      have hkne : ¬ (k = 40) := by omega
      have hkb : ((k : Int) == 40) = false := by rw [beq_eq_false_iff_ne]; omega
      have hkb2 : ¬ ((k : Int) = 40) := by omega
      have hlR : laidR first steps data (k + 1) = laidR first steps data k ++ [⟨n + (steps.getD k 0).toNat, (data.getD k []).take 1500⟩] := by rw [laidR, HY.out.2.1]
      have hrs := HRi.out (k + 1) (by omega)
      obtain ⟨c, hcc⟩ : ∃ c, steps.getD k 0 = c := ⟨_, rfl⟩
      rw [hcc] at c0 hlR
      have hc256 := c.toNat_lt
      obtain ⟨N, hN⟩ : ∃ N, n + c.toNat = N := ⟨_, rfl⟩
      have hNi : (n : Int) + (c.toNat : Int) = (N : Int) := by omega
      have hNb : N ≤ 1099511527776 + 256 * k + 255 := by omega
      have hw1 : IntKind.u64.wrap ((c.toNat : Int)) = (c.toNat : Int) := by rw [IntKind.wrap_u64]; omega
      have hw2 : IntKind.u64.wrap (N : Int) = (N : Int) := by rw [IntKind.wrap_u64]; omega
      rw [hN] at hlR
      have hok : okRc ⟨N, (data.getD k []).take 1500⟩ = true := rises_ok hrs _ (by rw [hlR]; simp)
      have HLR := Lib.hid hlR
      have HOk := Lib.hid hok
      -- the record's box
      have B8 := below_one wr (.cells #[.int .u64 (N : Int), .slice none 0 0] 45)
      have K8 := Blk.new wr 45 #[.int .u64 (N : Int), .slice none 0 0]
      have hzo : ∀ j, (Value.slice pl k cl).ownBlock = some j → W.heap.size ≤ j ∧ j < wr.heap.size := fun j hj => World.ownsRow.lt HO.out j hj
      obtain ⟨z, hz⟩ : ∃ z, wr.heap.size = z := ⟨_, rfl⟩
      obtain ⟨W8, hW8⟩ : ∃ W8, wr.alloc (.cells #[.int .u64 (N : Int), .slice none 0 0] 45) = W8 := ⟨_, rfl⟩
      have hWz : W.heap.size ≤ z := by rw [← hz]; exact HB.out.size
      rw [hW8] at B8 K8
      rw [hz] at K8 hzo
      have HO8 := Lib.hid (own_later11 HO.out B8)
      have HOb8 := Lib.hid (own_later11 HOb.out B8)
      have HB8 := Lib.hid (then_ HB.out B8)
      have HK8 := Lib.hid K8
      have HZo := Lib.hid hzo
      have HW8 := Lib.hid hW8
      have HZ := Lib.hid hz
      have HWz := Lib.hid hWz
      clear hN hcc hlR hok hrs B8 K8 hzo hz hW8
      go_upto_region 9 with (fail)
      rw [HW8.out, HZ.out]
      go_upto_if 34 with (fail)
      go_cut [] from 35 to 64 (fun wq => ∃ (pv : Option Addr) (nv cv : Nat), nv ≤ 1500 ∧ Hid (Blk wq z 45 #[.int .u64 (N : Int), .slice pv nv cv]) ∧ Hid (Bs W (.slice pv nv cv) ((data.getD k []).take 1500)) ∧ Hid (((data.getD k []).take 1500).length = nv) ∧ Hid (wq.ownsRow W.heap.size 45 2 (.slice pl k cl) k (cellsR ys)) ∧ Hid (wq.ownsRow W.heap.size 5 1 (.slice pb nb cb) nb (cellsB (forms (laidR first steps data k)))) ∧ Hid (Below W.heap.size W wq))
      case first =>
        by_cases hkd : k < nd
        · obtain ⟨b2, o2, vj, rfl, hb2, d1, d2⟩ := HC.out k (by rw [HND.out]; exact hkd)
          obtain ⟨pv, cv, rfl⟩ := d2.form
          obtain ⟨D, hD⟩ : ∃ D, data.getD k [] = D := ⟨_, rfl⟩
          rw [hD] at d1 d2
          have HDD := Lib.hid hD
          have hmin : min D.length 1500 ≤ D.length := by omega
          obtain ⟨p3, c3, r3, hb3⟩ := slice_upto d2 hmin
          have ht : D.take (min D.length 1500) = D.take 1500 := by
            by_cases h : D.length ≤ 1500
            · rw [Nat.min_eq_left h, List.take_length, List.take_of_length_le h]
            · rw [Nat.min_eq_right (by omega)]
          rw [ht] at hb3
          have hcast : ((min D.length 1500 : Nat) : Int) = min (D.length : Int) 1500 := by omega
          rw [hcast] at r3
          have hlen : (D.take 1500).length = min D.length 1500 := by rw [List.length_take]; omega
          have e1 := (HB8.out.cell (p := ⟨b2, o2 + k, none⟩) hb2).trans d1
          have hidx2 := idx_r (some ⟨b2, o2, none⟩) b2 o2 nd cd k rfl hkd
          have kz0 := HK8.out.cell 0 rfl
          have kz1 := HK8.out.cell 1 rfl
          have fz1 := HK8.out.free 1
          obtain ⟨m, hm⟩ : ∃ m, min D.length 1500 = m := ⟨_, rfl⟩
          have hm15 : m ≤ 1500 := by omega
          rw [hm] at r3 hb3 hlen
          obtain ⟨mi, hmi⟩ : ∃ mi, min (D.length : Int) 1500 = mi := ⟨_, rfl⟩
          generalize D.length = nD at *
          have HB3 := Lib.hid hb3
          have HLen := Lib.hid hlen
          clear hb3 hlen d2 ht hD hm hmi hmin hcast
          have hdec : decide ((k : Int) < (nd : Int)) = true := decide_eq_true (by omega)
          go_wp2_with fail
          go_region
          have hgz : W8.grownBy (W8.setCell ⟨z, 1, none⟩ (.slice p3 m c3)).drew (some z) := ⟨rfl, rfl, rfl, by simp, fun k hk hne => by
            have := (grown_set (i := 1) (World.grownBy.refl W8 (some z)) (.slice p3 m c3)).block k hk hne
            exact this⟩
          have HK9 : Hid (Blk (W8.setCell ⟨z, 1, none⟩ (.slice p3 m c3)).drew z 45 #[.int .u64 (N : Int), .slice p3 m c3]) := Lib.hid (set_snd HK8.out (.slice p3 m c3))
          have HO9 := Lib.hid (World.ownsRow.kept HO8.out hgz (.inr (fun e => by have := (HZo.out z e).2; omega)))
          have HOb9 := Lib.hid (World.ownsRow.kept HOb8.out hgz (.inr (HK8.out.apart HOb8.out (by decide))))
          have HB9 := Lib.hid (HB8.out.grown hgz HB8.out.size (fun j hj => by cases hj; exact HWz.out))
          clear hgz
          go_wp2_with fail
          go_meet
          exact ⟨p3, m, c3, hm15, HK9, Lib.hid (by rw [HDD.out]; exact HB3.out), Lib.hid (by rw [HDD.out]; exact HLen.out), HO9, HOb9, HB9⟩
        · have hD : data.getD k [] = [] := by
            rw [List.getD_eq_getElem?_getD, List.getElem?_eq_none (by rw [HND.out]; omega)]
            rfl
          have HDD := Lib.hid hD
          have hdec : decide ((k : Int) < (nd : Int)) = false := decide_eq_false (by omega)
          clear hD
          go_wp2_with fail
          go_meet
          exact ⟨none, 0, 0, by omega, HK8, Lib.hid (by rw [HDD.out]; exact Bs.nil W), Lib.hid (by rw [HDD.out]; rfl), HO8, HOb8, HB8⟩
      case rest =>
        obtain ⟨pv, nv, cv, hnv, HK9, HBv, HLv, HO9, HOb9, HB9⟩ := hcut
        have kz0 := HK9.out.cell 0 rfl
        have kz1 := HK9.out.cell 1 rfl
        have hput := sput_any ⟨N, (data.getD k []).take 1500⟩ (by simp only; omega) (.slice pv nv cv) wc (HE.out.below HB9.out).1 (HE.out.below HB9.out).2.1 (HBv.out.below HB9.out)
        have HPut := Lib.hid hput
        clear hput
        go_wp2_with fail
        refine HPut.out.mono ?_; intro e w11 h11
        obtain ⟨pf, cf, rfl, hof, b11⟩ := h11.good HOk.out
        obtain ⟨sz, hsz⟩ : ∃ sz, sizeF ⟨N, (data.getD k []).take 1500⟩ = sz := ⟨_, rfl⟩
        have hszb : sz ≤ 1518 := by have := body_len HOk.out; rw [← hsz]; unfold sizeF; omega
        rw [hsz] at hof ⊢
        have hfl : (formR ⟨N, (data.getD k []).take 1500⟩).length = sz := by rw [formR_length]; exact hsz
        have HF11 := Lib.hid hof
        have HFl := Lib.hid hfl
        have HSF := Lib.hid (fun X (h : OwnB X wc.heap.size (.slice pf sz cf) (formR ⟨N, (data.getD k []).take 1500⟩)) => (by have := h.bs.src; rw [hfl] at this; exact this : Src X (.slice pf sz cf) sz 1 (cellsB (formR ⟨N, (data.getD k []).take 1500⟩))))
        have HB11 := Lib.hid (then_ HB9.out b11)
        have K11 := HK9.out.later b11
        have HO11 := own_later11 HO9.out b11
        have HOb11 := own_later11 HOb9.out b11
        have kx0 := K11.cell 0 rfl
        have kx1 := K11.cell 1 rfl
        -- a block for the record, and two rows that grow
        have B12 := below_one w11 (.cells #[.int .u64 (N : Int), .slice pv nv cv] 45)
        have K12 := Blk.new w11 45 #[.int .u64 (N : Int), .slice pv nv cv]
        have HK12 := Lib.hid (K11.later B12)
        have HO12 := Lib.hid (own_later11 HO11 B12)
        have HOb12 := Lib.hid (own_later11 HOb11 B12)
        have HF12 := Lib.hid (HF11.out.below B12)
        have HSr := Lib.hid (src_rec K12 rfl rfl)
        have HB12 := Lib.hid (then_ HB11.out B12)
        have hz11 : z < w11.heap.size := K11.lt
        have HZlt := Lib.hid hz11
        clear h11 hof b11 K11 HO11 HOb11 B12 K12 hz11 kz0 kz1 hfl HPut hsz
        go_wp2_with (at_builtin; refine wpList_append_src rfl _ _ 38 (by rfl) W.heap.size 45 j0 (.agg #[.int .u64 0, .slice none 0 0]) 2 32 Tryd.underlying38 ji jz0 jz1 jz2 rfl (by decide) _ _ _ (by rfl) HO12.out _ 1 [.int .u64 (N : Int), .slice pv nv cv] (by rfl) HSr.out (k + 1) (by rfl) (by unfold maxLen; omega) (by omega) (HB12.out.size) ?_; intro pA cA wA hownA hgrowA; have HOA := Lib.hid hownA; have HBA := Lib.hid (HB12.out.grown hgrowA HB12.out.size (fun j hj => (HZo.out j hj).1)); have HOb13 := Lib.hid (own_apart12 HOb12.out HO12.out (by decide) hgrowA); have HKA := Lib.hid (HK12.out.grown hgrowA (fun e => by have := (HZo.out _ e).2; omega)); have HFA := Lib.hid (own_apart12 HF12.out HO12.out (by decide) hgrowA); clear hownA hgrowA; go_wp2_with (at_builtin; refine wpList_append_src rfl _ _ 34 (by rfl) W.heap.size 5 i0 (.int .u8 0) 1 1 Tryd.underlying34 ii iz0 iz1 iz2 rfl (by decide) _ _ _ (by rfl) HOb13.out _ sz (cellsB (formR ⟨N, (data.getD k []).take 1500⟩)) (by rfl) (HSF.out _ HFA.out) (nb + sz) (by rfl) (by unfold maxLen; omega) (by omega) (HBA.out.size) ?_; intro pB cB wB hownB hgrowB; have HOB := Lib.hid hownB; have HBB := Lib.hid (HBA.out.grown hgrowB HBA.out.size (fun j hj => (World.ownsRow.lt HOb13.out j hj).1)); have HOA2 := Lib.hid (own_apart12 HOA.out HOb13.out (by decide) hgrowB); have kf := (HKA.out.grown hgrowB (HKA.out.apart HOb13.out (by decide))).cell 0 rfl; clear hownB hgrowB))
        have HYn : Hid ((ys ++ [(⟨N, .slice pv nv cv, (data.getD k []).take 1500⟩ : Rx)]).map Rx.rc = laidR first steps data (k + 1) ∧ N + 1 = nextN first (laidR first steps data (k + 1)) ∧ (forms (laidR first steps data (k + 1))).length = nb + sz ∧ ∀ y ∈ ys ++ [(⟨N, .slice pv nv cv, (data.getD k []).take 1500⟩ : Rx)], Bs W y.v y.d) := Lib.hid ⟨by rw [List.map_append, HY.out.1, HLR.out]; rfl, by rw [HLR.out, next_snoc], by rw [HLR.out, forms_snoc, List.length_append, HY.out.2.2.1, HFl.out], fun y hy => by
          rcases List.mem_append.1 hy with h | h
          · exact HY.out.2.2.2 y h
          · rw [List.mem_singleton] at h; subst h; exact HBv.out⟩
        have HOn : Hid (wB.ownsRow W.heap.size 45 2 (.slice pA (k + 1) cA) (k + 1) (cellsR (ys ++ [(⟨N, .slice pv nv cv, (data.getD k []).take 1500⟩ : Rx)]))) := Lib.hid (by rw [cellsR_snoc]; exact HOA2.out)
        have HObn : Hid (wB.ownsRow W.heap.size 5 1 (.slice pB (nb + sz) cB) (nb + sz) (cellsB (forms (laidR first steps data (k + 1))))) := Lib.hid (by rw [HLR.out, forms_snoc, cellsB_append]; exact HOB.out)
        obtain ⟨ys2, hys⟩ : ∃ ys2, ys ++ [(⟨N, .slice pv nv cv, (data.getD k []).take 1500⟩ : Rx)] = ys2 := ⟨_, rfl⟩
        rw [hys] at HYn HOn
        clear hys
        go_roundw
        case rel => exact ⟨k + 1, N + 1, nb + sz, pA, pB, cA, cB, ys2, by omega, by omega, by omega, by omega, by go_num, by go_num, rfl, rfl, HYn, HOn, HObn, HBB⟩
        case measure => simp [intOf]; omega
    · have hfin : laidL first steps data = laidR first steps data k := by
        unfold laidL
        rw [HNS.out]
        congr 1
        omega
      have HF : Hid (RowS wr (.slice pl k cl) (laidL first steps data) ∧ OwnB wr W.heap.size (.slice pb nb cb) (forms (laidL first steps data)) ∧ Below W.heap.size W wr) := Lib.hid (by
        have hk : ys.length = k := by rw [← List.length_map (f := Rx.rc), HY.out.1, laidR_length]
        refine ⟨?_, ?_, HB.out⟩
        · have h := HO.out
          rw [← hk] at h ⊢
          rw [hfin, ← HY.out.1]
          exact rowS_own h (fun y hy => (HY.out.2.2.2 y hy).below HB.out)
        · rw [hfin]
          unfold OwnB
          rw [HY.out.2.2.1]
          exact HOb.out)
      by_cases hkn2 : k < ns
      · obtain rfl : k = 40 := by omega
        obtain ⟨p0, cap0, bb, o, e0, hp, hbl, c0⟩ := bs_at (HSt.out.below HB.out) (i := 40) (by rw [HNS.out]; exact hkn2)
        rw [HNS.out] at e0
        simp only [Value.slice.injEq, true_and] at e0
        obtain ⟨rfl, rfl⟩ := e0
        have hidx : ∀ X, (Instr.indexAt 34 (.slice ps ns cs) (.int .i64 40)).run Tryd.prog X = .ok (.pointer (some ⟨bb, o + 40, none⟩)) X := fun X => idx_b _ bb o ns cs 40 hp hkn2 X
        have hlt : (40 : Int) < (ns : Int) := by omega
        clear hp
        rw [show (((40 : Nat) : Int)) = 40 from rfl]
        clear HY HO HOb HB hfin
        go_wp2_with fail
        go_ret2
        exact ⟨_, _, rfl, HF.out.1, HF.out.2.1, HF.out.2.2⟩
      · obtain rfl : k = ns := by omega
        clear HY HO HOb HB hfin
        go_wp2_with fail
        go_ret2
        exact ⟨_, _, rfl, HF.out.1, HF.out.2.1, HF.out.2.2⟩
end Go.Proofs.YtelocbohiddpgaaDoor.Crc
