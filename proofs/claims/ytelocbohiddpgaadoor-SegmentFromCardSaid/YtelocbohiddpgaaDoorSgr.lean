/- Layer 12: sparse places, and where to begin by them: Places, From. -/
import Derived.Test.YtelocbohiddpgaaDoorSgp
set_option linter.unusedSimpArgs false
set_option linter.unusedVariables false
namespace Go.Proofs.YtelocbohiddpgaaDoor.Crc
open Go Go.RowKit Gm
attribute [local go_sem ↓] Go.wp_at_zero Go.wp_at_succ

/-- The sparse places of the first k records. -/
def plcR (l : List Rc) : Nat → List (Nat × Nat)
  | 0 => []
  | k + 1 => plcR l k ++ (if k % 4 = 0 then [((l.getD k default).n, wholeS (l.take k))] else [])
def cellsP (ps : List (Nat × Nat)) : List Value := ps.flatMap fun p => [.int .u64 (p.1 : Int), .int .i64 (p.2 : Int)]
theorem cellsP_app (a b : List (Nat × Nat)) : cellsP (a ++ b) = cellsP a ++ cellsP b := by simp [cellsP]
theorem plcR_length (l : List Rc) : ∀ k, (plcR l k).length = (k + 3) / 4
  | 0 => rfl
  | k + 1 => by
    rw [plcR, List.length_append, plcR_length l k]
    split
    · simp only [List.length_singleton]; omega
    · simp only [List.length_nil]; omega
theorem infoPl12 : (Tryd.prog.info? 74).map (fun i => (i.zero, i.size, i.bytes)) = some (some (.agg #[.int .u64 0, .int .i64 0]), 2, 16) := by kernel_rfl
/-- What Places leaves: of records of which the first m have forms. -/
def PlcR (l : List Rc) (m : Nat) (w : World) (e : Ending) (w' : World) : Prop := ∃ p c, e = .returned (.slice p ((m + 3) / 4) c) ∧ w'.ownsRow w.heap.size 74 2 (.slice p ((m + 3) / 4) c) ((m + 3) / 4) (cellsP (plcR l m)) ∧ Below w.heap.size w w'
set_option maxHeartbeats 8000000 in
set_option maxRecDepth 100000 in
theorem places_any (v : Value) (l : List Rc) (m : Nat) (hm : m ≤ l.length) (hl : l.length ≤ 40) (hok : ∀ k, k < m → okRc (l.getD k default) = true) (hno : m < l.length → okRc (l.getD m default) = false) (h64 : ∀ k, k < l.length → (l.getD k default).n < 18446744073709551616) (w : World) (hE : Env12 w) (hR : RowS w v l) : Calls Tryd.prog 19 #[v] w (PlcR l m w) := by
  obtain ⟨j0, ji, jz0, jz1, jz2⟩ := info_parts infoPl12
  have HR := Lib.hid hR
  have HE := Lib.hid hE
  have HOk := Lib.hid hok
  have HNo := Lib.hid hno
  have H64 := Lib.hid h64
  obtain ⟨pl, cl, rfl, _⟩ := hR.form
  obtain ⟨no, hn⟩ : ∃ n, l.length = n := ⟨_, rfl⟩
  have HNO := Lib.hid hn
  have hsm : ∀ k, k ≤ m → wholeS (l.take k) ≤ 1518 * k := fun k hk => by
    have h := whole_small (l.take k) (fun r hr => by
      obtain ⟨i, hi, rfl⟩ := List.getElem_of_mem hr
      rw [List.length_take] at hi
      have := hok i (by omega)
      rw [getD_at12 (by omega)] at this
      rw [List.getElem_take]
      exact this)
    rw [List.length_take] at h
    have : min k l.length ≤ k := Nat.min_le_left _ _
    omega
  have HSm := Lib.hid hsm
  rw [hn] at hm hl ⊢
  unfold PlcR
  clear hR hE hok hno h64 hn hsm
  go_enter Tryd.func19, Tryd.ntmps19
  go_wp2_with fail
  go_loopw [3, 4, 9] (fun pv av iv wr => ∃ (k at_ np : Nat) (p : Option Addr) (c : Nat), k ≤ m ∧ at_ ≤ 1518 * k ∧ np ≤ 11 ∧ pv = .slice p np c ∧ av = .int .i64 (at_ : Nat) ∧ iv = .int .i64 (k : Nat) ∧ Hid (at_ = wholeS (l.take k) ∧ np = (k + 3) / 4) ∧ Hid (wr.ownsRow w.heap.size 74 2 (.slice p np c) np (cellsP (plcR l k))) ∧ Hid (Below w.heap.size w wr)) (fun _ _ iv _ => no - (intOf iv).toNat)
  case atStart => exact ⟨0, 0, 0, none, 0, Nat.zero_le _, by omega, by omega, rfl, rfl, rfl, Lib.hid ⟨rfl, rfl⟩, Lib.hid (World.ownsRow_nil _ _ _ _), Lib.hid (Below.refl _ _)⟩
  case round =>
    obtain ⟨k, at_, np, p, c, hk, hat, hnp, rfl, rfl, rfl, HA, HO, HB⟩ := hrel
    by_cases hkn : k < no
    · have hkl : k < l.length := by rw [HNO.out]; exact hkn
      obtain ⟨b, o, vj, hp, hb, c0', c1', hbs⟩ := rowS_at HR.out hkl
      have c0 := (HB.out.cell (p := ⟨b, o + k * 2, none⟩) hb).trans c0'
      have c1 := (HB.out.cell (p := ⟨b, o + k * 2 + 1, none⟩) hb).trans c1'
      clear c0' c1'
      have hidx := idx_s pl b o no cl k hp hkn
      clear hp
      obtain ⟨pv, cv, rfl⟩ := hbs.form
      have hr64 := H64.out k hkl
      obtain ⟨rc, hrc⟩ : ∃ rc, l.getD k default = rc := ⟨_, rfl⟩
      rw [hrc] at c0 c1 hbs hr64
      have HRC := Lib.hid hrc
      obtain ⟨nv, hnv⟩ : ∃ n, rc.d.length = n := ⟨_, rfl⟩
      have hfo := fault_ok rc.n rc.d
      rw [hnv] at c1 hbs hfo
      obtain ⟨N, hN⟩ : ∃ n, rc.n = n := ⟨_, rfl⟩
      rw [hN] at c0 hr64 hfo
      have B5 := below_one wr (.cells #[.int .u64 (N : Int), .slice pv nv cv] 45)
      have K5 := Blk.new wr 45 #[.int .u64 (N : Int), .slice pv nv cv]
      obtain ⟨z, hz⟩ : ∃ z, wr.heap.size = z := ⟨_, rfl⟩
      obtain ⟨W5, hW5⟩ : ∃ W5, wr.alloc (.cells #[.int .u64 (N : Int), .slice pv nv cv] 45) = W5 := ⟨_, rfl⟩
      rw [hW5] at B5 K5
      rw [hz] at K5
      have q0 := K5.cell 0 rfl
      have q1 := K5.cell 1 rfl
      have HK5 := Lib.hid K5
      have HW5 := Lib.hid hW5
      have HZ := Lib.hid hz
      have HB5 := Lib.hid (then_ HB.out B5)
      have HBs := Lib.hid hbs
      have HO5 := Lib.hid (own_later11 HO.out B5)
      have HFa := Lib.hid (fault_any N pv nv cv W5 (HE.out.below HB5.out).2.1)
      have HN := Lib.hid hN
      have HNV := Lib.hid hnv
      obtain ⟨fe, hfe⟩ : ∃ fe, faultE N nv = fe := ⟨_, rfl⟩
      rw [hfe] at HFa hfo
      have HFo := Lib.hid hfo
      clear hrc hnv hN B5 K5 hW5 hz hbs hfe hfo
      go_upto_region 6 with (fail)
      rw [HW5.out, HZ.out]
      go_wp2_with fail
      refine HFa.out.mono ?_; rintro e w6 ⟨rfl, b6⟩
      have HB6 := Lib.hid (then_ HB5.out b6)
      have HO6 := Lib.hid (own_later11 HO5.out b6)
      have HK6 := Lib.hid (HK5.out.later b6)
      clear b6 HFa q0 q1 HO5
      have g0 := HK6.out.cell 0 rfl
      have g1 := HK6.out.cell 1 rfl
      by_cases hkm : k < m
      · have hok : okRc rc = true := by have := HOk.out k hkm; rw [HRC.out] at this; exact this
        have hf0 : fe = 0 := HFo.out.2 (by rw [← HN.out]; exact hok)
        subst hf0
        have HOkr := Lib.hid hok
        have hsz : wholeS (l.take (k + 1)) = at_ + sizeF rc := by rw [whole_next12 hkl, ← HA.out.1, ← getD_at12 hkl, HRC.out]
        have hbl := body_len hok
        have HBody := Lib.hid (fun X (h : Below w.heap.size w X) => body_any N hr64 (.slice pv nv cv) rc.d X (HBs.out.below h) (by have := ((okRc_iff rc).1 hok).2; omega))
        have hbd : formN N ++ rc.d = bodyL rc := by unfold bodyL; rw [HN.out]
        rw [hbd] at HBody
        have hsr : sizeR (bodyL rc) = sizeF rc := by unfold sizeR sizeF; rw [body_may hok, if_pos rfl]
        obtain ⟨s1, hs1⟩ : ∃ n, sizeF rc = n := ⟨_, rfl⟩
        rw [hs1] at hsz hsr
        have hs1b : s1 ≤ 1518 := by rw [← hs1]; unfold sizeF; omega
        have HSz := Lib.hid hsz
        have HSR := Lib.hid hsr
        have hplc : plcR l (k + 1) = plcR l k ++ (if k % 4 = 0 then [(N, at_)] else []) := by rw [plcR, HRC.out, HN.out, ← HA.out.1]
        have HPl := Lib.hid hplc
        have HBL := Lib.hid hbl
        clear hok hsz hbl hbd hsr hs1 hplc
        by_cases h4 : k % 4 = 0
        · have e4 : ((k : Int) % 4 == 0) = true := by rw [beq_iff_eq]; omega
          have e4' : (k : Int) % 4 = 0 := by omega
          have e4'' : Int.tmod (k : Int) 4 = 0 := by rw [show Int.tmod (k : Int) 4 = (k : Int) % 4 from rfl]; omega
          -- a place's block, and the row that grows
          have B7 := below_one w6 (.cells #[.int .u64 (N : Int), .int .i64 (at_ : Int)] 74)
          have K7 := Blk.new w6 74 #[.int .u64 (N : Int), .int .i64 (at_ : Int)]
          have HO7 := Lib.hid (own_later11 HO6.out B7)
          have HSr := Lib.hid (src_rec K7 rfl rfl)
          have HB7 := Lib.hid (then_ HB6.out B7)
          have HK7 := Lib.hid (HK6.out.later B7)
          have HB67 := Lib.hid B7
          clear B7 K7
          go_wp2_with (at_builtin; refine wpList_append_src rfl _ _ 53 (by rfl) w.heap.size 74 j0 (.agg #[.int .u64 0, .int .i64 0]) 2 16 Tryd.underlying53 ji jz0 jz1 jz2 rfl (by decide) _ _ _ (by rfl) HO7.out _ 1 [.int .u64 (N : Int), .int .i64 (at_ : Int)] (by rfl) HSr.out (np + 1) (by rfl) (by unfold maxLen; omega) (by omega) (HB7.out.size) ?_; intro pA cA wA hownA hgrowA; have HOA := Lib.hid hownA; have HBA := Lib.hid (HB7.out.grown hgrowA HB7.out.size (fun j hj => (World.ownsRow.lt HO7.out j hj).1)); have HKA := Lib.hid (HK7.out.grown hgrowA (HK7.out.apart HO7.out (by decide))); clear hownA hgrowA; have y0 := HKA.out.cell 0 rfl; have y1 := HKA.out.cell 1 rfl)
          refine (HBody.out _ HBA.out).mono ?_; rintro e wb ⟨vb, rfl, hob, bb⟩
          have HSzz := Lib.hid (size_any vb (bodyL rc) (by have := HBL.out.2; unfold maxTk; omega) wb hob.bs)
          rw [HSR.out] at HSzz
          obtain ⟨pb, cb, rfl⟩ := hob.form
          have HBB := Lib.hid (then_ HBA.out bb)
          have HOB := Lib.hid (own_later11 HOA.out bb)
          generalize (bodyL rc).length = nbd at *
          clear hob bb
          go_wp2_with fail
          refine HSzz.out.mono ?_; rintro e wb2 ⟨rfl, rfl⟩
          clear HSzz
          go_wp2_with fail
          go_roundw
          case rel => exact ⟨k + 1, at_ + s1, np + 1, pA, cA, by omega, by omega, by have := HA.out.2; omega, rfl, by go_num, by go_num, Lib.hid ⟨HSz.out.symm, by have := HA.out.2; omega⟩, Lib.hid (by rw [HPl.out, if_pos h4, cellsP_app]; exact HOB.out), HBB⟩
          case measure => simp [intOf]; omega
        · have e4 : ((k : Int) % 4 == 0) = false := by rw [beq_eq_false_iff_ne]; omega
          have e4' : ¬ ((k : Int) % 4 = 0) := by omega
          have e4'' : ¬ (Int.tmod (k : Int) 4 = 0) := by rw [show Int.tmod (k : Int) 4 = (k : Int) % 4 from rfl]; omega
          go_wp2_with fail
          refine (HBody.out _ HB6.out).mono ?_; rintro e wb ⟨vb, rfl, hob, bb⟩
          have HSzz := Lib.hid (size_any vb (bodyL rc) (by have := HBL.out.2; unfold maxTk; omega) wb hob.bs)
          rw [HSR.out] at HSzz
          obtain ⟨pb, cb, rfl⟩ := hob.form
          have HBB := Lib.hid (then_ HB6.out bb)
          have HOB := Lib.hid (own_later11 HO6.out bb)
          generalize (bodyL rc).length = nbd at *
          clear hob bb
          go_wp2_with fail
          refine HSzz.out.mono ?_; rintro e wb2 ⟨rfl, rfl⟩
          clear HSzz
          go_wp2_with fail
          go_roundw
          case rel => exact ⟨k + 1, at_ + s1, np, p, c, by omega, by omega, by omega, rfl, by go_num, by go_num, Lib.hid ⟨HSz.out.symm, by have := HA.out.2; omega⟩, Lib.hid (by rw [HPl.out, if_neg h4, List.append_nil]; exact HOB.out), HBB⟩
          case measure => simp [intOf]; omega
      · obtain rfl : k = m := by omega
        have hf0 : fe ≠ 0 := fun e => by
          have h1 := HFo.out.1 e
          have h2 := HNo.out hkl
          rw [HRC.out] at h2
          rw [← HN.out] at h1
          rw [h2] at h1; cases h1
        have e1 : ((fe : Int) == 0) = false := by rw [beq_eq_false_iff_ne]; omega
        have e2 : ¬ ((fe : Int) = 0) := by omega
        have hnpe : (k + 3) / 4 = np := HA.out.2.symm
        have HNP := Lib.hid hnpe
        clear hf0 HA hnpe
        go_wp2_with fail
        go_ret
        exact ⟨p, c, by rw [HNP.out]; rfl, by rw [HNP.out]; exact HO6.out, HB6.out⟩
    · obtain rfl : k = no := by omega
      obtain rfl : k = m := by omega
      have hnpe : (k + 3) / 4 = np := HA.out.2.symm
      have HNP := Lib.hid hnpe
      clear HA hnpe
      go_wp2_with fail
      go_ret
      exact ⟨p, c, by rw [HNP.out]; rfl, by rw [HNP.out]; exact HO.out, HB.out⟩
/-- Where to begin by these places. -/
def fromL (ps : List (Nat × Nat)) (n : Nat) : Nat := ps.foldl (fun a p => if p.1 ≤ n then p.2 else a) 0
theorem fromL_app (a b : List (Nat × Nat)) (n : Nat) : fromL (a ++ b) n = b.foldl (fun a p => if p.1 ≤ n then p.2 else a) (fromL a n) := by unfold fromL; rw [List.foldl_append]
theorem cellsP_length (ps : List (Nat × Nat)) : (cellsP ps).length = ps.length * 2 := by
  induction ps with
  | nil => rfl
  | cons x l ih => simp only [cellsP, List.flatMap_cons, List.length_append, List.length_cons] at ih ⊢; rw [ih]; simp; omega
theorem cellsP_at : ∀ (ps : List (Nat × Nat)) (k : Nat) (hk : k < ps.length), (cellsP ps)[k * 2]? = some (.int .u64 (ps[k].1 : Int)) ∧ (cellsP ps)[k * 2 + 1]? = some (.int .i64 (ps[k].2 : Int))
  | x :: l, 0, _ => ⟨rfl, rfl⟩
  | x :: l, k + 1, hk => by
    have h := cellsP_at l k (by simpa using hk)
    have e : cellsP (x :: l) = .int .u64 (x.1 : Int) :: .int .i64 (x.2 : Int) :: cellsP l := rfl
    rw [e, show (k + 1) * 2 = k * 2 + 1 + 1 by omega]
    simp only [List.getElem?_cons_succ, List.getElem_cons_succ]
    exact h
theorem idx_p (p : Option Addr) (b o n cap k : Nat) (hp : p = some ⟨b, o, none⟩) (hk : k < n) (W : World) : (Instr.indexAt 53 (.slice p n cap) (.int .i64 (k : Int))).run Tryd.prog W = .ok (.pointer (some ⟨b, o + k * 2, none⟩)) W := by subst hp; go_simp
set_option maxHeartbeats 4000000 in
set_option maxRecDepth 100000 in
theorem from_any (base : Nat) (p : Option Addr) (np c : Nat) (ps : List (Nat × Nat)) (hn : ps.length = np) (hnp : np ≤ 100) (n : Nat) (w : World) (hO : w.ownsRow base 74 2 (.slice p np c) np (cellsP ps)) : Calls Tryd.prog 18 #[.slice p np c, .int .u64 (n : Int)] w (Gives (.int .i64 (fromL ps n : Nat)) w) := by
  have HO := Lib.hid hO
  have HN := Lib.hid hn
  clear hO hn
  go_enter Tryd.func18, Tryd.ntmps18
  go_wp2_with fail
  go_loopw [5, 10] (fun av iv wr => ∃ (k a : Nat), k ≤ np ∧ iv = .int .i64 (k : Nat) ∧ av = .int .i64 (a : Nat) ∧ Hid (a = fromL (ps.take k) n) ∧ Hid (Below w.heap.size w wr)) (fun _ iv _ => np - (intOf iv).toNat)
  case atStart => exact ⟨0, 0, Nat.zero_le _, rfl, rfl, Lib.hid rfl, Lib.hid (Below.refl _ _)⟩
  case round =>
    obtain ⟨k, a, hk, rfl, rfl, HA, HB⟩ := hrel
    by_cases hkn : k < np
    · have hkl : k < ps.length := by rw [HN.out]; exact hkn
      obtain ⟨h1, h2⟩ := cellsP_at ps k hkl
      rcases HO.out.2 with ⟨e, h0⟩ | ⟨g, cap, cur, e, hbb, hh, _⟩
      · omega
      · simp only [Value.slice.injEq] at e
        have hp := e.1
        have ho := own_later11 HO.out HB.out
        rw [hp] at ho
        have c0 := (World.ownsRow.cellAt ho (k * 2) (by omega)).trans h1
        have c1 := (World.ownsRow.cellAt ho (k * 2 + 1) (by omega)).trans h2
        have hidx := idx_p p g 0 np c k hp hkn
        rw [Nat.zero_add] at hidx
        have hnx : ps.take (k + 1) = ps.take k ++ [ps[k]] := List.take_succ_eq_append_getElem hkl
        obtain ⟨⟨N, A⟩, hNA⟩ : ∃ x, ps[k] = x := ⟨_, rfl⟩
        rw [hNA] at c0 c1 hnx
        simp only at c0 c1
        have hfx : fromL (ps.take (k + 1)) n = if N ≤ n then A else a := by rw [hnx, fromL_app, ← HA.out]; rfl
        have HFx := Lib.hid hfx
        have HBn := Lib.hid (then_ HB.out (below_one wr (.cells #[.int .u64 (N : Int), .int .i64 (A : Int)] 74)))
        clear h1 h2 e hp ho hnx hNA hfx hh
        by_cases hle : N ≤ n
        · have e1 : (N : Int) ≤ (n : Int) := by omega
          go_wp2_with fail
          go_roundw
          case rel => exact ⟨k + 1, A, by omega, by go_num, rfl, Lib.hid (by rw [HFx.out, if_pos hle]), HBn⟩
          case measure => simp [intOf]; omega
        · have e1 : ¬ ((N : Int) ≤ (n : Int)) := by omega
          go_wp2_with fail
          go_roundw
          case rel => exact ⟨k + 1, a, by omega, by go_num, rfl, Lib.hid (by rw [HFx.out, if_neg hle]), HBn⟩
          case measure => simp [intOf]; omega
    · obtain rfl : k = np := by omega
      have ht : ps.take k = ps := List.take_of_length_le (by rw [HN.out]; exact Nat.le_refl _)
      have HAe : Hid (fromL ps n = a) := Lib.hid (by rw [HA.out, ht])
      clear HA ht
      go_wp2_with fail
      go_ret
      exact ⟨by rw [HAe.out]; rfl, HB.out⟩
/-- The record at which one begins: the first k records are looked at. -/
def startK (l : List Rc) (n : Nat) : Nat → Nat
  | 0 => 0
  | k + 1 => if k % 4 = 0 ∧ (l.getD k default).n ≤ n then k else startK l n k
theorem start_facts (l : List Rc) (n : Nat) : ∀ k, startK l n k ≤ k ∧ (startK l n k = 0 ∨ (startK l n k < k ∧ (l.getD (startK l n k) default).n ≤ n)) ∧ startK l n k % 4 = 0 ∧ fromL (plcR l k) n = wholeS (l.take (startK l n k)) ∧ ∀ i, startK l n k < i → i < k → i % 4 = 0 → n < (l.getD i default).n
  | 0 => ⟨Nat.le_refl _, .inl rfl, rfl, rfl, fun i _ h => by omega⟩
  | k + 1 => by
    obtain ⟨h1, h2, h3, h4, h5⟩ := start_facts l n k
    unfold startK
    by_cases hc : k % 4 = 0 ∧ (l.getD k default).n ≤ n
    · rw [if_pos hc]
      refine ⟨by omega, .inr ⟨by omega, hc.2⟩, hc.1, ?_, fun i h6 h7 => by omega⟩
      rw [plcR, if_pos hc.1, fromL_app]
      simp only [List.foldl_cons, List.foldl_nil]
      rw [if_pos hc.2]
    · rw [if_neg hc]
      refine ⟨by omega, ?_, h3, ?_, fun i h6 h7 h8 => ?_⟩
      · rcases h2 with h2 | ⟨h2, h2'⟩
        · exact .inl h2
        · exact .inr ⟨by omega, h2'⟩
      · rw [plcR, fromL_app]
        by_cases h9 : k % 4 = 0
        · rw [if_pos h9]
          simp only [List.foldl_cons, List.foldl_nil]
          rw [if_neg (fun h => hc ⟨h9, h⟩)]
          exact h4
        · rw [if_neg h9]
          exact h4
      · by_cases hik : i = k
        · subst hik
          by_cases h9 : (l.getD i default).n ≤ n
          · exact absurd ⟨h8, h9⟩ hc
          · omega
        · exact h5 i h6 (by omega) h8
end Go.Proofs.YtelocbohiddpgaaDoor.Crc
