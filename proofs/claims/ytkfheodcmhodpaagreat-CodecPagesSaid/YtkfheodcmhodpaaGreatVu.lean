/- The document's MayPage. -/
import Derived.Test.YtkfheodcmhodpaaGreatVe
import Derived.Test.YtkfheodcmhodpaaGreatNs
import Derived.Test.YtkfheodcmhodpaaGreatTr
set_option linter.unusedSimpArgs false
set_option linter.unusedVariables false
namespace Go.Proofs.YtkfheodcmhodpaaGreat.Gm
open Go Go.RowKit
attribute [local go_sem ↓] Go.wp_at_zero Go.wp_at_succ

theorem lt_t {a b : Nat} (h : a < b) : decide ((a : Int) < (b : Int)) = true ∧ decide (a < b) = true := by constructor <;> simp <;> omega
theorem lt_f {a b : Nat} (h : b ≤ a) : decide ((a : Int) < (b : Int)) = false ∧ decide (a < b) = false := by constructor <;> simp <;> omega
theorem le_t {a b : Nat} (h : a ≤ b) : decide ((a : Int) ≤ (b : Int)) = true ∧ decide (a ≤ b) = true := by constructor <;> simp <;> omega
theorem le_f {a b : Nat} (h : b < a) : decide ((a : Int) ≤ (b : Int)) = false ∧ decide (a ≤ b) = false := by constructor <;> simp <;> omega
theorem apart_swap (gs : List Gp) (l : List It) : apartB gs l = l.all fun x => gs.all fun g => !inB g x := by
  unfold apartB
  rw [Bool.eq_iff_iff]
  simp only [List.all_eq_true]
  exact ⟨fun h x hx g hg => h g hg x hx, fun h g hg x hx => h x hx g hg⟩
theorem idx_it (p : Option Addr) (b o n cap k : Nat) (hp : p = some ⟨b, o, none⟩) (hk : k < n) (W : World) : (Instr.indexAt 23 (.slice p n cap) (.int .i64 (k : Int))).run Tryz.prog W = .ok (.pointer (some ⟨b, o + k * 4, none⟩)) W := by subst hp; go_simp
theorem idx_gp (p : Option Addr) (b o n cap k : Nat) (hp : p = some ⟨b, o, none⟩) (hk : k < n) (W : World) : (Instr.indexAt 24 (.slice p n cap) (.int .i64 (k : Int))).run Tryz.prog W = .ok (.pointer (some ⟨b, o + k * 2, none⟩)) W := by subst hp; go_simp
theorem wrap_pred {i : Nat} (h : 0 < i) (hl : i ≤ 100) : IntKind.i64.wrap ((i : Int) - 1) = ((i - 1 : Nat) : Int) := by rw [IntKind.wrap_i64]; omega
theorem getD_map_it {l : List Im} {k : Nat} (h : k < l.length) : (l.map toIt).drop k = toIt (l.getD k default) :: (l.map toIt).drop (k + 1) := map_getD h
/-- What is left of the items' check. -/
def itemsR (fr en : Nat) (its : List Im) (i : Nat) : Bool := itemsB en (if i = 0 then fr else (its.getD (i - 1) default).n + 1) ((its.map toIt).drop i)
def gapsR (fr en : Nat) (gps : List Gp) (i : Nat) : Bool := gapsB en (if i = 0 then fr else (gps.getD (i - 1) default).2 + 1) (gps.drop i)
def farR (gps : List Gp) (its : List Im) (i : Nat) : Bool := ((its.map toIt).drop i).all fun x => gps.all fun g => !inB g x
theorem itemsR_step {fr en : Nat} {its : List Im} {i : Nat} (h : i < its.length) : itemsR fr en its i = (mayI (toIt (its.getD i default)) && (decide ((if i = 0 then fr else (its.getD (i - 1) default).n + 1) ≤ (its.getD i default).n) && (decide ((its.getD i default).n < en) && itemsR fr en its (i + 1)))) := by
  unfold itemsR
  rw [map_getD h, itemsB, if_neg (by omega : ¬ i + 1 = 0)]
  rfl
theorem gapsR_step {fr en : Nat} {gps : List Gp} {i : Nat} (h : i < gps.length) : gapsR fr en gps i = (decide ((if i = 0 then fr else (gps.getD (i - 1) default).2 + 1) ≤ (gps.getD i default).1) && (decide ((gps.getD i default).1 ≤ (gps.getD i default).2) && (decide ((gps.getD i default).2 < en) && gapsR fr en gps (i + 1)))) := by
  unfold gapsR
  rw [drop_next h, gapsB, if_neg (by omega : ¬ i + 1 = 0)]
  rfl
theorem farR_step {gps : List Gp} {its : List Im} {i : Nat} (h : i < its.length) : farR gps its i = ((gps.all fun g => !inB g (toIt (its.getD i default))) && farR gps its (i + 1)) := by
  unfold farR
  rw [map_getD h, List.all_cons]
theorem mayPg_R (p : Pm) : mayPg (toPg p) = (spanB p.fr p.en && (decide (p.its.length ≤ 4) && itemsR p.fr p.en p.its 0) && (decide (p.gps.length ≤ 16) && gapsR p.fr p.en p.gps 0) && farR p.gps p.its 0) := by
  have e : (p.its.map toIt).length = p.its.length := List.length_map ..
  unfold mayPg toPg
  simp only [apart_swap, e]
  rfl
theorem item_fail {mi r : Bool} {fr en n yn i : Nat} (hF : (!mi || (decide (n < fr) || (decide (en ≤ n) || (decide (0 < i) && decide (n ≤ yn))))) = true) (hy : i ≠ 0 → fr ≤ yn) : (mi && (decide ((if i = 0 then fr else yn + 1) ≤ n) && (decide (n < en) && r))) = false := by
  cases h : (mi && (decide ((if i = 0 then fr else yn + 1) ≤ n) && (decide (n < en) && r))) with
  | false => rfl
  | true =>
    simp only [Bool.and_eq_true, decide_eq_true_eq] at h
    simp only [Bool.or_eq_true, Bool.and_eq_true, decide_eq_true_eq, Bool.not_eq_true'] at hF
    obtain ⟨h1, h2, h3, _⟩ := h
    split at h2
    · rcases hF with h | h | h | h
      · rw [h1] at h; cases h
      all_goals omega
    · rename_i hi
      have := hy hi
      rcases hF with h | h | h | h
      · rw [h1] at h; cases h
      all_goals omega
theorem item_pass {mi r : Bool} {fr en n yn i : Nat} (hF : (!mi || (decide (n < fr) || (decide (en ≤ n) || (decide (0 < i) && decide (n ≤ yn))))) = false) : (mi && (decide ((if i = 0 then fr else yn + 1) ≤ n) && (decide (n < en) && r))) = r ∧ fr ≤ n := by
  simp only [Bool.or_eq_false_iff, Bool.and_eq_false_iff, decide_eq_false_iff_not, Bool.not_eq_false'] at hF
  obtain ⟨h1, h2, h3, h4⟩ := hF
  have e1 : decide ((if i = 0 then fr else yn + 1) ≤ n) = true := by
    rw [decide_eq_true_iff]
    split
    · omega
    · rcases h4 with h | h <;> omega
  rw [h1, e1, decide_eq_true (by omega : n < en)]
  exact ⟨by simp, by omega⟩
theorem gap_fail {r : Bool} {fr en f t yn i : Nat} (hF : (decide (t < f) || (decide (f < fr) || (decide (en ≤ t) || (decide (0 < i) && decide (f ≤ yn))))) = true) (hy : i ≠ 0 → fr ≤ yn) : (decide ((if i = 0 then fr else yn + 1) ≤ f) && (decide (f ≤ t) && (decide (t < en) && r))) = false := by
  cases h : (decide ((if i = 0 then fr else yn + 1) ≤ f) && (decide (f ≤ t) && (decide (t < en) && r))) with
  | false => rfl
  | true =>
    simp only [Bool.and_eq_true, decide_eq_true_eq] at h
    simp only [Bool.or_eq_true, Bool.and_eq_true, decide_eq_true_eq] at hF
    obtain ⟨h2, h1, h3, _⟩ := h
    split at h2
    · omega
    · rename_i hi
      have := hy hi
      omega
theorem gap_pass {r : Bool} {fr en f t yn i : Nat} (hF : (decide (t < f) || (decide (f < fr) || (decide (en ≤ t) || (decide (0 < i) && decide (f ≤ yn))))) = false) : (decide ((if i = 0 then fr else yn + 1) ≤ f) && (decide (f ≤ t) && (decide (t < en) && r))) = r ∧ fr ≤ t := by
  simp only [Bool.or_eq_false_iff, Bool.and_eq_false_iff, decide_eq_false_iff_not] at hF
  obtain ⟨h1, h2, h3, h4⟩ := hF
  have e1 : decide ((if i = 0 then fr else yn + 1) ≤ f) = true := by
    rw [decide_eq_true_iff]
    split
    · omega
    · rcases h4 with h | h <;> omega
  rw [e1, decide_eq_true (by omega : f ≤ t), decide_eq_true (by omega : t < en)]
  exact ⟨by simp, by omega⟩
theorem itemsR_end {fr en : Nat} {its : List Im} {i : Nat} (h : its.length ≤ i) : itemsR fr en its i = true := by
  unfold itemsR
  rw [List.drop_eq_nil_of_le (by rw [List.length_map]; exact h), itemsB]
theorem gapsR_end {fr en : Nat} {gps : List Gp} {i : Nat} (h : gps.length ≤ i) : gapsR fr en gps i = true := by
  unfold gapsR
  rw [List.drop_eq_nil_of_le h, gapsB]
theorem farR_end {gps : List Gp} {its : List Im} {i : Nat} (h : its.length ≤ i) : farR gps its i = true := by
  unfold farR
  rw [List.drop_eq_nil_of_le (by rw [List.length_map]; exact h)]
  rfl
set_option maxHeartbeats 16000000 in
set_option maxRecDepth 20000 in
theorem qmaypage_any (p : Pm) (w : World) (hP : PgIn w p) : Calls Tryz.prog 10 #[pp p] w (Gives (.bool (mayPg (toPg p))) w) := by
  have HE := Lib.hid (mayPg_R p)
  obtain ⟨M, hM⟩ : ∃ M, mayPg (toPg p) = M := ⟨_, rfl⟩
  rw [hM] at HE ⊢
  clear hM
  obtain ⟨fr, en, ip, ic, its, gp, gc, gps, last⟩ := p
  obtain ⟨⟨hI1, hI2, hI3⟩, ⟨hG1, hG2, hG3⟩, hfr, hen⟩ := hP
  simp only [Pm.iv, Pm.gv] at hI1 hG1 hI2 hG2 hI3 hG3 HE
  obtain ⟨_, _, bi, oi, hv, hpi, hCi⟩ := hI1
  simp only [Value.slice.injEq, true_and] at hv
  obtain ⟨rfl, rfl⟩ := hv
  obtain ⟨_, _, bg, og, hv, hpg, hCg⟩ := hG1
  simp only [Value.slice.injEq, true_and] at hv
  obtain ⟨rfl, rfl⟩ := hv
  have HPi := Lib.hid hpi
  have HPg := Lib.hid hpg
  have HCi := Lib.hid hCi
  have HCg := Lib.hid hCg
  have HI3 := Lib.hid (fun k (hk : k < its.length) => (hI3 _ (mem_getD hk)))
  have HG3 := Lib.hid (fun k (hk : k < gps.length) => (hG3 _ (mem_getD hk)))
  clear hpi hpg hCi hCg hI3 hG3
  obtain ⟨ni, hni⟩ : ∃ ni, its.length = ni := ⟨_, rfl⟩
  obtain ⟨ng, hng⟩ : ∃ ng, gps.length = ng := ⟨_, rfl⟩
  have Hni := Lib.hid hni
  have Hng := Lib.hid hng
  have hi63 : ni ≤ 140737488355328 := by omega
  have hg63 : ng ≤ 140737488355328 := by omega
  rw [show pp ⟨fr, en, ip, ic, its, gp, gc, gps, last⟩ = .agg #[.int .u64 fr, .int .u64 en, .slice ip ni ic, .slice gp ng gc, .bool last] by rw [← hni, ← hng]]
  have HB0 := Lib.hid (below_one w (.cells #[.int .u64 fr, .int .u64 en, .slice ip ni ic, .slice gp ng gc, .bool last] 26))
  have HK0 := Lib.hid (Blk.new w 26 #[.int .u64 fr, .int .u64 en, .slice ip ni ic, .slice gp ng gc, .bool last])
  rw [hni, hng] at HE
  clear hni hng hI2 hG2
  by_cases a1 : fr = 0
  · have hM : M = false := by rw [HE.out]; unfold spanB; rw [decide_eq_false (by omega : ¬ 1 ≤ fr)]; rfl
    subst a1 hM
    go_enter Tryz.func10, Tryz.ntmps10
    go_wp2_with fail
    go_ret
    exact ⟨rfl, HB0.out⟩
  have b1 : ((fr : Int) == 0) = false := by rw [beq_eq_false_iff_ne]; omega
  by_cases a2 : 1099511627777 < fr
  · have hM : M = false := by
      rw [HE.out]; unfold spanB
      rcases Nat.lt_or_ge en fr with h | h
      · rw [decide_eq_false (by omega : ¬ fr ≤ en)]; simp
      · rw [decide_eq_false (by omega : ¬ en ≤ 1099511627777)]; simp
    have b2 : decide ((1099511627777 : Int) < (fr : Int)) = true := by simp; omega
    have b2' : decide (1099511627777 < fr) = true := by simp; omega
    subst hM
    clear a1
    go_enter Tryz.func10, Tryz.ntmps10
    go_wp2_with fail
    go_ret
    exact ⟨rfl, HB0.out⟩
  have b2 : decide ((1099511627777 : Int) < (fr : Int)) = false := by simp; omega
  have b2' : decide (1099511627777 < fr) = false := by simp; omega
  by_cases a3 : en < fr
  · have hM : M = false := by rw [HE.out]; unfold spanB; rw [decide_eq_false (by omega : ¬ fr ≤ en)]; simp
    obtain ⟨b3, b3'⟩ := lt_t a3
    subst hM
    clear a1 a2
    go_enter Tryz.func10, Tryz.ntmps10
    go_wp2_with fail
    go_ret
    exact ⟨rfl, HB0.out⟩
  obtain ⟨b3, b3'⟩ := lt_f (show fr ≤ en by omega)
  by_cases a4 : 1099511627777 < en
  · have hM : M = false := by rw [HE.out]; unfold spanB; rw [decide_eq_false (by omega : ¬ en ≤ 1099511627777)]; simp
    have b4 : decide ((1099511627777 : Int) < (en : Int)) = true := by simp; omega
    have b4' : decide (1099511627777 < en) = true := by simp; omega
    subst hM
    clear a1 a2 a3
    go_enter Tryz.func10, Tryz.ntmps10
    go_wp2_with fail
    go_ret
    exact ⟨rfl, HB0.out⟩
  have b4 : decide ((1099511627777 : Int) < (en : Int)) = false := by simp; omega
  have b4' : decide (1099511627777 < en) = false := by simp; omega
  by_cases a5 : 4 < ni
  · have hM : M = false := by rw [HE.out]; rw [decide_eq_false (by omega : ¬ ni ≤ 4)]; simp
    have b5 : decide ((4 : Int) < (ni : Int)) = true := by simp; omega
    have b5' : decide (4 < ni) = true := by simp; omega
    subst hM
    clear a1 a2 a3 a4
    go_enter Tryz.func10, Tryz.ntmps10
    go_wp2_with fail
    go_ret
    exact ⟨rfl, HB0.out⟩
  have b5 : decide ((4 : Int) < (ni : Int)) = false := by simp; omega
  have b5' : decide (4 < ni) = false := by simp; omega
  by_cases a6 : 16 < ng
  · have hM : M = false := by rw [HE.out]; rw [decide_eq_false (by omega : ¬ ng ≤ 16)]; simp
    have b6 : decide ((16 : Int) < (ng : Int)) = true := by simp; omega
    have b6' : decide (16 < ng) = true := by simp; omega
    subst hM
    clear a1 a2 a3 a4 a5
    go_enter Tryz.func10, Tryz.ntmps10
    go_wp2_with fail
    go_ret
    exact ⟨rfl, HB0.out⟩
  have b6 : decide ((16 : Int) < (ng : Int)) = false := by simp; omega
  have b6' : decide (16 < ng) = false := by simp; omega
  have HE2 : Hid (M = (itemsR fr en its 0 && farR gps its 0 && gapsR fr en gps 0)) := Lib.hid (by
    rw [HE.out]
    unfold spanB
    rw [decide_eq_true (by omega : 1 ≤ fr), decide_eq_true (by omega : fr ≤ en), decide_eq_true (by omega : en ≤ 1099511627777), decide_eq_true (by omega : ni ≤ 4), decide_eq_true (by omega : ng ≤ 16)]
    simp only [Bool.true_and]
    cases itemsR fr en its 0 <;> cases farR gps its 0 <;> simp)
  have hi4 : ni ≤ 4 := by omega
  have hg16 : ng ≤ 16 := by omega
  have hfe : Hid (fr ≤ en) := Lib.hid (by omega)
  clear HE a1 a2 a3 a4 a5 a6
  go_enter Tryz.func10, Tryz.ntmps10
  go_wp2_with fail
  clear b1 b2 b2' b3 b3' b4 b4' b5 b5' b6 b6'
  obtain ⟨W0, hW0⟩ : ∃ W0, w.alloc (.cells #[.int .u64 fr, .int .u64 en, .slice ip ni ic, .slice gp ng gc, .bool last] 26) = W0 := ⟨_, rfl⟩
  rw [hW0] at HB0 HK0 ⊢
  clear hW0
  go_loopw [3] (fun iv wr => ∃ (i : Nat), i ≤ ni ∧ iv = .int .i64 i ∧ Hid (M = (itemsR fr en its i && farR gps its i && gapsR fr en gps 0)) ∧ Hid (i ≠ 0 → fr ≤ (its.getD (i - 1) default).n) ∧ Hid (Below W0.heap.size W0 wr)) (fun iv _ => ni - (intOf iv).toNat)
  case atStart => exact ⟨0, Nat.zero_le _, rfl, HE2, Lib.hid (fun h => absurd rfl h), Lib.hid (Below.refl _ _)⟩
  case round =>
    obtain ⟨i, hi, rfl, HM, HF, HB⟩ := hrel
    obtain ⟨wo, rfl⟩ : ∃ wo : World, wo = wr := ⟨_, rfl⟩
    have BB := Lib.hid (then_ HB0.out HB.out)
    have c0 := (HK0.out.later HB.out).cell 0 (u := .int .u64 fr) rfl
    have c1 := (HK0.out.later HB.out).cell 1 (u := .int .u64 en) rfl
    have c2 := (HK0.out.later HB.out).cell 2 (u := .slice ip ni ic) rfl
    have c3 := (HK0.out.later HB.out).cell 3 (u := .slice gp ng gc) rfl
    by_cases hin : i < ni
    · have hil : i < its.length := by rw [Hni.out]; exact hin
      have hne : its ≠ [] := by rintro rfl; simp at hil
      obtain ⟨hq, hb1⟩ := HPi.out hne
      have HQ := Lib.hid hq
      have hidx := idx_it ip bi oi ni ic i hq hin
      have e0 := (BB.out.cell (p := ⟨bi, oi + i * 4, none⟩) hb1).trans (HCi.out i hil 0 _ rfl)
      have e1 := (BB.out.cell (p := ⟨bi, oi + i * 4 + 1, none⟩) hb1).trans (HCi.out i hil 1 _ rfl)
      have e2 := (BB.out.cell (p := ⟨bi, oi + i * 4 + 2, none⟩) hb1).trans (HCi.out i hil 2 _ rfl)
      have e3 := (BB.out.cell (p := ⟨bi, oi + i * 4 + 3, none⟩) hb1).trans (HCi.out i hil 3 _ rfl)
      obtain ⟨hS, hR, hn64, ht64⟩ := HI3.out i hil
      have hstep := itemsR_step (fr := fr) (en := en) hil
      have hfar := farR_step (gps := gps) hil
      have Hprev := Lib.hid (show i + 1 ≠ 0 → (its.getD (i + 1 - 1) default) = its.getD i default from fun _ => rfl)
      obtain ⟨x, hx⟩ : ∃ x, its.getD i default = x := ⟨_, rfl⟩
      rw [hx] at e0 e1 e2 e3 hS hR hn64 ht64 hstep hfar Hprev
      obtain ⟨n, t, key, ap, ac, at_⟩ := x
      simp only at e0 e1 e2 e3 hS hR hn64 ht64 hstep
      obtain ⟨y, hy⟩ : ∃ y : Im, its.getD (i - 1) default = y := ⟨_, rfl⟩
      have f0 : i ≠ 0 → wo.cell? ⟨bi, oi + (i - 1) * 4, none⟩ = some (.int .u64 y.n) := fun h => by
        have h2 := (BB.out.cell (p := ⟨bi, oi + (i - 1) * 4, none⟩) hb1).trans (HCi.out (i - 1) (by omega) 0 (.int .u64 (its.getD (i - 1) default).n) rfl)
        rwa [hy] at h2
      have HFy : Hid (i ≠ 0 → fr ≤ y.n) := Lib.hid (by have h := HF.out; rwa [hy] at h)
      rw [hy] at hstep
      have Hstep := Lib.hid hstep
      have Hfar := Lib.hid hfar
      have Hf0 := Lib.hid f0
      have HMI := Lib.hid (qmayitem_any n t key (.slice ap at_.length ac) at_ wo (hS.below BB.out) hR)
      obtain ⟨mi, hmi⟩ : ∃ mi, mayI (n, t, key, at_) = mi := ⟨_, rfl⟩
      rw [hmi] at HMI
      have Hmi := Lib.hid hmi
      obtain ⟨na, hna⟩ : ∃ na, at_.length = na := ⟨_, rfl⟩
      rw [hna] at e3 HMI
      clear hx hy hq hstep hfar f0 hmi hS hR hna HF hne
      go_upto_region 7 with (fail)
      go_cut [86] from 53 to 86 (fun tt wq => tt = .bool (!mi || (decide (n < fr) || (decide (en ≤ n) || (decide (0 < i) && decide (n ≤ y.n))))) ∧ Hid (Below W0.heap.size W0 wq))
      case first =>
        go_wp2_with fail
        refine HMI.out.mono ?_; rintro e w1 ⟨rfl, b1⟩
        have HB1 := Lib.hid (then_ HB.out b1)
        have c0' := (HK0.out.later HB1.out).cell 0 (u := .int .u64 fr) rfl
        have c1' := (HK0.out.later HB1.out).cell 1 (u := .int .u64 en) rfl
        have c2' := (HK0.out.later HB1.out).cell 2 (u := .slice ip ni ic) rfl
        have Hf1 : Hid (i ≠ 0 → w1.cell? ⟨bi, oi + (i - 1) * 4, none⟩ = some (.int .u64 y.n)) := Lib.hid (fun h => cell_later b1 (Hf0.out h))
        clear b1 c0 c1 c2 c3 e0 e1 e2 e3
        cases mi with
        | false =>
          go_wp2_with fail
          go_meet
          exact ⟨by simp, HB1⟩
        | true =>
          by_cases a1 : n < fr
          · obtain ⟨b1, b1'⟩ := lt_t a1
            clear a1
            go_wp2_with fail
            go_meet
            exact ⟨by simp [b1'], HB1⟩
          · obtain ⟨b1, b1'⟩ := lt_f (show fr ≤ n by omega)
            by_cases a2 : en ≤ n
            · obtain ⟨b2, b2'⟩ := le_t a2
              clear a1 a2
              go_wp2_with fail
              go_meet
              exact ⟨by simp [b2'], HB1⟩
            · obtain ⟨b2, b2'⟩ := le_f (show n < en by omega)
              by_cases a3 : i = 0
              · subst a3
                clear a1 a2
                go_wp2_with fail
                go_meet
                exact ⟨by simp [b1', b2'], HB1⟩
              · have b3 : decide ((0 : Int) < (i : Int)) = true := by simp; omega
                have b3' : decide (0 < i) = true := by simp; omega
                have hw := wrap_pred (show 0 < i by omega) (by omega)
                have f1 := Hf1.out a3
                have hidx2 := idx_it ip bi oi ni ic (i - 1) HQ.out (by omega)
                by_cases a4 : n ≤ y.n
                · obtain ⟨b4, b4'⟩ := le_t a4
                  clear a1 a2 a3 a4
                  go_wp2_with fail
                  go_meet
                  exact ⟨by simp [b3', b4'], HB1⟩
                · obtain ⟨b4, b4'⟩ := le_f (show y.n < n by omega)
                  clear a1 a2 a3 a4
                  go_wp2_with fail
                  go_meet
                  exact ⟨by simp [b1', b2', b4'], HB1⟩
      case rest =>
      obtain ⟨rfl, HBc⟩ := hcut
      obtain ⟨w7, rfl⟩ : ∃ w7 : World, w7 = wc := ⟨_, rfl⟩
      obtain ⟨F, hF⟩ : ∃ F, (!mi || (decide (n < fr) || (decide (en ≤ n) || (decide (0 < i) && decide (n ≤ y.n))))) = F := ⟨_, rfl⟩
      rw [hF]
      have HFF := Lib.hid hF
      clear hF c0 c1 c2 c3 e0 e1 e2 e3
      cases F with
      | true =>
        have hMf : M = false := by
          rw [HM.out, Hstep.out]
          have h := item_fail (r := itemsR fr en its (i + 1)) HFF.out HFy.out
          rw [← Hmi.out] at h
          rw [show mayI (toIt ⟨n, t, key, ap, ac, at_⟩) = mayI (n, t, key, at_) from rfl, h]
          rfl
        subst hMf
        go_wp2_with fail
        go_ret
        exact ⟨rfl, then_ HB0.out HBc.out⟩
      | false =>
        obtain ⟨hp1, hp2⟩ := item_pass (r := itemsR fr en its (i + 1)) HFF.out
        have HM2 : Hid (M = (itemsR fr en its (i + 1) && ((gps.all fun g => !inB g (toIt ⟨n, t, key, ap, ac, at_⟩)) && farR gps its (i + 1)) && gapsR fr en gps 0)) := Lib.hid (by
          rw [HM.out, Hstep.out, Hfar.out]
          rw [← Hmi.out] at hp1
          rw [show mayI (toIt ⟨n, t, key, ap, ac, at_⟩) = mayI (n, t, key, at_) from rfl, hp1])
        have Hp2 := Lib.hid hp2
        clear hp1 hp2 HM Hstep Hfar HFF HMI Hmi Hf0 HFy
        go_wp2_with fail
        go_loopw [5] (fun kv wq => ∃ (k : Nat), k ≤ ng ∧ kv = .int .i64 k ∧ Hid ((gps.all fun g => !inB g (toIt ⟨n, t, key, ap, ac, at_⟩)) = ((gps.drop k).all fun g => !inB g (toIt ⟨n, t, key, ap, ac, at_⟩))) ∧ Hid (Below W0.heap.size W0 wq)) (fun kv _ => ng - (intOf kv).toNat)
        case atStart => exact ⟨0, Nat.zero_le _, rfl, Lib.hid rfl, HBc⟩
        case round =>
          obtain ⟨k, hk, rfl, HA, HBk⟩ := hrel
          have BBk := Lib.hid (then_ HB0.out HBk.out)
          have c3 := (HK0.out.later HBk.out).cell 3 (u := .slice gp ng gc) rfl
          by_cases hkn : k < ng
          · have hkl : k < gps.length := by rw [Hng.out]; exact hkn
            have hne : gps ≠ [] := by rintro rfl; simp at hkl
            obtain ⟨hq, hb1⟩ := HPg.out hne
            have hidx3 := idx_gp gp bg og ng gc k hq hkn
            have e0 := (BBk.out.cell (p := ⟨bg, og + k * 2, none⟩) hb1).trans (HCg.out k hkl 0 _ rfl)
            have e1 := (BBk.out.cell (p := ⟨bg, og + k * 2 + 1, none⟩) hb1).trans (HCg.out k hkl 1 _ rfl)
            have hst := all_step (f := fun g => !inB g (toIt ⟨n, t, key, ap, ac, at_⟩)) hkl
            obtain ⟨z, hz⟩ : ∃ z, gps.getD k default = z := ⟨_, rfl⟩
            rw [hz] at e0 e1 hst
            obtain ⟨g1, g2⟩ := z
            simp only at e0 e1
            have Hst := Lib.hid hst
            clear hz hq hst hne
            by_cases a1 : g1 ≤ n
            · obtain ⟨b1, b1'⟩ := le_t a1
              by_cases a2 : n ≤ g2
              · obtain ⟨b2, b2'⟩ := le_t a2
                have hMf : M = false := by
                  rw [HM2.out, HA.out, Hst.out]
                  have e : inB (g1, g2) (toIt ⟨n, t, key, ap, ac, at_⟩) = true := by show (decide (g1 ≤ n) && decide (n ≤ g2)) = true; rw [b1', b2']; rfl
                  rw [e]
                  simp
                subst hMf
                clear a1 a2
                go_wp2_with fail
                go_ret
                exact ⟨rfl, BBk.out⟩
              · obtain ⟨b2, b2'⟩ := le_f (show g2 < n by omega)
                have HA2 : Hid ((gps.all fun g => !inB g (toIt ⟨n, t, key, ap, ac, at_⟩)) = ((gps.drop (k + 1)).all fun g => !inB g (toIt ⟨n, t, key, ap, ac, at_⟩))) := Lib.hid (by
                  rw [HA.out, Hst.out]
                  have e : inB (g1, g2) (toIt ⟨n, t, key, ap, ac, at_⟩) = false := by show (decide (g1 ≤ n) && decide (n ≤ g2)) = false; rw [b2']; simp
                  rw [e]
                  simp)
                clear a1 a2
                go_wp2_with fail
                go_roundw
                case rel => exact ⟨k + 1, by omega, by simp, HA2, HBk⟩
                case measure => simp [intOf]; omega
            · obtain ⟨b1, b1'⟩ := le_f (show n < g1 by omega)
              have HA2 : Hid ((gps.all fun g => !inB g (toIt ⟨n, t, key, ap, ac, at_⟩)) = ((gps.drop (k + 1)).all fun g => !inB g (toIt ⟨n, t, key, ap, ac, at_⟩))) := Lib.hid (by
                rw [HA.out, Hst.out]
                have e : inB (g1, g2) (toIt ⟨n, t, key, ap, ac, at_⟩) = false := by show (decide (g1 ≤ n) && decide (n ≤ g2)) = false; rw [b1']; rfl
                rw [e]
                simp)
              clear a1
              go_wp2_with fail
              go_roundw
              case rel => exact ⟨k + 1, by omega, by simp, HA2, HBk⟩
              case measure => simp [intOf]; omega
          · have HM3 : Hid (M = (itemsR fr en its (i + 1) && farR gps its (i + 1) && gapsR fr en gps 0)) := Lib.hid (by
              rw [HM2.out, HA.out, List.drop_eq_nil_of_le (by rw [Hng.out]; omega)]
              simp)
            have HF3 : Hid (i + 1 ≠ 0 → fr ≤ (its.getD (i + 1 - 1) default).n) := Lib.hid (fun h => by rw [Hprev.out h]; exact Hp2.out)
            clear HM2 HA Hp2
            go_wp2_with fail
            go_roundw
            case rel => exact ⟨i + 1, by omega, by simp, HM3, HF3, HBk⟩
            case measure => simp [intOf]; omega
    · have HM4 : Hid (M = gapsR fr en gps 0) := Lib.hid (by
        rw [HM.out, itemsR_end (by rw [Hni.out]; omega), farR_end (by rw [Hni.out]; omega)]
        rfl)
      clear HM HF BB c0 c1 c3
      go_wp2_with fail
      go_loopw [6] (fun iv wr => ∃ (k : Nat), k ≤ ng ∧ iv = .int .i64 k ∧ Hid (M = gapsR fr en gps k) ∧ Hid (k ≠ 0 → fr ≤ (gps.getD (k - 1) default).2) ∧ Hid (Below W0.heap.size W0 wr)) (fun iv _ => ng - (intOf iv).toNat)
      case atStart => exact ⟨0, Nat.zero_le _, rfl, HM4, Lib.hid (fun h => absurd rfl h), HB⟩
      case round =>
        obtain ⟨k, hk, rfl, HM, HF, HBk⟩ := hrel
        have BBk := Lib.hid (then_ HB0.out HBk.out)
        have c3 := (HK0.out.later HBk.out).cell 3 (u := .slice gp ng gc) rfl
        by_cases hkn : k < ng
        · have hkl : k < gps.length := by rw [Hng.out]; exact hkn
          have hne : gps ≠ [] := by rintro rfl; simp at hkl
          obtain ⟨hq, hb1⟩ := HPg.out hne
          have HQ := Lib.hid hq
          have hidx3 := idx_gp gp bg og ng gc k hq hkn
          have e0 := (BBk.out.cell (p := ⟨bg, og + k * 2, none⟩) hb1).trans (HCg.out k hkl 0 _ rfl)
          have e1 := (BBk.out.cell (p := ⟨bg, og + k * 2 + 1, none⟩) hb1).trans (HCg.out k hkl 1 _ rfl)
          have hst := gapsR_step (fr := fr) (en := en) hkl
          have Hprev := Lib.hid (show k + 1 ≠ 0 → (gps.getD (k + 1 - 1) default) = gps.getD k default from fun _ => rfl)
          obtain ⟨z, hz⟩ : ∃ z, gps.getD k default = z := ⟨_, rfl⟩
          rw [hz] at e0 e1 hst Hprev
          obtain ⟨g1, g2⟩ := z
          simp only at e0 e1 hst
          obtain ⟨y, hy⟩ : ∃ y : Gp, gps.getD (k - 1) default = y := ⟨_, rfl⟩
          have f0 : k ≠ 0 → wr.cell? ⟨bg, og + (k - 1) * 2 + 1, none⟩ = some (.int .u64 y.2) := fun h => by
            have h2 := (BBk.out.cell (p := ⟨bg, og + (k - 1) * 2 + 1, none⟩) hb1).trans (HCg.out (k - 1) (by omega) 1 (.int .u64 (gps.getD (k - 1) default).2) rfl)
            rwa [hy] at h2
          have HFy : Hid (k ≠ 0 → fr ≤ y.2) := Lib.hid (by have h := HF.out; rwa [hy] at h)
          rw [hy] at hst
          have Hst := Lib.hid hst
          have Hf0 := Lib.hid f0
          have HB9 := Lib.hid (HBk.out.trans ((Below.refl W0.heap.size wr).alloc HBk.out.size (.cells #[.int .u64 g1, .int .u64 g2] 53)))
          have HG9 := Lib.hid (Blk.new wr 53 #[.int .u64 g1, .int .u64 g2])
          have Hf9 : Hid (k ≠ 0 → (wr.alloc (.cells #[.int .u64 g1, .int .u64 g2] 53)).cell? ⟨bg, og + (k - 1) * 2 + 1, none⟩ = some (.int .u64 y.2)) := Lib.hid (fun h => cell_later (below_one wr _) (f0 h))
          obtain ⟨W9, hW9⟩ : ∃ W9, wr.alloc (.cells #[.int .u64 g1, .int .u64 g2] 53) = W9 := ⟨_, rfl⟩
          obtain ⟨G9, hG9⟩ : ∃ G9, wr.heap.size = G9 := ⟨_, rfl⟩
          rw [hW9] at HB9 HG9 Hf9
          rw [hG9] at HG9
          have HW9 := Lib.hid hW9
          have HG9' := Lib.hid hG9
          clear hy hz hq hst f0 HF hne hW9 hG9
          go_upto_region 18 with (fail)
          rw [HW9.out, HG9'.out]
          clear c2 c3 e0 e1 hidx3
          have d0 := (HK0.out.later HB9.out).cell 0 (u := .int .u64 fr) rfl
          have d1 := (HK0.out.later HB9.out).cell 1 (u := .int .u64 en) rfl
          have d3 := (HK0.out.later HB9.out).cell 3 (u := .slice gp ng gc) rfl
          have l0 := HG9.out.cell 0 (u := .int .u64 g1) rfl
          have l1 := HG9.out.cell 1 (u := .int .u64 g2) rfl
          go_cut [158] from 124 to 158 (fun tt wq => tt = .bool (decide (g2 < g1) || (decide (g1 < fr) || (decide (en ≤ g2) || (decide (0 < k) && decide (g1 ≤ y.2))))) ∧ Hid (Below W0.heap.size W0 wq))
          case first =>
            by_cases a0 : g2 < g1
            · obtain ⟨b0, b0'⟩ := lt_t a0
              clear a0
              go_quiet (fail)
              go_wp2_with fail
              go_meet
              exact ⟨by simp [b0'], Lib.hid (bel_drewN HB9.out _)⟩
            · obtain ⟨b0, b0'⟩ := lt_f (show g1 ≤ g2 by omega)
              by_cases a1 : g1 < fr
              · obtain ⟨b1, b1'⟩ := lt_t a1
                clear a0 a1
                go_quiet (fail)
                go_wp2_with fail
                go_meet
                exact ⟨by simp [b1'], Lib.hid (bel_drewN HB9.out _)⟩
              · obtain ⟨b1, b1'⟩ := lt_f (show fr ≤ g1 by omega)
                by_cases a2 : en ≤ g2
                · obtain ⟨b2, b2'⟩ := le_t a2
                  clear a0 a1 a2
                  go_quiet (fail)
                  go_wp2_with fail
                  go_meet
                  exact ⟨by simp [b2'], Lib.hid (bel_drewN HB9.out _)⟩
                · obtain ⟨b2, b2'⟩ := le_f (show g2 < en by omega)
                  by_cases a3 : k = 0
                  · subst a3
                    clear a0 a1 a2
                    go_quiet (fail)
                    go_wp2_with fail
                    go_meet
                    exact ⟨by simp [b0', b1', b2'], Lib.hid (bel_drewN HB9.out _)⟩
                  · have b3 : decide ((0 : Int) < (k : Int)) = true := by simp; omega
                    have b3' : decide (0 < k) = true := by simp; omega
                    have hw := wrap_pred (show 0 < k by omega) (by omega)
                    have f1 := Hf9.out a3
                    have hidx2 := idx_gp gp bg og ng gc (k - 1) HQ.out (by omega)
                    by_cases a4 : g1 ≤ y.2
                    · obtain ⟨b4, b4'⟩ := le_t a4
                      clear a0 a1 a2 a3 a4
                      go_quiet (fail)
                      go_wp2_with fail
                      go_meet
                      exact ⟨by simp [b3', b4'], Lib.hid (bel_drewN HB9.out _)⟩
                    · obtain ⟨b4, b4'⟩ := le_f (show y.2 < g1 by omega)
                      clear a0 a1 a2 a3 a4
                      go_quiet (fail)
                      go_wp2_with fail
                      go_meet
                      exact ⟨by simp [b0', b1', b2', b4'], Lib.hid (bel_drewN HB9.out _)⟩
          case rest =>
          obtain ⟨rfl, HBc⟩ := hcut
          obtain ⟨w7, rfl⟩ : ∃ w7 : World, w7 = wc := ⟨_, rfl⟩
          obtain ⟨F, hF⟩ : ∃ F, (decide (g2 < g1) || (decide (g1 < fr) || (decide (en ≤ g2) || (decide (0 < k) && decide (g1 ≤ y.2))))) = F := ⟨_, rfl⟩
          rw [hF]
          have HFF := Lib.hid hF
          clear hF d0 d1 d3 l0 l1
          cases F with
          | true =>
            have hMf : M = false := by
              rw [HM.out, Hst.out]
              exact gap_fail HFF.out HFy.out
            subst hMf
            go_wp2_with fail
            go_ret
            exact ⟨rfl, then_ HB0.out HBc.out⟩
          | false =>
            obtain ⟨hp1, hp2⟩ := gap_pass (r := gapsR fr en gps (k + 1)) HFF.out
            have HM2 : Hid (M = gapsR fr en gps (k + 1)) := Lib.hid (by rw [HM.out, Hst.out, hp1])
            have HF2 : Hid (k + 1 ≠ 0 → fr ≤ (gps.getD (k + 1 - 1) default).2) := Lib.hid (fun h => by rw [Hprev.out h]; exact hp2)
            clear hp1 hp2 HM Hst HFF
            go_wp2_with fail
            go_roundw
            case rel => exact ⟨k + 1, by omega, by simp, HM2, HF2, HBc⟩
            case measure => simp [intOf]; omega
        · have hMt : M = true := by rw [HM.out, gapsR_end (by rw [Hng.out]; omega)]
          subst hMt
          go_wp2_with fail
          go_ret
          exact ⟨rfl, BBk.out⟩
end Go.Proofs.YtkfheodcmhodpaaGreat.Gm
