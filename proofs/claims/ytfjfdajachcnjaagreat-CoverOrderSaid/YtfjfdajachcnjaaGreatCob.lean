/- CoverOrder: it covers itself; it is an order; parts cover; the normal form covers and is covered; both together are what both are. -/
import Derived.Test.YtfjfdajachcnjaaGreatCoa
import Derived.Test.YtfjfdajachcnjaaGreatCz
import Derived.Test.YtfjfdajachcnjaaGreatCt
import Derived.Test.YtfjfdajachcnjaaGreatRMe
set_option linter.unusedSimpArgs false
set_option linter.unusedVariables false
namespace Go.Proofs.YtfjfdajachcnjaaGreat.Gm
open Go Go.RowKit
attribute [local go_sem ↓] Go.wp_at_zero Go.wp_at_succ

theorem cs_none (w : World) : Cs w (.slice none 0 0) [] := ⟨⟨none, 0, 0, 0, rfl, Nat.le_refl _, fun h => absurd rfl h, fun _ _ => rfl, fun i hi => by simp at hi⟩, by simp, fun c hc => by simp at hc⟩
/-- A row that the call has put together from rows that came in. -/
theorem cs_two {w : World} {base : Nat} {v : Value} {a b : List Cn} {N : Nat} (hN : N = a.length + b.length) (h : w.ownsRow base 35 7 v N (a.flatMap encC ++ b.flatMap encC)) (hl : a.length + b.length ≤ 1599289640401) (ha : ∀ c ∈ a, Vs w c.sv c.set) (hb : ∀ c ∈ b, Vs w c.sv c.set) : Cs w v (a ++ b) := by
  refine ⟨row_of_own (base := base) (e := 35) encC_length ?_, by rw [List.length_append]; exact hl, fun c hc => ?_⟩
  · rw [List.length_append, List.flatMap_append, ← hN]; exact h
  · rcases List.mem_append.1 hc with hc | hc
    · exact ha c hc
    · exact hb c hc
/-- One left out. -/
def lessP (p : List Cn) (k : Nat) : List Cn := p.take k ++ p.drop (min p.length (k + 1))
theorem less_mem {p : List Cn} {k : Nat} {c : Cn} (h : c ∈ lessP p k) : c ∈ p := by
  rcases List.mem_append.1 h with h | h
  · exact List.mem_of_mem_take h
  · exact List.mem_of_mem_drop h
theorem less_len (p : List Cn) (k : Nat) : (lessP p k).length ≤ p.length := by
  unfold lessP
  rw [List.length_append, List.length_take, List.length_drop]
  omega
theorem may_app {p q : List Cn} (mp : mayPr p = true) (mq : mayPr q = true) (h : p.length + q.length ≤ 6) : mayPr (p ++ q) = true := by
  simp only [mayPr, Bool.and_eq_true, decide_eq_true_eq, List.all_eq_true] at mp mq ⊢
  refine ⟨by rw [List.length_append]; exact h, fun c hc => ?_⟩
  rcases List.mem_append.1 hc with hc | hc
  · exact mp.2 c hc
  · exact mq.2 c hc
theorem wrap_small {n : Nat} (h : n < 256) : wrap64 (n : Int) = (n : Int) := by unfold wrap64; omega
theorem wrap_len {m : Nat} (h : m ≤ 1599289640401) : wrap64 (m : Int) = (m : Int) := by unfold wrap64; omega
theorem wrap_len1 {m : Nat} (h : m ≤ 1599289640401) : wrap64 ((m : Int) + 1) = (m : Int) + 1 := by unfold wrap64; omega
theorem wrap_len2 {m k : Nat} (h : m ≤ 1599289640401) (h' : k ≤ 1599289640401) : wrap64 ((m : Int) + (k : Int)) = (m : Int) + (k : Int) := by unfold wrap64; omega
theorem emod_cast {n m K : Nat} (h : n % (m + 1) = K) : (n : Int) % ((m : Int) + 1) = (K : Int) := by rw [← h]; simp [Int.natCast_emod]
theorem tmod_cast {n m K : Nat} (h : n % (m + 1) = K) : (n : Int).tmod ((m : Int) + 1) = (K : Int) := by rw [Int.tmod_eq_emod_of_nonneg (by omega), emod_cast h]
theorem min_cast {m K J : Nat} (h : min m (K + 1) = J) : min (m : Int) ((K : Int) + 1) = (J : Int) := by omega
theorem len_ne (m : Nat) : ((m : Int) + 1 == 0) = false := by simp; omega
theorem of_norm_cs {l r : List Cn} {w w' : World} {p : Option Addr} {cap : Nat} (h : Norm l w w' p cap r) (hl : l.length ≤ 1599289640401) : Cs w' (.slice p r.length cap) r := h.own.cs (by have := h.len; omega) (fun d hd => by have := h.sets d hd; omega)
set_option maxHeartbeats 16000000 in
set_option maxRecDepth 100000 in
theorem law_corder (v0 v1 v2 : Value) (p q r : List Cn) (n : Nat) (hn : n < 256) (w : World) (hP : Cs w v0 p) (hQ : Cs w v1 q) (hR : Cs w v2 r) (rp : ∀ c ∈ p, RvC c) (rq : ∀ c ∈ q, RvC c) (rr : ∀ c ∈ r, RvC c) : Calls Tryz.prog 3 #[v0, v1, v2, .int .u8 n] w (Gives (.bool true) w) := by
  obtain ⟨i0, ii, iz0, iz1, iz2⟩ := info_parts infoC
  obtain ⟨p0, c0, rfl⟩ := hP.1.form
  obtain ⟨p1, c1, rfl⟩ := hQ.1.form
  obtain ⟨p2, c2, rfl⟩ := hR.1.form
  have HP := Lib.hid hP
  have HQ := Lib.hid hQ
  have HR := Lib.hid hR
  have hl0 := hP.2.1
  have hl1 := hQ.2.1
  have HPQ := Lib.hid (fun W (h : Below w.heap.size w W) => covers_any _ _ p q W (hP.later h) (hQ.later h) rp rq)
  have HQR := Lib.hid (fun W (h : Below w.heap.size w W) => covers_any _ _ q r W (hQ.later h) (hR.later h) rq rr)
  have HPR := Lib.hid (fun W (h : Below w.heap.size w W) => covers_any _ _ p r W (hP.later h) (hR.later h) rp rr)
  have HPP := Lib.hid (fun W (h : Below w.heap.size w W) => covers_any _ _ p p W (hP.later h) (hP.later h) rp rp)
  rw [covers_self rp] at HPP
  have HMp := Lib.hid (fun W (h : Below w.heap.size w W) => maypred_any _ p W (hP.later h))
  have HMq := Lib.hid (fun W (h : Below w.heap.size w W) => maypred_any _ q W (hQ.later h))
  have HWk := Lib.hid (fun W => wakes_any W)
  have HTr := Lib.hid (fun (a : coversB p q = true) (b : coversB q r = true) => covers_trans rp rq rr a b)
  have HB0 := Lib.hid (Below.refl w.heap.size w)
  clear hP hQ hR
  obtain ⟨mp, hmp⟩ : ∃ m, mayPr p = m := ⟨_, rfl⟩
  rw [hmp] at HPP HMp
  obtain ⟨bpr, hpr⟩ : ∃ m, coversB p r = m := ⟨_, rfl⟩
  rw [hpr] at HPR HTr
  obtain ⟨bqr, hqr⟩ : ∃ m, coversB q r = m := ⟨_, rfl⟩
  rw [hqr] at HQR HTr
  go_enter Tryz.func3, Tryz.ntmps3
  go_upto_region 1 with fail
  go_cut [35] from 14 to 126 (fun t wq => t = .bool false ∧ Hid (Below w.heap.size w wq))
  case first =>
    generalize coversB p q = bpq at HPQ HTr
    clear hmp hpr hqr
    cases bpq
    · go_wp2_with fail
      refine (HPQ.out _ HB0.out).mono ?_; rintro e w1 ⟨rfl, b9⟩
      have HB1 := Lib.hid (then_ HB0.out b9)
      clear b9 HB0
      go_wp2_with fail
      refine (HPP.out _ HB1.out).mono ?_; rintro e wa ⟨rfl, b9⟩
      have HBa := Lib.hid (then_ HB1.out b9)
      clear b9 HB1
      go_wp2_with fail
      refine (HMp.out _ HBa.out).mono ?_; rintro e wb ⟨rfl, b9⟩
      have HBb := Lib.hid (then_ HBa.out b9)
      clear b9 HBa
      go_wp2_with fail
      go_meet
      exact ⟨by cases mp <;> rfl, HBb⟩
    · cases bqr
      · go_wp2_with fail
        refine (HPQ.out _ HB0.out).mono ?_; rintro e w1 ⟨rfl, b9⟩
        have HB1 := Lib.hid (then_ HB0.out b9)
        clear b9 HB0
        go_wp2_with fail
        refine (HQR.out _ HB1.out).mono ?_; rintro e w2 ⟨rfl, b9⟩
        have HB2 := Lib.hid (then_ HB1.out b9)
        clear b9 HB1
        go_wp2_with fail
        refine (HPP.out _ HB2.out).mono ?_; rintro e wa ⟨rfl, b9⟩
        have HBa := Lib.hid (then_ HB2.out b9)
        clear b9 HB2
        go_wp2_with fail
        refine (HMp.out _ HBa.out).mono ?_; rintro e wb ⟨rfl, b9⟩
        have HBb := Lib.hid (then_ HBa.out b9)
        clear b9 HBa
        go_wp2_with fail
        go_meet
        exact ⟨by cases mp <;> rfl, HBb⟩
      · have := HTr.out rfl rfl
        subst this
        go_wp2_with fail
        refine (HPQ.out _ HB0.out).mono ?_; rintro e w1 ⟨rfl, b9⟩
        have HB1 := Lib.hid (then_ HB0.out b9)
        clear b9 HB0
        go_wp2_with fail
        refine (HQR.out _ HB1.out).mono ?_; rintro e w2 ⟨rfl, b9⟩
        have HB2 := Lib.hid (then_ HB1.out b9)
        clear b9 HB1
        go_wp2_with fail
        refine (HPR.out _ HB2.out).mono ?_; rintro e w3 ⟨rfl, b9⟩
        have HB3 := Lib.hid (then_ HB2.out b9)
        clear b9 HB2
        go_wp2_with fail
        refine (HPP.out _ HB3.out).mono ?_; rintro e wa ⟨rfl, b9⟩
        have HBa := Lib.hid (then_ HB3.out b9)
        clear b9 HB3
        go_wp2_with fail
        refine (HMp.out _ HBa.out).mono ?_; rintro e wb ⟨rfl, b9⟩
        have HBb := Lib.hid (then_ HBa.out b9)
        clear b9 HBa
        go_wp2_with fail
        go_meet
        exact ⟨by cases mp <;> rfl, HBb⟩
  case rest =>
    obtain ⟨rfl, HBc⟩ := hcut
    clear HTr HPP HB0
    cases mp
    · go_wp2_with fail
      refine (HMp.out _ HBc.out).mono ?_; rintro e w4 ⟨rfl, b9⟩
      have HB4 := Lib.hid (then_ HBc.out b9)
      clear b9 HBc
      go_wp2_with fail
      refine (HWk.out _).mono ?_; rintro e w5 ⟨rfl, b9⟩
      have HB5 := Lib.hid (then_ HB4.out b9)
      clear b9 HB4
      go_wp2_with fail
      go_ret
      exact ⟨rfl, HB5.out⟩
    · go_wp2_with fail
      refine (HMp.out _ HBc.out).mono ?_; rintro e w4 ⟨rfl, b9⟩
      have HB4 := Lib.hid (then_ HBc.out b9)
      clear b9 HBc
      go_wp2_with fail
      refine (normal_yes _ p _ (HP.out.later HB4.out) hmp).mono ?_; rintro e w5 ⟨pn, cn, nl, rfl, hN⟩
      have HB5 := Lib.hid (then_ HB4.out hN.bel)
      have HN := Lib.hid (of_norm_cs hN (by omega))
      have hnc := norm_covers hN.is hN.len rp hmp
      have hrn := norm_rv hN.is rp
      have HNP := Lib.hid (fun W (h : Below w5.heap.size w5 W) => covers_any _ _ nl p W (HN.out.later h) (HP.out.later (then_ HB5.out h)) hrn rp)
      have HPN := Lib.hid (fun W (h : Below w5.heap.size w5 W) => covers_any _ _ p nl W (HP.out.later (then_ HB5.out h)) (HN.out.later h) rp hrn)
      have HZP := Lib.hid (fun W (h : Below w5.heap.size w5 W) => covers_any _ _ [] p W (cs_none W) (HP.out.later (then_ HB5.out h)) (fun c hc => by cases hc) rp)
      rw [hnc.1] at HNP
      rw [hnc.2] at HPN
      rw [nil_covers rp hmp] at HZP
      have HD5 := Lib.hid (Below.refl w5.heap.size w5)
      have HU5 := HB5
      clear hN hnc HN HB4 HB5 HMp
      go_wp2_with fail
      refine (HNP.out _ HD5.out).mono ?_; rintro e w6 ⟨rfl, b9⟩
      have HD6 := Lib.hid (then_ HD5.out b9)
      clear b9 HD5
      go_wp2_with fail
      refine (HPN.out _ HD6.out).mono ?_; rintro e w7 ⟨rfl, b9⟩
      have HD7 := Lib.hid (then_ HD6.out b9)
      clear b9 HD6
      go_wp2_with fail
      refine (HZP.out _ HD7.out).mono ?_; rintro e w8 ⟨rfl, b9⟩
      have HB8 := Lib.hid (then_ HU5.out (then_ HD7.out b9))
      clear b9 HD7 HU5 HNP HPN HZP
      obtain ⟨K, hK⟩ : ∃ K, n % (p.length + 1) = K := ⟨_, rfl⟩
      have hKl : K ≤ p.length := by have := Nat.mod_lt n (show 0 < p.length + 1 by omega); omega
      have hmd : (wrap64 (n : Int)).tmod ((p.length : Int) + 1) = (K : Int) := by rw [wrap_small hn]; exact tmod_cast hK
      have hwl : wrap64 (p.length : Int) = (p.length : Int) := wrap_len hl0
      have hwl1 : wrap64 ((p.length : Int) + 1) = (p.length : Int) + 1 := wrap_len1 hl0
      have hwK : wrap64 ((K : Int) + 1) = (K : Int) + 1 := wrap_len1 (by omega)
      have hz0 : ((p.length : Int) + 1 == 0) = false := len_ne _
      have hme : (n : Int) % ((p.length : Int) + 1) = (K : Int) := emod_cast hK
      obtain ⟨J, hJ⟩ : ∃ J, min p.length (K + 1) = J := ⟨_, rfl⟩
      have hJl : J ≤ p.length := by rw [← hJ]; exact Nat.min_le_left _ _
      have hmn : min (p.length : Int) ((K : Int) + 1) = (J : Int) := min_cast hJ
      have hLs : lessP p K = p.take K ++ p.drop J := by unfold lessP; rw [hJ]
      clear hK
      go_wp2_with fail
      rw [hme]
      go_cut [12] from 70 to 126 (fun t wq => ∃ pB cB, t = .slice pB (K + (p.length - J)) cB ∧ Hid (Cs wq (.slice pB (K + (p.length - J)) cB) (lessP p K)) ∧ Hid (Below w.heap.size w wq))
      case first =>
        clear hmd hme HPQ HQR HPR HMq HWk HQ HR
        have hro := row_room HP.out.1
        have hs1 := fun W => slice_pre_c p0 p.length c0 K hKl hro.1 hro.2 W
        have hs2 := fun W => slice_suf_c p0 p.length c0 J hJl hro.1 hro.2 W
        rw [← hmn] at hs2
        have hwK2 : IntKind.i64.wrap ((K : Int) + 1) = (K : Int) + 1 := by rw [IntKind.wrap_i64]; omega
        clear hmn
        have HSa := Lib.hid (fun W (h : Below w.heap.size w W) => row_src (by decide) encC_length encC_one (row_pre hKl (HP.out.later h).1))
        have HSb := Lib.hid (fun W (h : Below w.heap.size w W) => row_src (by decide) encC_length encC_one (row_suf hJl (HP.out.later h).1))
        rw [show (p.take K).length = K by rw [List.length_take, Nat.min_eq_left hKl]] at HSa
        rw [show (p.drop J).length = p.length - J by rw [List.length_drop]] at HSb
        have HBd := Lib.hid HB8.out.drew
        have hs8 := HB8.out.size
        have hJK : K ≤ J := by omega
        clear hro HB8 hJ hJl
        go_region_held3 (fun _ => True) (trivial) (first | (refine step_append_src (by rfl) _ _ 23 (by rfl) w8.heap.size 35 i0 (.agg #[.string ⟨#[]⟩, .int .i64 0, .int .i64 0, .int .i64 0, .string ⟨#[]⟩, .bool false, .slice none 0 0]) 7 88 Tryz.underlying23 ii iz0 iz1 iz2 rfl (by decide) (.slice none 0 0) 0 [] (by rfl) (World.ownsRow_nil _ _ _ _) _ K ((p.take K).flatMap encC) (by rfl) (HSa.out _ HBd.out) K (by omega) (by unfold maxLen; omega) (by omega) (by simp) ?_; intro pA capA w3 hown3 hgrow3; rw [List.nil_append] at hown3; have HO3 := Lib.hid hown3; have HL3 := Lib.hid (((Below.refl _ w8).drew).grown hgrow3 (Nat.le_refl _) (fun j hj => by simp [Value.ownBlock] at hj)); have HB3 := Lib.hid (HBd.out.grown hgrow3 HBd.out.size (fun j hj => by simp [Value.ownBlock] at hj)); clear hown3 hgrow3) | (refine step_append_src (by rfl) _ _ 23 (by rfl) w8.heap.size 35 i0 (.agg #[.string ⟨#[]⟩, .int .i64 0, .int .i64 0, .int .i64 0, .string ⟨#[]⟩, .bool false, .slice none 0 0]) 7 88 Tryz.underlying23 ii iz0 iz1 iz2 rfl (by decide) _ _ _ (by rfl) HO3.out _ (p.length - J) ((p.drop J).flatMap encC) (by rfl) (HSb.out _ HB3.out) (K + (p.length - J)) rfl (by unfold maxLen; omega) (by omega) HL3.out.size ?_; intro pB capB w4 hown4 hgrow4; have HO4 := Lib.hid hown4; have HB4 := Lib.hid (HB3.out.grown hgrow4 HB3.out.size (fun j hj => by have := (World.ownsRow.lt HO3.out j hj).1; omega)); clear hown4 hgrow4))
        all_goals (try go_wp2_with fail)
        all_goals go_meet
        all_goals (refine ⟨pB, capB, rfl, Lib.hid ?_, HB4⟩; rw [hLs]; exact cs_two (by simp; omega) HO4.out (by simp; omega) (fun c hc => (HP.out.2.2 c (List.mem_of_mem_take hc)).later HB4.out) (fun c hc => (HP.out.2.2 c (List.mem_of_mem_drop hc)).later HB4.out))
      case rest =>
        obtain ⟨pB, cB, rfl, HL, HB9⟩ := hcut
        clear hmd hme hLs hmn hJl hJ HB8
        have hlp : coversB (lessP p K) p = true := part_covers (fun c hc => less_mem hc) (less_len p K) rp hmp
        have HLP := Lib.hid (covers_any _ _ (lessP p K) p _ HL.out (HP.out.later HB9.out) (fun c hc => rp c (less_mem hc)) rp)
        rw [hlp] at HLP
        clear hlp
        go_wp2_with fail
        refine HLP.out.mono ?_; rintro e w10 ⟨rfl, b9⟩
        have HB10 := Lib.hid (then_ HB9.out b9)
        clear b9 HB9 HLP HL
        go_wp2_with fail
        obtain ⟨mq, hmq⟩ : ∃ m, mayPr q = m := ⟨_, rfl⟩
        rw [hmq] at HMq
        refine (HMq.out _ HB10.out).mono ?_; rintro e w11 ⟨rfl, b9⟩
        have HB11 := Lib.hid (then_ HB10.out b9)
        clear b9 HB10 HMq
        have hwl0 : wrap64 ((p.length : Int) + (q.length : Int)) = (p.length : Int) + (q.length : Int) := wrap_len2 hl0 hl1
        cases mq
        · go_wp2_with fail
          refine (HWk.out _).mono ?_; rintro e w12 ⟨rfl, b9⟩
          have HE := Lib.hid (then_ HB11.out b9)
          go_wp2_with fail
          go_ret
          exact ⟨rfl, HE.out⟩
        · by_cases h6 : p.length + q.length ≤ 6
          · have hd6 : decide (6 < (p.length : Int) + (q.length : Int)) = false := by simp; omega
            have hd6n : decide (6 < p.length + q.length) = false := by simp; omega
            have mb := may_app hmp hmq h6
            have rb : ∀ c ∈ p ++ q, RvC c := fun c hc => (List.mem_append.1 hc).elim (rp c) (rq c)
            have HPB := part_covers (l := p ++ q) (r := p) (fun c hc => List.mem_append_left _ hc) (by simp) rb mb
            have HQB := part_covers (l := p ++ q) (r := q) (fun c hc => List.mem_append_right _ hc) (by simp) rb mb
            have HBR := covers_both rp rq rr hmp hmq mb
            rw [hpr, hqr] at HBR
            have HSa := Lib.hid (row_src (by decide) encC_length encC_one (HP.out.later HB11.out).1)
            have HL11 := Lib.hid (Below.refl w11.heap.size w11)
            have hs11 := HB11.out.size
            go_wp2_with (first | (at_builtin; refine wpList_append_src (by rfl) _ _ 23 (by rfl) w11.heap.size 35 i0 (.agg #[.string ⟨#[]⟩, .int .i64 0, .int .i64 0, .int .i64 0, .string ⟨#[]⟩, .bool false, .slice none 0 0]) 7 88 Tryz.underlying23 ii iz0 iz1 iz2 rfl (by decide) (.slice none 0 0) 0 [] (by rfl) (World.ownsRow_nil _ _ _ _) _ p.length (p.flatMap encC) (by rfl) HSa.out p.length (by omega) (by unfold maxLen; omega) (by omega) (Nat.le_refl _) ?_; intro pA capA w13 hown3 hgrow3; rw [List.nil_append] at hown3; have HO13 := Lib.hid hown3; have HL13 := Lib.hid (HL11.out.grown hgrow3 (Nat.le_refl _) (fun j hj => by simp [Value.ownBlock] at hj)); have HB13 := Lib.hid (HB11.out.grown hgrow3 HB11.out.size (fun j hj => by simp [Value.ownBlock] at hj)); have HSb := Lib.hid (row_src (by decide) encC_length encC_one (HQ.out.later HB13.out).1); clear hown3 hgrow3 HSa) | (at_builtin; refine wpList_append_src (by rfl) _ _ 23 (by rfl) w11.heap.size 35 i0 (.agg #[.string ⟨#[]⟩, .int .i64 0, .int .i64 0, .int .i64 0, .string ⟨#[]⟩, .bool false, .slice none 0 0]) 7 88 Tryz.underlying23 ii iz0 iz1 iz2 rfl (by decide) _ _ _ (by rfl) HO13.out _ q.length (q.flatMap encC) (by rfl) HSb.out (p.length + q.length) rfl (by unfold maxLen; omega) (by omega) HL13.out.size ?_; intro pC capC w14 hown4 hgrow4; have HO14 := Lib.hid hown4; have HB14 := Lib.hid (HB13.out.grown hgrow4 HB13.out.size (fun j hj => by have := (World.ownsRow.lt HO13.out j hj).1; omega)); clear hown4 hgrow4))
            have HBo := Lib.hid (cs_two rfl HO14.out (by omega) (fun c hc => (HP.out.2.2 c hc).later HB14.out) (fun c hc => (HQ.out.2.2 c hc).later HB14.out))
            have H1 := Lib.hid (fun W (h : Below w14.heap.size w14 W) => covers_any _ _ p (p ++ q) W (HP.out.later (then_ HB14.out h)) (HBo.out.later h) rp rb)
            have H2 := Lib.hid (fun W (h : Below w14.heap.size w14 W) => covers_any _ _ q (p ++ q) W (HQ.out.later (then_ HB14.out h)) (HBo.out.later h) rq rb)
            have H3 := Lib.hid (fun W (h : Below w14.heap.size w14 W) => covers_any _ _ (p ++ q) r W (HBo.out.later h) (HR.out.later (then_ HB14.out h)) rb rr)
            rw [HPB] at H1
            rw [HQB] at H2
            rw [HBR] at H3
            have HD14 := Lib.hid (Below.refl w14.heap.size w14)
            clear HPB HQB HBR HBo HO13 HB13 HL13 HO14 HL11 hs11 HP HQ HR HB11 HPQ
            refine (H1.out _ HD14.out).mono ?_; rintro e w15 ⟨rfl, b9⟩
            have HD15 := Lib.hid (then_ HD14.out b9)
            clear b9 HD14 H1
            go_wp2_with fail
            refine (H2.out _ HD15.out).mono ?_; rintro e w16 ⟨rfl, b9⟩
            have HD16 := Lib.hid (then_ HD15.out b9)
            clear b9 HD15 H2
            go_wp2_with fail
            refine (H3.out _ HD16.out).mono ?_; rintro e w17 ⟨rfl, b9⟩
            have HD17 := Lib.hid (then_ HD16.out b9)
            clear b9 HD16 H3
            go_wp2_with fail
            refine (HPR.out _ (then_ HB14.out HD17.out)).mono ?_; rintro e w18 ⟨rfl, b9⟩
            have HD18 := Lib.hid (then_ HD17.out b9)
            clear b9 HD17 HPR
            cases bpr
            · go_wp2_with fail
              refine (HWk.out _).mono ?_; rintro e w20 ⟨rfl, b9⟩
              have HE := Lib.hid (then_ HB14.out (then_ HD18.out b9))
              go_wp2_with fail
              go_ret
              exact ⟨rfl, HE.out⟩
            · go_wp2_with fail
              refine (HQR.out _ (then_ HB14.out HD18.out)).mono ?_; rintro e w19 ⟨rfl, b9⟩
              have HD19 := Lib.hid (then_ HD18.out b9)
              clear b9 HD18 HQR
              cases bqr
              all_goals (go_wp2_with fail)
              all_goals (refine (HWk.out _).mono ?_; rintro e w20 ⟨rfl, b9⟩; have HE := Lib.hid (then_ HB14.out (then_ HD19.out b9)); go_wp2_with fail; go_ret; exact ⟨rfl, HE.out⟩)
          · have hd6 : decide (6 < (p.length : Int) + (q.length : Int)) = true := by simp; omega
            have hd6n : decide (6 < p.length + q.length) = true := by simp; omega
            go_wp2_with fail
            refine (HWk.out _).mono ?_; rintro e w12 ⟨rfl, b9⟩
            have HE := Lib.hid (then_ HB11.out b9)
            go_wp2_with fail
            go_ret
            exact ⟨rfl, HE.out⟩
end Go.Proofs.YtfjfdajachcnjaaGreat.Gm
