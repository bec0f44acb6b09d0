/- The contracts of package cover's withinEach and Covers. -/
import Derived.Test.YtggcboejdihdiaaCs
set_option linter.unusedSimpArgs false
set_option linter.unusedVariables false
namespace Go.Proofs.Ytggcboejdihdiaa.Gm
open Go Go.RowKit
attribute [local go_sem ↓] Go.wp_at_zero Go.wp_at_succ

set_option maxHeartbeats 4000000 in
set_option maxRecDepth 100000 in
theorem within_each (v v' : Value) (p q : List Cn) (w : World) (hP : Cs w v p) (hQ : Cs w v' q) (mp : Mp p) (mq : Mp q) : Calls Try.prog 20 #[v, v'] w (Gives (.bool (withinE p q)) w) := by
  obtain ⟨pp, cp, rfl⟩ := hP.1.form
  obtain ⟨pq, cq, rfl⟩ := hQ.1.form
  have H2 := two w 23 23 (prc pp p cp) (prc pq q cq)
  have HP0 := Lib.hid H2.1
  have HQ0 := Lib.hid H2.2.1
  have HB0 := Lib.hid H2.2.2
  clear H2
  have HN := Lib.hid (fun W (h : Below w.heap.size w W) => names_t _ q W (hQ.later h) mq)
  have HN2 := Lib.hid (fun W (h : Below w.heap.size w W) => names_t _ p W (hP.later h) mp)
  have HC := Lib.hid (fun W (h : Below w.heap.size w W) pn cn (hT : Ts W (.slice pn (namesP q).length cn) (namesP q)) G (k1 : Blk W G 66 #[.slice pn (namesP q).length cn]) (k2 : Blk W (w.heap.size + 1) 23 (prc pq q cq)) (k3 : Blk W w.heap.size 23 (prc pp p cp)) pm cm (hT2 : Ts W (.slice pm (namesP p).length cm) (namesP p)) => cf_ea (.slice pm (namesP p).length cm) (namesP p) (beyondB p q) G (w.heap.size + 1) w.heap.size W hT2 (fun x W' h' => wefn_any (namesP q) pn cn pq cq q pp cp p x G (w.heap.size + 1) w.heap.size W' (hT.later h') rfl ((hQ.later h).later h') ((hP.later h).later h') mq mp (k1.later h') (k2.later h') (k3.later h')))
  have HE : Hid (withinE p q = !(namesP p).any (beyondB p q)) := Lib.hid rfl
  rw [HE.out]
  clear HE hP hQ mp mq
  generalize (namesP p).any (beyondB p q) = b at HC ⊢
  generalize namesP q = Lq at HN HC ⊢
  generalize namesP p = Lp at HN2 HC ⊢
  go_enter Try.func20, Try.ntmps20
  go_wp2_with fail
  refine (HN.out _ HB0.out).mono ?_; rintro e w1 ⟨pn, cn, rfl, h1, b1⟩
  have HB1 := Lib.hid (then_ HB0.out b1)
  have HT1 : Hid (Ts (w1.alloc (.cells #[.slice pn Lq.length cn] 66)) (.slice pn Lq.length cn) Lq) := Lib.hid (h1.later (below_one _ _))
  have HB2 : Hid (Below w.heap.size w (w1.alloc (.cells #[.slice pn Lq.length cn] 66))) := Lib.hid (HB1.out.alloc HB1.out.size _)
  have HP2 : Hid (Blk (w1.alloc (.cells #[.slice pn Lq.length cn] 66)) w.heap.size 23 (prc pp p cp)) := Lib.hid ((HP0.out.later b1).alloc _)
  have HQ2 : Hid (Blk (w1.alloc (.cells #[.slice pn Lq.length cn] 66)) (w.heap.size + 1) 23 (prc pq q cq)) := Lib.hid ((HQ0.out.later b1).alloc _)
  have HG2 : Hid (Blk (w1.alloc (.cells #[.slice pn Lq.length cn] 66)) w1.heap.size 66 #[.slice pn Lq.length cn]) := Lib.hid (Blk.new _ _ _)
  have c2 := HP2.out.cell 0 (u := .slice pp p.length cp) rfl
  clear h1 b1
  go_wp2_with fail
  refine (HN2.out _ HB2.out).mono ?_; rintro e w3 ⟨pm, cm, rfl, h3, b3⟩
  have HB3 := Lib.hid (then_ HB2.out b3)
  have HT3 := Lib.hid (HT1.out.later b3)
  have HP3 := Lib.hid (HP2.out.later b3)
  have HQ3 := Lib.hid (HQ2.out.later b3)
  have HG3 := Lib.hid (HG2.out.later b3)
  have HT4 := Lib.hid h3
  clear b3 h3 c2
  go_wp2_with fail
  refine (HC.out _ HB3.out _ _ HT3.out _ HG3.out HQ3.out HP3.out _ _ HT4.out).mono ?_; rintro e w4 ⟨rfl, b4⟩
  have HB4 := Lib.hid (then_ HB3.out b4)
  clear b4
  go_wp2_with fail
  go_ret
  exact ⟨rfl, HB4.out⟩
set_option maxHeartbeats 4000000 in
set_option maxRecDepth 100000 in
theorem covers_any (v v' : Value) (p q : List Cn) (w : World) (hP : Cs w v p) (hQ : Cs w v' q) (rp : ∀ c ∈ p, RvC c) (rq : ∀ c ∈ q, RvC c) : Calls Try.prog 7 #[v, v'] w (Gives (.bool (coversB p q)) w) := by
  obtain ⟨pp, cp, rfl⟩ := hP.1.form
  obtain ⟨pq, cq, rfl⟩ := hQ.1.form
  have HM1 := Lib.hid (maypred_any _ p w hP)
  have HM2 := Lib.hid (fun W (h : Below w.heap.size w W) => maypred_any _ q W (hQ.later h))
  have HE : Hid (coversB p q = (mayPr p && mayPr q && (nothingB q || withinE p q))) := Lib.hid rfl
  rw [HE.out]
  clear HE
  cases m1 : mayPr p
  · rw [m1] at HM1
    clear m1 hP hQ
    go_enter Try.func7, Try.ntmps7
    go_wp2_with fail
    refine HM1.out.mono ?_; rintro e w1 ⟨rfl, b1⟩
    have HB1 := Lib.hid b1
    clear b1
    go_wp2_with fail
    go_ret
    exact ⟨rfl, HB1.out⟩
  rw [m1] at HM1
  cases m2 : mayPr q
  · rw [m2] at HM2
    clear m1 m2 hP hQ
    go_enter Try.func7, Try.ntmps7
    go_wp2_with fail
    refine HM1.out.mono ?_; rintro e w1 ⟨rfl, b1⟩
    have HB1 := Lib.hid b1
    clear b1
    go_wp2_with fail
    refine (HM2.out _ HB1.out).mono ?_; rintro e w2 ⟨rfl, b2⟩
    have HB2 := Lib.hid (then_ HB1.out b2)
    clear b2
    go_wp2_with fail
    go_ret
    exact ⟨rfl, HB2.out⟩
  rw [m2] at HM2
  have HN := Lib.hid (fun W (h : Below w.heap.size w W) => nothing_any _ q W (hQ.later h) (mp_of m2 rq))
  have HW := Lib.hid (fun W (h : Below w.heap.size w W) => within_each _ _ p q W (hP.later h) (hQ.later h) (mp_of m1 rp) (mp_of m2 rq))
  clear m1 m2 hP hQ rp rq
  generalize withinE p q = bw at HW ⊢
  cases hn : nothingB q
  all_goals
    rw [hn] at HN
    clear hn
    go_enter Try.func7, Try.ntmps7
    go_wp2_with fail
    refine HM1.out.mono ?_; rintro e w1 ⟨rfl, b1⟩
    have HB1 := Lib.hid b1
    clear b1
    go_wp2_with fail
    refine (HM2.out _ HB1.out).mono ?_; rintro e w2 ⟨rfl, b2⟩
    have HB2 := Lib.hid (then_ HB1.out b2)
    clear b2
    go_wp2_with fail
    refine (HN.out _ HB2.out).mono ?_; rintro e w3 ⟨rfl, b3⟩
    have HB3 := Lib.hid (then_ HB2.out b3)
    clear b3
    go_wp2_with fail
    try (refine (HW.out _ HB3.out).mono ?_; rintro e w4 ⟨rfl, b4⟩; have HB3 := Lib.hid (then_ HB3.out b4); clear b4; go_wp2_with fail)
    go_ret
    exact ⟨by simp, HB3.out⟩
end Go.Proofs.Ytggcboejdihdiaa.Gm
