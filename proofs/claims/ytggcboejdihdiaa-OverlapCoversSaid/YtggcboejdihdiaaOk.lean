/- OverlapCovers, walked. -/
import Derived.Test.YtggcboejdihdiaaOi
set_option linter.unusedSimpArgs false
set_option linter.unusedVariables false
namespace Go.Proofs.Ytggcboejdihdiaa.Gm
open Go Go.RowKit
attribute [local go_sem ↓] Go.wp_at_zero Go.wp_at_succ

set_option maxHeartbeats 16000000 in
set_option maxRecDepth 100000 in
theorem law_ocovers (v0 v1 v2 : Value) (p q r : List Cn) (w : World) (hP : Cs w v0 p) (hQ : Cs w v1 q) (hR : Cs w v2 r) (rp : ∀ c ∈ p, RvC c) (rq : ∀ c ∈ q, RvC c) (rr : ∀ c ∈ r, RvC c) : Calls Try.prog 3 #[v0, v1, v2] w (Gives (.bool true) w) := by
  obtain ⟨p0, c0, rfl⟩ := hP.1.form
  obtain ⟨p1, c1, rfl⟩ := hQ.1.form
  obtain ⟨p2, c2, rfl⟩ := hR.1.form
  have HPQ := Lib.hid (fun W (h : Below w.heap.size w W) => overlaps_any _ _ p q W (hP.later h) (hQ.later h) rp rq)
  have HRQ := Lib.hid (fun W (h : Below w.heap.size w W) => covers_any _ _ r q W (hR.later h) (hQ.later h) rr rq)
  have HPR := Lib.hid (fun W (h : Below w.heap.size w W) => overlaps_any _ _ p r W (hP.later h) (hR.later h) rp rr)
  have HCP := Lib.hid (fun W (h : Below w.heap.size w W) => covers_any _ _ p q W (hP.later h) (hQ.later h) rp rq)
  have HCQ := Lib.hid (fun W (h : Below w.heap.size w W) => covers_any _ _ q p W (hQ.later h) (hP.later h) rq rp)
  have HAQ := Lib.hid (fun W (h : Below w.heap.size w W) => any_any _ q W (hQ.later h) rq)
  have HAP := Lib.hid (fun W (h : Below w.heap.size w W) => any_any _ p W (hP.later h) rp)
  have HMP := Lib.hid (fun W (h : Below w.heap.size w W) => maypred_any _ p W (hP.later h))
  have HMQ := Lib.hid (fun W (h : Below w.heap.size w W) => maypred_any _ q W (hQ.later h))
  have HWk := Lib.hid (fun W => wakes_any W)
  have T1 := Lib.hid (fun (a : overB p q = true) (b : coversB r q = true) => over_covers rp rq rr a b)
  have T2 := Lib.hid (fun (a : coversB p q = true) (b : overB q [] = true) => covers_over rp rq a b)
  have T3 := Lib.hid (fun (a : overB p [] = false) => over_nobody rp rq a)
  have T4 := Lib.hid (fun (a : mayPr p = true) (b : mayPr q = true) (c : overB p [] = false) => covered_all rp rq a b c)
  have HB0 := Lib.hid (Below.refl w.heap.size w)
  clear hP hQ hR rp rq rr
  generalize overB p q = pq at HPQ T1 T2 T3
  generalize coversB r q = crq at HRQ T1
  generalize overB p r = pr at HPR T1
  generalize coversB p q = cpq at HCP T2
  generalize coversB q p = cqp at HCQ T4
  generalize overB q [] = aq at HAQ T2
  generalize overB p [] = ap at HAP T3 T4
  generalize mayPr p = mp at HMP T4
  generalize mayPr q = mq at HMQ T4
  go_enter Try.func3, Try.ntmps3
  go_upto_region 1 with fail
  go_cut [20] from 7 to 57 (fun t wq => t = .bool false ∧ Hid (Below w.heap.size w wq))
  case first =>
    cases pq
    · go_wp2_with fail
      refine (HPQ.out _ HB0.out).mono ?_; rintro e w1 ⟨rfl, b9⟩
      have HB1 := Lib.hid (then_ HB0.out b9)
      clear b9 HB0
      go_wp2_with fail
      go_meet
      exact ⟨rfl, HB1⟩
    · cases crq
      · go_wp2_with fail
        refine (HPQ.out _ HB0.out).mono ?_; rintro e w1 ⟨rfl, b9⟩
        have HB1 := Lib.hid (then_ HB0.out b9)
        clear b9 HB0
        go_wp2_with fail
        refine (HRQ.out _ HB1.out).mono ?_; rintro e w2 ⟨rfl, b9⟩
        have HB2 := Lib.hid (then_ HB1.out b9)
        clear b9 HB1
        go_wp2_with fail
        go_meet
        exact ⟨rfl, HB2⟩
      · have := T1.out rfl rfl
        subst this
        go_wp2_with fail
        refine (HPQ.out _ HB0.out).mono ?_; rintro e w1 ⟨rfl, b9⟩
        have HB1 := Lib.hid (then_ HB0.out b9)
        clear b9 HB0
        go_wp2_with fail
        refine (HRQ.out _ HB1.out).mono ?_; rintro e w2 ⟨rfl, b9⟩
        have HB2 := Lib.hid (then_ HB1.out b9)
        clear b9 HB1
        go_wp2_with fail
        refine (HPR.out _ HB2.out).mono ?_; rintro e w3 ⟨rfl, b9⟩
        have HB3 := Lib.hid (then_ HB2.out b9)
        clear b9 HB2
        go_wp2_with fail
        go_meet
        exact ⟨rfl, HB3⟩
  case rest =>
    obtain ⟨rfl, HBc⟩ := hcut
    clear T1 HRQ HPR HB0
    go_upto_region 3 with fail
    go_cut [33] from 21 to 57 (fun t wq => t = .bool false ∧ Hid (Below w.heap.size w wq))
    case first =>
      cases cpq
      · go_wp2_with fail
        refine (HCP.out _ HBc.out).mono ?_; rintro e w1 ⟨rfl, b9⟩
        have HB1 := Lib.hid (then_ HBc.out b9)
        clear b9 HBc
        go_wp2_with fail
        go_meet
        exact ⟨rfl, HB1⟩
      · cases aq
        · go_wp2_with fail
          refine (HCP.out _ HBc.out).mono ?_; rintro e w1 ⟨rfl, b9⟩
          have HB1 := Lib.hid (then_ HBc.out b9)
          clear b9 HBc
          go_wp2_with fail
          refine (HAQ.out _ HB1.out).mono ?_; rintro e w2 ⟨rfl, b9⟩
          have HB2 := Lib.hid (then_ HB1.out b9)
          clear b9 HB1
          go_wp2_with fail
          go_meet
          exact ⟨rfl, HB2⟩
        · have := T2.out rfl rfl
          subst this
          go_wp2_with fail
          refine (HCP.out _ HBc.out).mono ?_; rintro e w1 ⟨rfl, b9⟩
          have HB1 := Lib.hid (then_ HBc.out b9)
          clear b9 HBc
          go_wp2_with fail
          refine (HAQ.out _ HB1.out).mono ?_; rintro e w2 ⟨rfl, b9⟩
          have HB2 := Lib.hid (then_ HB1.out b9)
          clear b9 HB1
          go_wp2_with fail
          refine (HPQ.out _ HB2.out).mono ?_; rintro e w3 ⟨rfl, b9⟩
          have HB3 := Lib.hid (then_ HB2.out b9)
          clear b9 HB2
          go_wp2_with fail
          go_meet
          exact ⟨rfl, HB3⟩
    case rest =>
      obtain ⟨rfl, HBd⟩ := hcut
      clear T2 HCP HAQ HBc
      go_upto_region 5 with fail
      go_cut [55] from 34 to 57 (fun t wq => t = .bool false ∧ Hid (Below w.heap.size w wq))
      case first =>
        cases mp
        · go_wp2_with fail
          refine (HMP.out _ HBd.out).mono ?_; rintro e w1 ⟨rfl, b9⟩
          have HB1 := Lib.hid (then_ HBd.out b9)
          clear b9 HBd
          go_wp2_with fail
          go_meet
          exact ⟨rfl, HB1⟩
        · cases ap
          · have := T3.out rfl
            subst this
            cases mq
            · go_wp2_with fail
              refine (HMP.out _ HBd.out).mono ?_; rintro e w1 ⟨rfl, b9⟩
              have HB1 := Lib.hid (then_ HBd.out b9)
              clear b9 HBd
              go_wp2_with fail
              refine (HAP.out _ HB1.out).mono ?_; rintro e w2 ⟨rfl, b9⟩
              have HB2 := Lib.hid (then_ HB1.out b9)
              clear b9 HB1
              go_wp2_with fail
              refine (HPQ.out _ HB2.out).mono ?_; rintro e w3 ⟨rfl, b9⟩
              have HB3 := Lib.hid (then_ HB2.out b9)
              clear b9 HB2
              go_wp2_with fail
              refine (HMQ.out _ HB3.out).mono ?_; rintro e w4 ⟨rfl, b9⟩
              have HB4 := Lib.hid (then_ HB3.out b9)
              clear b9 HB3
              go_wp2_with fail
              go_meet
              exact ⟨rfl, HB4⟩
            · have := T4.out rfl rfl rfl
              subst this
              go_wp2_with fail
              refine (HMP.out _ HBd.out).mono ?_; rintro e w1 ⟨rfl, b9⟩
              have HB1 := Lib.hid (then_ HBd.out b9)
              clear b9 HBd
              go_wp2_with fail
              refine (HAP.out _ HB1.out).mono ?_; rintro e w2 ⟨rfl, b9⟩
              have HB2 := Lib.hid (then_ HB1.out b9)
              clear b9 HB1
              go_wp2_with fail
              refine (HPQ.out _ HB2.out).mono ?_; rintro e w3 ⟨rfl, b9⟩
              have HB3 := Lib.hid (then_ HB2.out b9)
              clear b9 HB2
              go_wp2_with fail
              refine (HMQ.out _ HB3.out).mono ?_; rintro e w4 ⟨rfl, b9⟩
              have HB4 := Lib.hid (then_ HB3.out b9)
              clear b9 HB3
              go_wp2_with fail
              refine (HCQ.out _ HB4.out).mono ?_; rintro e w5 ⟨rfl, b9⟩
              have HB5 := Lib.hid (then_ HB4.out b9)
              clear b9 HB4
              go_wp2_with fail
              go_meet
              exact ⟨rfl, HB5⟩
          · go_wp2_with fail
            refine (HMP.out _ HBd.out).mono ?_; rintro e w1 ⟨rfl, b9⟩
            have HB1 := Lib.hid (then_ HBd.out b9)
            clear b9 HBd
            go_wp2_with fail
            refine (HAP.out _ HB1.out).mono ?_; rintro e w2 ⟨rfl, b9⟩
            have HB2 := Lib.hid (then_ HB1.out b9)
            clear b9 HB1
            go_wp2_with fail
            go_meet
            exact ⟨rfl, HB2⟩
      case rest =>
        obtain ⟨rfl, HBe⟩ := hcut
        clear T3 T4 HBd
        go_wp2_with fail
        refine (HWk.out _).mono ?_; rintro e w5 ⟨rfl, b9⟩
        have HB5 := Lib.hid (then_ HBe.out b9)
        clear b9 HBe
        go_wp2_with fail
        go_ret
        exact ⟨rfl, HB5.out⟩
end Go.Proofs.Ytggcboejdihdiaa.Gm
