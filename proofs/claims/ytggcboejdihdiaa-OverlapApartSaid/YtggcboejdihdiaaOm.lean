/- OverlapApart, walked. -/
import Derived.Test.YtggcboejdihdiaaOl
set_option linter.unusedSimpArgs false
set_option linter.unusedVariables false
namespace Go.Proofs.Ytggcboejdihdiaa.Gm
open Go Go.RowKit
attribute [local go_sem ↓] Go.wp_at_zero Go.wp_at_succ

set_option maxHeartbeats 8000000 in
set_option maxRecDepth 100000 in
theorem oapart_none (v0 v1 : Value) (p q : List Cn) (w : World) (hP : Cs w v0 p) (hQ : Cs w v1 q) (rp : ∀ c ∈ p, RvC c) (rq : ∀ c ∈ q, RvC c) (hn : apR p q = none) : Calls Try.prog 4 #[v0, v1] w (Gives (.bool true) w) := by
  obtain ⟨p0, c0, rfl⟩ := hP.1.form
  obtain ⟨p1, c1, rfl⟩ := hQ.1.form
  have hs := apart_some p q
  rw [hn] at hs
  have HA := Lib.hid (apart_any _ _ p q w hP hQ rp rq)
  rw [hn] at HA
  have HMP := Lib.hid (fun W (h : Below w.heap.size w W) => maypred_any _ p W (hP.later h))
  have HMQ := Lib.hid (fun W (h : Below w.heap.size w W) => maypred_any _ q W (hQ.later h))
  have HPQ := Lib.hid (fun W (h : Below w.heap.size w W) => overlaps_any _ _ p q W (hP.later h) (hQ.later h) rp rq)
  have HWk := Lib.hid (fun W => wakes_any W)
  clear hP hQ rp rq hn
  generalize overB p q = pq at HPQ hs
  generalize mayPr p = mp at HMP hs
  generalize mayPr q = mq at HMQ hs
  cases mp
  · clear hs
    go_enter Try.func4, Try.ntmps4
    go_wp2_with fail
    refine HA.out.mono ?_; rintro e w1 ⟨rfl, b1⟩
    have HB1 : Hid (Below w.heap.size w (w1.alloc (.cells #[.string ⟨#[]⟩] 9))) := Lib.hid (b1.alloc b1.size _)
    have HK1 := Lib.hid (Blk.new w1 9 #[.string ⟨#[]⟩])
    clear b1 HA
    go_wp2_with fail
    refine (HMP.out _ HB1.out).mono ?_; rintro e w2 ⟨rfl, b9⟩
    have HB2 := Lib.hid (then_ HB1.out b9)
    have k2 := (HK1.out.later b9).cell 0 (u := .string ⟨#[]⟩) rfl
    clear b9 HB1 HK1
    go_wp2_with fail
    refine (HWk.out _).mono ?_; rintro e w5 ⟨rfl, b9⟩
    have HB5 := Lib.hid (then_ HB2.out b9)
    clear b9 HB2 k2
    go_wp2_with fail
    go_ret
    exact ⟨rfl, HB5.out⟩
  · cases mq
    · clear hs
      go_enter Try.func4, Try.ntmps4
      go_wp2_with fail
      refine HA.out.mono ?_; rintro e w1 ⟨rfl, b1⟩
      have HB1 : Hid (Below w.heap.size w (w1.alloc (.cells #[.string ⟨#[]⟩] 9))) := Lib.hid (b1.alloc b1.size _)
      have HK1 := Lib.hid (Blk.new w1 9 #[.string ⟨#[]⟩])
      clear b1 HA
      go_wp2_with fail
      refine (HMP.out _ HB1.out).mono ?_; rintro e w2 ⟨rfl, b9⟩
      have HB2 := Lib.hid (then_ HB1.out b9)
      have HK2 := Lib.hid (HK1.out.later b9)
      clear b9 HB1 HK1
      go_wp2_with fail
      refine (HMQ.out _ HB2.out).mono ?_; rintro e w3 ⟨rfl, b9⟩
      have HB3 := Lib.hid (then_ HB2.out b9)
      have k2 := (HK2.out.later b9).cell 0 (u := .string ⟨#[]⟩) rfl
      clear b9 HB2 HK2
      go_wp2_with fail
      refine (HWk.out _).mono ?_; rintro e w5 ⟨rfl, b9⟩
      have HB5 := Lib.hid (then_ HB3.out b9)
      clear b9 HB3 k2
      go_wp2_with fail
      go_ret
      exact ⟨rfl, HB5.out⟩
    · obtain rfl : pq = true := by cases pq; (exact absurd hs (by decide)); rfl
      clear hs
      go_enter Try.func4, Try.ntmps4
      go_wp2_with fail
      refine HA.out.mono ?_; rintro e w1 ⟨rfl, b1⟩
      have HB1 : Hid (Below w.heap.size w (w1.alloc (.cells #[.string ⟨#[]⟩] 9))) := Lib.hid (b1.alloc b1.size _)
      have HK1 := Lib.hid (Blk.new w1 9 #[.string ⟨#[]⟩])
      clear b1 HA
      go_wp2_with fail
      refine (HMP.out _ HB1.out).mono ?_; rintro e w2 ⟨rfl, b9⟩
      have HB2 := Lib.hid (then_ HB1.out b9)
      have HK2 := Lib.hid (HK1.out.later b9)
      clear b9 HB1 HK1
      go_wp2_with fail
      refine (HMQ.out _ HB2.out).mono ?_; rintro e w3 ⟨rfl, b9⟩
      have HB3 := Lib.hid (then_ HB2.out b9)
      have HK3 := Lib.hid (HK2.out.later b9)
      clear b9 HB2 HK2
      go_wp2_with fail
      refine (HPQ.out _ HB3.out).mono ?_; rintro e w4 ⟨rfl, b9⟩
      have HB4 := Lib.hid (then_ HB3.out b9)
      have k2 := (HK3.out.later b9).cell 0 (u := .string ⟨#[]⟩) rfl
      clear b9 HB3 HK3
      go_wp2_with fail
      refine (HWk.out _).mono ?_; rintro e w5 ⟨rfl, b9⟩
      have HB5 := Lib.hid (then_ HB4.out b9)
      clear b9 HB4 k2
      go_wp2_with fail
      go_ret
      exact ⟨rfl, HB5.out⟩
set_option maxHeartbeats 8000000 in
set_option maxRecDepth 100000 in
theorem oapart_some (v0 v1 : Value) (p q : List Cn) (n : List UInt8) (w : World) (hP : Cs w v0 p) (hQ : Cs w v1 q) (rp : ∀ c ∈ p, RvC c) (rq : ∀ c ∈ q, RvC c) (hn : apR p q = some n) : Calls Try.prog 4 #[v0, v1] w (Gives (.bool true) w) := by
  obtain ⟨p0, c0, rfl⟩ := hP.1.form
  obtain ⟨p1, c1, rfl⟩ := hQ.1.form
  obtain ⟨mp, mq, hem⟩ := apart_empty hn
  have hs := apart_some p q
  rw [hn, mp, mq] at hs
  have hov : overB p q = false := by
    cases hv : overB p q
    · rfl
    · rw [hv] at hs; cases hs
  have hoo := only_over rp rq hn
  have HA := Lib.hid (apart_any _ _ p q w hP hQ rp rq)
  rw [hn] at HA
  have HMP := Lib.hid (fun W (h : Below w.heap.size w W) => maypred_any _ p W (hP.later h))
  have HMQ := Lib.hid (fun W (h : Below w.heap.size w W) => maypred_any _ q W (hQ.later h))
  have HPQ := Lib.hid (fun W (h : Below w.heap.size w W) => overlaps_any _ _ p q W (hP.later h) (hQ.later h) rp rq)
  rw [mp] at HMP
  rw [mq] at HMQ
  rw [hov] at HPQ
  have HWk := Lib.hid (fun W => wakes_any W)
  have Mp0 := mp_of mp rp
  have Mq0 := mp_of mq rq
  have HL0 := Lib.hid (LeR.asked Mp0 n)
  have HL1 := Lib.hid (LeR.asked Mq0 n)
  obtain ⟨nm, hnm⟩ : ∃ nm : ByteArray, ⟨n.toArray⟩ = nm := ⟨_, rfl⟩
  have hnl : nm.data.toList = n := by rw [← hnm]
  have HA0 := Lib.hid (fun W (h : Below w.heap.size w W) => asked_ok _ p nm W (hP.later h) rp mp)
  have HA1 := Lib.hid (fun W (h : Below w.heap.size w W) => asked_ok _ q nm W (hQ.later h) rq mq)
  have HO0 := Lib.hid (fun W b (h : Below w.heap.size w W) (hb : Blk W b 9 #[.string nm]) => only1_any _ p b nm W (hP.later h) Mp0.1 hb)
  have HO1 := Lib.hid (fun W b (h : Below w.heap.size w W) (hb : Blk W b 9 #[.string nm]) => only1_any _ q b nm W (hQ.later h) Mq0.1 hb)
  rw [hnl] at HA0 HA1 HO0 HO1
  have HV := Lib.hid (fun W v v' (h : Cs W v (onlyP p n)) (h' : Cs W v' (onlyP q n)) => overlaps_any v v' _ _ W h h' (only_rv rp n) (only_rv rq n))
  rw [hoo] at HV
  unfold apS at HA
  have HA : Hid (Calls Try.prog 11 #[.slice p0 p.length c0, .slice p1 q.length c1] w (Gives (.tuple #[.string nm, .bool true]) w)) := by rw [← hnm]; exact HA
  have hem' : emptyR (andR (askedR p n) (askedR q n)) = true := hem
  have HAn := Lib.hid (fun m1 m2 W (h : OwnR W m1 (askedR p n)) (h' : OwnR W m2 (askedR q n)) => and_own m1 m2 _ _ 145 145 W h h' HL0.out HL1.out (by omega))
  have HEm := Lib.hid (fun m W (h : OwnR W m (andR (askedR p n) (askedR q n))) => empty_any m _ W (h.rg (HL0.out.and HL1.out) (by omega)))
  rw [hem'] at HEm
  generalize andR (askedR p n) (askedR q n) = t at HAn HEm
  generalize askedR p n = r at HA0 HAn
  generalize askedR q n = s at HA1 HAn
  clear hP hQ rp rq hn mp mq hem hem' hs hov hoo Mp0 Mq0 HL0 HL1 hnm hnl
  generalize onlyP p n = lp at HO0 HV
  generalize onlyP q n = lq at HO1 HV
  go_enter Try.func4, Try.ntmps4
  go_wp2_with fail
  refine HA.out.mono ?_; rintro e w1 ⟨rfl, b1⟩
  have HB1 : Hid (Below w.heap.size w (w1.alloc (.cells #[.string nm] 9))) := Lib.hid (b1.alloc b1.size _)
  have HK1 := Lib.hid (Blk.new w1 9 #[.string nm])
  clear b1 HA
  go_wp2_with fail
  refine (HMP.out _ HB1.out).mono ?_; rintro e w2 ⟨rfl, b9⟩
  have HB2 := Lib.hid (then_ HB1.out b9)
  have HK2 := Lib.hid (HK1.out.later b9)
  clear b9 HB1 HK1
  go_wp2_with fail
  refine (HMQ.out _ HB2.out).mono ?_; rintro e w3 ⟨rfl, b9⟩
  have HB3 := Lib.hid (then_ HB2.out b9)
  have HK3 := Lib.hid (HK2.out.later b9)
  clear b9 HB2 HK2
  go_wp2_with fail
  refine (HPQ.out _ HB3.out).mono ?_; rintro e w4 ⟨rfl, b9⟩
  have HB4 := Lib.hid (then_ HB3.out b9)
  have HK4 := Lib.hid (HK3.out.later b9)
  have k4 := HK4.out.cell 0 (u := .string nm) rfl
  clear b9 HB3 HK3
  go_wp2_with fail
  refine (HA0.out _ HB4.out).mono ?_; rintro e w5 ⟨m1, rfl, ho1, b5⟩
  have HB5 : Hid (Below w.heap.size w (w5.alloc (.cells (rgc m1 r) 39))) := Lib.hid ((then_ HB4.out b5).alloc (then_ HB4.out b5).size _)
  have HK5 := Lib.hid ((HK4.out.later b5).alloc (.cells (rgc m1 r) 39))
  have HD5 := Lib.hid (Blk.new w5 39 (rgc m1 r))
  have HO5 := Lib.hid (ho1.later (below_one w5 (.cells (rgc m1 r) 39)))
  have k5 := HK5.out.cell 0 (u := .string nm) rfl
  clear b5 ho1 HB4 HK4 k4
  go_wp2_with fail
  refine (HA1.out _ HB5.out).mono ?_; rintro e w6 ⟨m2, rfl, ho2, b6⟩
  have HB6 : Hid (Below w.heap.size w (w6.alloc (.cells (rgc m2 s) 39))) := Lib.hid ((then_ HB5.out b6).alloc (then_ HB5.out b6).size _)
  have HK6 := Lib.hid ((HK5.out.later b6).alloc (.cells (rgc m2 s) 39))
  have HD6 := Lib.hid ((HD5.out.later b6).alloc (.cells (rgc m2 s) 39))
  have HE6 := Lib.hid (Blk.new w6 39 (rgc m2 s))
  have HO6 := Lib.hid ((HO5.out.later b6).later (below_one w6 (.cells (rgc m2 s) 39)))
  have HS6 := Lib.hid (ho2.later (below_one w6 (.cells (rgc m2 s) 39)))
  have a0 := HD6.out.cell 0 rfl
  have a1 := HD6.out.cell 1 rfl
  have a2 := HD6.out.cell 2 rfl
  have a3 := HD6.out.cell 3 rfl
  have d0 := HE6.out.cell 0 rfl
  have d1 := HE6.out.cell 1 rfl
  have d2 := HE6.out.cell 2 rfl
  have d3 := HE6.out.cell 3 rfl
  clear b6 ho2 HB5 HK5 HD5 HO5 k5
  go_wp2_with fail
  refine (HAn.out m1 m2 _ HO6.out HS6.out).mono ?_; rintro e w7 ⟨m3, rfl, ho3, b7⟩
  have HB7 := Lib.hid (then_ HB6.out b7)
  have HK7 := Lib.hid (HK6.out.later b7)
  have HR7 := Lib.hid ho3
  clear b7 ho3 HB6 HK6 HD6 HE6 HO6 HS6 a0 a1 a2 a3 d0 d1 d2 d3
  go_wp2_with fail
  refine (HEm.out m3 _ HR7.out).mono ?_; rintro e w8 ⟨rfl, b8⟩
  have HB8 := Lib.hid (then_ HB7.out b8)
  have HK8 := Lib.hid (HK7.out.later b8)
  clear b8 HB7 HK7 HR7
  go_wp2_with fail
  refine (HO0.out _ _ HB8.out HK8.out).mono ?_; rintro e w9 ⟨pU, cU, rfl, hc9, b9⟩
  have HB9 := Lib.hid (then_ HB8.out b9)
  have HK9 := Lib.hid (HK8.out.later b9)
  have HC9 := Lib.hid hc9
  clear b9 HB8 HK8 hc9
  go_wp2_with fail
  refine (HO1.out _ _ HB9.out HK9.out).mono ?_; rintro e w10 ⟨pV, cV, rfl, hc10, b10⟩
  have HB10 := Lib.hid (then_ HB9.out b10)
  have HX10 := Lib.hid (HV.out _ _ _ (HC9.out.later b10) hc10)
  clear b10 HB9 HK9 HC9 hc10
  go_wp2_with fail
  refine HX10.out.mono ?_; rintro e w11 ⟨rfl, b11⟩
  have HB11 := Lib.hid (then_ HB10.out b11)
  clear b11 HB10 HX10
  go_wp2_with fail
  refine (HWk.out _).mono ?_; rintro e w12 ⟨rfl, b12⟩
  have HB12 := Lib.hid (then_ HB11.out b12)
  clear b12 HB11
  go_wp2_with fail
  go_ret
  exact ⟨rfl, HB12.out⟩
theorem law_oapart (v0 v1 : Value) (p q : List Cn) (w : World) (hP : Cs w v0 p) (hQ : Cs w v1 q) (rp : ∀ c ∈ p, RvC c) (rq : ∀ c ∈ q, RvC c) : Calls Try.prog 4 #[v0, v1] w (Gives (.bool true) w) := by
  cases h : apR p q with
  | none => exact oapart_none v0 v1 p q w hP hQ rp rq h
  | some n => exact oapart_some v0 v1 p q n w hP hQ rp rq h
end Go.Proofs.Ytggcboejdihdiaa.Gm
