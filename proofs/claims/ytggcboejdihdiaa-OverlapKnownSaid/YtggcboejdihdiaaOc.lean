/- Package overlap's mayBoth, names, bothAsk, and what bothAsk hands on, walked. -/
import Derived.Test.YtggcboejdihdiaaOa
import Derived.Test.YtggcboejdihdiaaOb
import Derived.Test.YtggcboejdihdiaaCpa
import Derived.Test.YtggcboejdihdiaaCi
set_option linter.unusedSimpArgs false
set_option linter.unusedVariables false
namespace Go.Proofs.Ytggcboejdihdiaa.Gm
open Go Go.RowKit
attribute [local go_sem ↓] Go.wp_at_zero Go.wp_at_succ

theorem asked_ok (v : Value) (p : List Cn) (nm : ByteArray) (w : World) (hA : Cs w v p) (hr : ∀ c ∈ p, RvC c) (hm : mayPr p = true) : Calls Try.prog 13 #[v, .string nm] w fun e w' => ∃ m, e = .returned (.tuple #[rgv m (askedR p nm.data.toList), .int .i64 0]) ∧ OwnR w' m (askedR p nm.data.toList) ∧ Below w.heap.size w w' :=
  (Asked_any v p nm w hA hr).mono fun e w' ⟨m, h1, h2, h3⟩ => by
    rw [hm] at h1 h2
    exact ⟨m, h1, h2, h3⟩
theorem and_own (m m' : Rm) (r s : Rg) (n n' : Nat) (w : World) (hR : OwnR w m r) (hS : OwnR w m' s) (hr : LeR r n) (hs : LeR s n') (hn : n + n' ≤ 1000000) : Calls Try.prog 14 #[rgv m r, rgv m' s] w fun e w' => ∃ q, e = .returned (rgv q (andR r s)) ∧ OwnR w' q (andR r s) ∧ Below w.heap.size w w' :=
  and_r m m' r s n n' w (hR.rg hr (by omega)) (hS.rg hs (by omega)) hr hs hn
set_option maxHeartbeats 4000000 in
set_option maxRecDepth 100000 in
theorem mayboth_any (v v' : Value) (p q : List Cn) (w : World) (hP : Cs w v p) (hQ : Cs w v' q) : Calls Try.prog 22 #[v, v'] w (Gives (.bool (mayPr p && mayPr q)) w) := by
  obtain ⟨pp, cp, rfl⟩ := hP.1.form
  obtain ⟨pq, cq, rfl⟩ := hQ.1.form
  have HM1 := Lib.hid (maypred_any _ p w hP)
  have HM2 := Lib.hid (fun W (h : Below w.heap.size w W) => maypred_any _ q W (hQ.later h))
  clear hP hQ
  cases m1 : mayPr p
  · rw [m1] at HM1
    clear m1
    go_enter Try.func22, Try.ntmps22
    go_wp2_with fail
    refine HM1.out.mono ?_; rintro e w1 ⟨rfl, b1⟩
    have HB1 := Lib.hid b1
    clear b1
    go_wp2_with fail
    go_ret
    exact ⟨rfl, HB1.out⟩
  · rw [m1] at HM1
    clear m1
    go_enter Try.func22, Try.ntmps22
    go_wp2_with fail
    refine HM1.out.mono ?_; rintro e w1 ⟨rfl, b1⟩
    have HB1 := Lib.hid b1
    clear b1
    go_wp2_with fail
    refine (HM2.out _ HB1.out).mono ?_; rintro e w2 ⟨rfl, b2⟩
    have HB2 := Lib.hid (then_ HB1.out b2)
    clear b2
    go_wp2_with fail
    go_ret
    exact ⟨by simp, HB2.out⟩
set_option maxHeartbeats 1000000 in
set_option maxRecDepth 100000 in
theorem ask_mk (p p' : Option Addr) (m m' c c' : Nat) (w : World) : Calls Try.prog 23 #[.slice p m c, .slice p' m' c'] w fun e w' => e = .returned (.func (.func 38) #[] #[.pointer (some ⟨w.heap.size, 0, none⟩), .pointer (some ⟨w.heap.size + 1, 0, none⟩)]) ∧ (w.alloc (.cells #[.slice p m c] 23)).alloc (.cells #[.slice p' m' c'] 23) = w' := by
  go_enter Try.func23, Try.ntmps23
  go_wp2_with fail
  go_ret
  exact ⟨rfl, rfl⟩
set_option maxHeartbeats 1000000 in
set_option maxRecDepth 100000 in
theorem nam_mk (p p' : Option Addr) (m m' c c' : Nat) (w : World) : Calls Try.prog 24 #[.slice p m c, .slice p' m' c'] w fun e w' => e = .returned (.func (.func 39) #[] #[.pointer (some ⟨w.heap.size, 0, none⟩), .pointer (some ⟨w.heap.size + 1, 0, none⟩)]) ∧ (w.alloc (.cells #[.slice p m c] 23)).alloc (.cells #[.slice p' m' c'] 23) = w' := by
  go_enter Try.func24, Try.ntmps24
  go_wp2_with fail
  go_ret
  exact ⟨rfl, rfl⟩
set_option maxHeartbeats 8000000 in
set_option maxRecDepth 100000 in
/-- What both ask of a name. -/
theorem ask_one (b c : Nat) (v0 v1 : Value) (p q : List Cn) (nm : ByteArray) (w : World) (hb : Blk w b 23 #[v0]) (hc : Blk w c 23 #[v1]) (hP : Cs w v0 p) (hQ : Cs w v1 q) (rp : ∀ c ∈ p, RvC c) (rq : ∀ c ∈ q, RvC c) (mp : mayPr p = true) (mq : mayPr q = true) : Calls Try.prog 38 #[.string nm, .pointer (some ⟨b, 0, none⟩), .pointer (some ⟨c, 0, none⟩)] w (RetR (bothR p q nm.data.toList) w) := by
  obtain ⟨p0, c0, rfl⟩ := hP.1.form
  obtain ⟨p1, c1, rfl⟩ := hQ.1.form
  have HA0 := Lib.hid (fun W (h : Below w.heap.size w W) => asked_ok _ p nm W (hP.later h) rp mp)
  have HA1 := Lib.hid (fun W (h : Below w.heap.size w W) => asked_ok _ q nm W (hQ.later h) rq mq)
  have HL0 := Lib.hid (LeR.asked (mp_of mp rp) nm.data.toList)
  have HL1 := Lib.hid (LeR.asked (mp_of mq rq) nm.data.toList)
  have HZ0 := Lib.hid (Blk.new w 39 zRg)
  have HB0 := Lib.hid (below_one w (.cells zRg 39))
  have HK0 := Lib.hid (hb.alloc (.cells zRg 39))
  have HC0 := Lib.hid hc
  have HR : Hid (bothR p q nm.data.toList = andR (askedR p nm.data.toList) (askedR q nm.data.toList)) := Lib.hid rfl
  rw [HR.out]
  clear HR hb hc hP hQ rp rq mp mq
  generalize askedR p nm.data.toList = r at HA0 HL0 ⊢
  generalize askedR q nm.data.toList = s at HA1 HL1 ⊢
  have HAn := Lib.hid (fun m1 m2 W (h : OwnR W m1 r) (h' : OwnR W m2 s) => and_own m1 m2 r s 145 145 W h h' HL0.out HL1.out (by omega))
  generalize andR r s = t at HAn ⊢
  have k0 := HK0.out.cell 0 rfl
  go_enter Try.func38, Try.ntmps38
  go_wp2_with fail
  refine (HA0.out _ HB0.out).mono ?_; rintro e w1 ⟨m1, rfl, ho1, b1⟩
  have HB1 := Lib.hid (then_ HB0.out b1)
  have HZ1 := Lib.hid (HZ0.out.later b1)
  have HO1 := Lib.hid ho1
  clear b1 ho1 k0
  have HB2 : Hid (Below w.heap.size w (w1.alloc (.cells (rgc m1 r) 39))) := Lib.hid (HB1.out.alloc HB1.out.size _)
  have HC2 := Lib.hid (HC0.out.later HB2.out)
  have k1 := HC2.out.cell 0 rfl
  go_wp2_with fail
  refine (HA1.out _ HB2.out).mono ?_; rintro e w2 ⟨m2, rfl, ho2, b2⟩
  have hg1 := HB1.out.size
  have HK2 := Lib.hid ((Blk.new w1 39 (rgc m1 r)).later b2)
  have HB3 := Lib.hid (then_ HB2.out b2)
  have HO2 := Lib.hid (((HO1.out.later (below_one w1 (.cells (rgc m1 r) 39))).later b2).later (below_one w2 (.cells (rgc m2 s) 39)))
  have HO3 := Lib.hid (ho2.later (below_one w2 (.cells (rgc m2 s) 39)))
  have HZ3 := Lib.hid (((HZ1.out.later (below_one w1 (.cells (rgc m1 r) 39))).later b2).alloc (.cells (rgc m2 s) 39))
  have HK3 := Lib.hid (HK2.out.alloc (.cells (rgc m2 s) 39))
  have HJ3 := Lib.hid (Blk.new w2 39 (rgc m2 s))
  have HB4 : Hid (Below w.heap.size w (w2.alloc (.cells (rgc m2 s) 39))) := Lib.hid (HB3.out.alloc HB3.out.size _)
  have hz2 := b2.size
  clear b2 ho2 k1 HK2 HO1 HZ0 HZ1 HB0 HB1 HB2 HA0 HA1 HC0 HC2
  simp only [World.size_alloc] at hz2
  have a0 := HK3.out.cell 0 rfl
  have a1 := HK3.out.cell 1 rfl
  have a2 := HK3.out.cell 2 rfl
  have a3 := HK3.out.cell 3 rfl
  have b0 := HJ3.out.cell 0 rfl
  have b1 := HJ3.out.cell 1 rfl
  have b2 := HJ3.out.cell 2 rfl
  have b3 := HJ3.out.cell 3 rfl
  go_wp2_with fail
  refine (HAn.out m1 m2 _ HO2.out HO3.out).mono ?_; rintro e w3 ⟨m3, rfl, ho3, b4⟩
  have HO4 := Lib.hid ho3
  have HZ4 := Lib.hid (HZ3.out.later b4)
  have HB5 := Lib.hid (then_ HB4.out b4)
  clear b4 ho3 a0 a1 a2 a3 b0 b1 b2 b3
  have z0 := HZ4.out.cell 0 rfl
  have z1 := HZ4.out.cell 1 rfl
  have z2 := HZ4.out.cell 2 rfl
  have z3 := HZ4.out.cell 3 rfl
  have f0 := HZ4.out.free 0
  have f1 := HZ4.out.free 1
  have f2 := HZ4.out.free 2
  have f3 := HZ4.out.free 3
  go_wp2_with fail
  exact post_rg (m := m3) (r := t) HZ4.out (fun W hW => by have e0 := hW.cell 0 rfl; have e1 := hW.cell 1 rfl; have e2 := hW.cell 2 rfl; have e3 := hW.cell 3 rfl; clear HAn HK0 HL0 HL1 HB3 HO2 HO3 HZ3 HK3 HJ3 HB4 HO4 HZ4 HB5 z0 z1 z2 z3 f0 f1 f2 f3 hg1 hz2; simp [results, Try.results38, go_sem, e0, e1, e2, e3]) rfl ⟨m3, rfl, OwnR.put4 HO4.out HZ4.out, (same4 _ _ _ _).below HB5.out HB5.out.size (by omega)⟩
end Go.Proofs.Ytggcboejdihdiaa.Gm
