/- CoverValues, walked: what is asked. -/
import Derived.Test.YtfjfdajachcnjaaDa
import Derived.Test.YtfjfdajachcnjaaCpa
set_option linter.unusedSimpArgs false
set_option linter.unusedVariables false
namespace Go.Proofs.Ytfjfdajachcnjaa.Gm
open Go Go.RowKit
attribute [local go_sem ↓] Go.wp_at_zero Go.wp_at_succ

theorem asked_yes (v : Value) (p : List Cn) (nm : ByteArray) (w : World) (hA : Cs w v p) (hr : ∀ c ∈ p, RvC c) (hm : mayPr p = true) : Calls Try.prog 5 #[v, .string nm] w fun e w' => ∃ m, e = .returned (.tuple #[rgv m (askedR p nm.data.toList), .int .i64 0]) ∧ OwnR w' m (askedR p nm.data.toList) ∧ Below w.heap.size w w' :=
  (Asked_any v p nm w hA hr).mono fun e w' ⟨m, h1, h2, h3⟩ => by
    rw [hm] at h1 h2
    exact ⟨m, h1, h2, h3⟩
theorem asked_no (v : Value) (p : List Cn) (nm : ByteArray) (w : World) (hA : Cs w v p) (hr : ∀ c ∈ p, RvC c) (hm : mayPr p = false) : Calls Try.prog 5 #[v, .string nm] w fun e w' => ∃ m, e = .returned (.tuple #[rgv m zeroR, .int .i64 30]) ∧ OwnR w' m zeroR ∧ Below w.heap.size w w' :=
  (Asked_any v p nm w hA hr).mono fun e w' ⟨m, h1, h2, h3⟩ => by
    rw [hm] at h1 h2
    exact ⟨m, h1, h2, h3⟩
theorem minus_o (m m' : Rm) (r s : Rg) (n n' : Nat) (w : World) (hR : OwnR w m r) (hS : OwnR w m' s) (hr : LeR r n) (hs : LeR s n') (hn : n + (n' + 1) ≤ 1000000) : Calls Try.prog 8 #[rgv m r, rgv m' s] w fun e w' => ∃ q, e = .returned (rgv q (minusR r s)) ∧ OwnR w' q (minusR r s) ∧ Below w.heap.size w w' :=
  minus_r m m' r s n n' w (hR.rg hr (by omega)) (hS.rg hs (by omega)) hr hs hn
theorem and_o (m m' : Rm) (r s : Rg) (n n' : Nat) (w : World) (hR : OwnR w m r) (hS : OwnR w m' s) (hr : LeR r n) (hs : LeR s n') (hn : n + n' ≤ 1000000) : Calls Try.prog 7 #[rgv m r, rgv m' s] w fun e w' => ∃ q, e = .returned (rgv q (andR r s)) ∧ OwnR w' q (andR r s) ∧ Below w.heap.size w w' :=
  and_r m m' r s n n' w (hR.rg hr (by omega)) (hS.rg hs (by omega)) hr hs hn
/-- The end of the walk where one of both may not be. -/
theorem rep_no : True := trivial
set_option maxHeartbeats 16000000 in
set_option maxRecDepth 100000 in
theorem cvalues_no (v0 v1 : Value) (l0 l1 : List Cn) (nm : ByteArray) (x : Vl) (w : World) (hC0 : Cs w v0 l0) (hC1 : Cs w v1 l1) (r0 : ∀ c ∈ l0, RvC c) (r1 : ∀ c ∈ l1, RvC c) (hm : (mayPr l0 && mayPr l1) = false) : Calls Try.prog 3 #[v0, v1, .string nm, vv x] w (Gives (.bool true) w) := by
  obtain ⟨p0, c0, rfl⟩ := hC0.1.form
  obtain ⟨p1, c1, rfl⟩ := hC1.1.form
  have HB0 := Lib.hid (below_one w (.cells (vlc x) 25))
  cases m0 : mayPr l0
  · have HA0 := Lib.hid (fun W (h : Below w.heap.size w W) => asked_no _ l0 nm W (hC0.later h) r0 m0)
    have HA1 := Lib.hid (fun W (h : Below w.heap.size w W) => Asked_any _ l1 nm W (hC1.later h) r1)
    clear hm hC0 hC1
    have HE : Hid (∀ W, Below w.heap.size w W → Calls Try.prog 5 #[.slice p1 l1.length c1, .string nm] W fun e w' => ∃ m r i, e = .returned (.tuple #[rgv m r, .int .i64 i]) ∧ Below W.heap.size W w') := Lib.hid (fun W h => (HA1.out W h).mono fun e w' ⟨m, a, _, c⟩ => ⟨m, _, _, a, c⟩)
    clear HA1 m0
    go_enter Try.func3, Try.ntmps3
    go_wp2_with fail
    refine (HA0.out _ HB0.out).mono ?_; rintro e w1 ⟨k1, rfl, _, b1⟩
    have HB1 : Hid (Below w.heap.size w (w1.alloc (.cells (rgc k1 zeroR) 29))) := Lib.hid ((then_ HB0.out b1).alloc (then_ HB0.out b1).size _)
    clear b1
    go_wp2_with fail
    refine (HE.out _ HB1.out).mono ?_; rintro e w2 ⟨k2, r2, i2, rfl, b2⟩
    have HB2 : Hid (Below w.heap.size w (w2.alloc (.cells (rgc k2 r2) 29))) := Lib.hid ((then_ HB1.out b2).alloc (then_ HB1.out b2).size _)
    clear b2
    go_wp2_with fail
    refine (wakes_any _).mono ?_; rintro e w3 ⟨rfl, b3⟩
    have HB3 := Lib.hid (then_ HB2.out b3)
    clear b3
    go_wp2_with fail
    go_ret
    exact ⟨rfl, HB3.out⟩
  · have m1 : mayPr l1 = false := by simpa [m0] using hm
    have HA0 := Lib.hid (fun W (h : Below w.heap.size w W) => asked_yes _ l0 nm W (hC0.later h) r0 m0)
    have HA1 := Lib.hid (fun W (h : Below w.heap.size w W) => asked_no _ l1 nm W (hC1.later h) r1 m1)
    clear hm hC0 hC1 m0 m1
    generalize askedR l0 nm.data.toList = r at HA0
    go_enter Try.func3, Try.ntmps3
    go_wp2_with fail
    refine (HA0.out _ HB0.out).mono ?_; rintro e w1 ⟨k1, rfl, _, b1⟩
    have HB1 : Hid (Below w.heap.size w (w1.alloc (.cells (rgc k1 r) 29))) := Lib.hid ((then_ HB0.out b1).alloc (then_ HB0.out b1).size _)
    clear b1
    go_wp2_with fail
    refine (HA1.out _ HB1.out).mono ?_; rintro e w2 ⟨k2, rfl, _, b2⟩
    have HB2 : Hid (Below w.heap.size w (w2.alloc (.cells (rgc k2 zeroR) 29))) := Lib.hid ((then_ HB1.out b2).alloc (then_ HB1.out b2).size _)
    clear b2
    go_wp2_with fail
    refine (wakes_any _).mono ?_; rintro e w3 ⟨rfl, b3⟩
    have HB3 := Lib.hid (then_ HB2.out b3)
    clear b3
    go_wp2_with fail
    go_ret
    exact ⟨rfl, HB3.out⟩
end Go.Proofs.Ytfjfdajachcnjaa.Gm
