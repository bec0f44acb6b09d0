/- The contracts of package cover's cutsOf and of what it leaves: the cut behind a value. -/
import Derived.Test.YtggcboejdihdiaaCc
set_option linter.unusedSimpArgs false
set_option linter.unusedVariables false
namespace Go.Proofs.Ytggcboejdihdiaa.Gm
open Go Go.RowKit
attribute [local go_sem ↓] Go.wp_at_zero Go.wp_at_succ

theorem wrap_i (z : Int) (h : -9223372036854775808 ≤ z ∧ z ≤ 9223372036854775807) : IntKind.i64.wrap z = z := by
  rw [IntKind.wrap_i64]; omega
theorem num_any (n : Int) (w : World) : Calls Try.prog 29 #[.int .i64 n] w (Gives (vv (numV n)) w) := number_any n w
theorem str_any (s : ByteArray) (w : World) : Calls Try.prog 28 #[.string s] w (Gives (vv (strV s)) w) := word_any s w
theorem boo_any (b : Bool) (w : World) : Calls Try.prog 51 #[.bool b] w (Gives (vv (booV b)) w) := truth_any b w
/-- What lies in the last of one or two blocks, after calls. -/
theorem zero1 {w w1 : World} {t : TypeId} {cs : Array Value} (b : Below (w.alloc (.cells cs t)).heap.size (w.alloc (.cells cs t)) w1) : Blk w1 w.heap.size t cs ∧ Below w.heap.size w w1 :=
  ⟨(Blk.new w t cs).later b, then_ (below_one w _) b⟩
theorem zero2 {w w1 : World} {o : Obj} {t : TypeId} {cs : Array Value} (b : Below ((w.alloc o).alloc (.cells cs t)).heap.size ((w.alloc o).alloc (.cells cs t)) w1) : Blk w1 (w.heap.size + 1) t cs ∧ Below w.heap.size w w1 := by
  have h := (Blk.new (w.alloc o) t cs).later b
  refine ⟨?_, then_ (below_two w o _) b⟩
  simpa using h
abbrev ctz : Array Value := #[.int .i64 0, .int .i64 0, .string ⟨#[]⟩, .bool false, .bool false]
theorem give5 {w w1 : World} {g : Nat} (hb : Below w.heap.size w w1) (hg : w.heap.size ≤ g) (c : Ct) : Below w.heap.size w (put5 w1 g 0 c) := (same5 w1 g 0 c).below hb hb.size hg

theorem post_cut {P : Program} {fn : Func} {a : Act} {w1 : World} {g : Nat} {t : TypeId} {c : Ct} {R : Ending → World → Prop} (hK : Blk w1 g t ctz) (hr : ∀ W, Blk W g t (ctc c) → (results fn a.tmps).run P W = .ok (ctv c) W) (hd : a.defers = []) (hR : R (.returned (ctv c)) (put5 w1 g 0 c)) : bodyPost P fn R .ret a (put5 w1 g 0 c) :=
  bodyPost_ret (hr _ (blk5 (c := ⟨⟨0, 0, ⟨#[]⟩, false⟩, false⟩) hK c)) hd hR
/-- The program's function that takes a value of that Kind to the cut behind it. -/
def behF (k : Int) : Value := if k = 1 then .func (.func 79) #[] #[] else if k = 2 then .func (.func 80) #[] #[] else .func (.func 81) #[] #[]

set_option maxHeartbeats 4000000 in
set_option maxRecDepth 100000 in
theorem cuts1 (v : Vl) (hk : v.k = 1) (hr : Rv v) (w : World) : Calls Try.prog 79 #[vv v] w (Gives (ctv (behC v)) w) := by
  obtain ⟨k, n, s, b⟩ := v
  simp only at hk
  subst hk
  have h1 : -9223372036854775808 ≤ n := hr.1
  have h2 : n ≤ 9223372036854775807 := hr.2
  clear hr
  by_cases hn : n = 9223372036854775807
  · subst hn
    have hE : behC ⟨1, 9223372036854775807, s, b⟩ = fin := rfl
    rw [hE]
    clear hE h1 h2
    go_enter Try.func79, Try.ntmps79
    go_wp2_with fail
    refine (end_any _).mono ?_; rintro e w1 ⟨rfl, b1⟩
    have HK : Hid (Blk w1 (w.heap.size + 1) 77 ctz) := Lib.hid (zero2 b1).1
    have HB : Hid (Below w.heap.size w w1) := Lib.hid (zero2 b1).2
    clear b1
    have k0 := HK.out.cell 0 rfl
    have k1 := HK.out.cell 1 rfl
    have k2 := HK.out.cell 2 rfl
    have k3 := HK.out.cell 3 rfl
    have k4 := HK.out.cell 4 rfl
    have f0 := HK.out.free 0
    have f1 := HK.out.free 1
    have f2 := HK.out.free 2
    have f3 := HK.out.free 3
    have f4 := HK.out.free 4
    go_wp2_with fail
    exact post_cut (c := fin) HK.out (fun W hW => by have e0 := hW.cell 0 rfl; have e1 := hW.cell 1 rfl; have e2 := hW.cell 2 rfl; have e3 := hW.cell 3 rfl; have e4 := hW.cell 4 rfl; clear HK HB k0 k1 k2 k3 k4 f0 f1 f2 f3 f4; simp [results, Try.results79, go_sem, e0, e1, e2, e3, e4]) rfl ⟨(by first | rw [HM.out] | rfl), give5 HB.out (by omega) fin⟩
  · have hE : behC ⟨1, n, s, b⟩ = ahd (numV (n + 1)) := by simp [behC, hn]
    rw [hE]
    clear hE
    have hd : (n == 9223372036854775807) = false := by simp [hn]
    have hw : IntKind.i64.wrap (n + 1) = n + 1 := wrap_i _ ⟨by omega, by omega⟩
    go_enter Try.func79, Try.ntmps79
    go_wp2_with fail
    obtain ⟨m, hm⟩ : ∃ m, n + 1 = m := ⟨_, rfl⟩
    have HM := Lib.hid hm
    rw [hm]
    clear hm
    refine (num_any m _).mono ?_; rintro e w1 ⟨rfl, b1⟩
    have HK1 : Hid (Blk w1 (w.heap.size + 1) 77 ctz) := Lib.hid (zero2 b1).1
    have HB1 : Hid (Below w.heap.size w w1) := Lib.hid (zero2 b1).2
    clear b1
    go_wp2_with fail
    refine (ahead_any (numV m) _).mono ?_; rintro e w2 ⟨rfl, b2⟩
    have HK := Lib.hid (HK1.out.later b2)
    have HB := Lib.hid (then_ HB1.out b2)
    clear b2
    have k0 := HK.out.cell 0 rfl
    have k1 := HK.out.cell 1 rfl
    have k2 := HK.out.cell 2 rfl
    have k3 := HK.out.cell 3 rfl
    have k4 := HK.out.cell 4 rfl
    have f0 := HK.out.free 0
    have f1 := HK.out.free 1
    have f2 := HK.out.free 2
    have f3 := HK.out.free 3
    have f4 := HK.out.free 4
    go_wp2_with fail
    exact post_cut (c := (ahd (numV m))) HK.out (fun W hW => by have e0 := hW.cell 0 rfl; have e1 := hW.cell 1 rfl; have e2 := hW.cell 2 rfl; have e3 := hW.cell 3 rfl; have e4 := hW.cell 4 rfl; clear HK HB k0 k1 k2 k3 k4 f0 f1 f2 f3 f4; simp [results, Try.results79, go_sem, e0, e1, e2, e3, e4]) rfl ⟨(by first | rw [HM.out] | rfl), give5 HB.out (by omega) (ahd (numV m))⟩
set_option maxHeartbeats 4000000 in
set_option maxRecDepth 100000 in
theorem cuts2 (v : Vl) (hk : v.k = 2) (hs : v.s.size ≤ 1048576) (w : World) : Calls Try.prog 80 #[vv v] w (Gives (ctv (behC v)) w) := by
    obtain ⟨k, n, s, b⟩ := v
    simp only at hk
    subst hk
    have hE : behC ⟨2, n, s, b⟩ = ahd (strV (s ++ ⟨#[0]⟩)) := rfl
    have hs : s.size ≤ 1048576 := hs
    have hq : ¬ (9223372036854775807 : Int) < (s.size : Int) + 1 := by omega
    clear hs
    rw [hE]
    clear hE
    go_enter Try.func80, Try.ntmps80
    go_wp2_with fail
    obtain ⟨s2, hm⟩ : ∃ s2, s ++ (⟨#[0]⟩ : ByteArray) = s2 := ⟨_, rfl⟩
    have HM := Lib.hid hm
    rw [hm]
    clear hm
    refine (str_any s2 _).mono ?_; rintro e w1 ⟨rfl, b1⟩
    have HK1 : Hid (Blk w1 (w.heap.size + 1) 77 ctz) := Lib.hid (zero2 b1).1
    have HB1 : Hid (Below w.heap.size w w1) := Lib.hid (zero2 b1).2
    clear b1
    go_wp2_with fail
    refine (ahead_any (strV s2) _).mono ?_; rintro e w2 ⟨rfl, b2⟩
    have HK := Lib.hid (HK1.out.later b2)
    have HB := Lib.hid (then_ HB1.out b2)
    clear b2
    have k0 := HK.out.cell 0 rfl
    have k1 := HK.out.cell 1 rfl
    have k2 := HK.out.cell 2 rfl
    have k3 := HK.out.cell 3 rfl
    have k4 := HK.out.cell 4 rfl
    have f0 := HK.out.free 0
    have f1 := HK.out.free 1
    have f2 := HK.out.free 2
    have f3 := HK.out.free 3
    have f4 := HK.out.free 4
    go_wp2_with fail
    exact post_cut (c := (ahd (strV s2))) HK.out (fun W hW => by have e0 := hW.cell 0 rfl; have e1 := hW.cell 1 rfl; have e2 := hW.cell 2 rfl; have e3 := hW.cell 3 rfl; have e4 := hW.cell 4 rfl; clear HK HB k0 k1 k2 k3 k4 f0 f1 f2 f3 f4; simp [results, Try.results80, go_sem, e0, e1, e2, e3, e4]) rfl ⟨(by first | rw [HM.out] | rfl), give5 HB.out (by omega) (ahd (strV s2))⟩
set_option maxHeartbeats 4000000 in
set_option maxRecDepth 100000 in
theorem cuts3 (v : Vl) (hk : v.k = 3) (w : World) : Calls Try.prog 81 #[vv v] w (Gives (ctv (behC v)) w) := by
  obtain ⟨k, n, s, b⟩ := v
  simp only at hk
  subst hk
  cases b
  · have hE : behC ⟨3, n, s, false⟩ = ahd (booV true) := rfl
    rw [hE]
    clear hE
    go_enter Try.func81, Try.ntmps81
    go_wp2_with fail
    refine (boo_any true _).mono ?_; rintro e w1 ⟨rfl, b1⟩
    have HK1 : Hid (Blk w1 (w.heap.size + 1) 77 ctz) := Lib.hid (zero2 b1).1
    have HB1 : Hid (Below w.heap.size w w1) := Lib.hid (zero2 b1).2
    clear b1
    go_wp2_with fail
    refine (ahead_any (booV true) _).mono ?_; rintro e w2 ⟨rfl, b2⟩
    have HK := Lib.hid (HK1.out.later b2)
    have HB := Lib.hid (then_ HB1.out b2)
    clear b2
    have k0 := HK.out.cell 0 rfl
    have k1 := HK.out.cell 1 rfl
    have k2 := HK.out.cell 2 rfl
    have k3 := HK.out.cell 3 rfl
    have k4 := HK.out.cell 4 rfl
    have f0 := HK.out.free 0
    have f1 := HK.out.free 1
    have f2 := HK.out.free 2
    have f3 := HK.out.free 3
    have f4 := HK.out.free 4
    go_wp2_with fail
    exact post_cut (c := (ahd (booV true))) HK.out (fun W hW => by have e0 := hW.cell 0 rfl; have e1 := hW.cell 1 rfl; have e2 := hW.cell 2 rfl; have e3 := hW.cell 3 rfl; have e4 := hW.cell 4 rfl; clear HK HB k0 k1 k2 k3 k4 f0 f1 f2 f3 f4; simp [results, Try.results81, go_sem, e0, e1, e2, e3, e4]) rfl ⟨(by first | rw [HM.out] | rfl), give5 HB.out (by omega) (ahd (booV true))⟩
  · have hE : behC ⟨3, n, s, true⟩ = fin := rfl
    rw [hE]
    clear hE
    go_enter Try.func81, Try.ntmps81
    go_wp2_with fail
    refine (end_any _).mono ?_; rintro e w1 ⟨rfl, b1⟩
    have HK : Hid (Blk w1 (w.heap.size + 1) 77 ctz) := Lib.hid (zero2 b1).1
    have HB : Hid (Below w.heap.size w w1) := Lib.hid (zero2 b1).2
    clear b1
    have k0 := HK.out.cell 0 rfl
    have k1 := HK.out.cell 1 rfl
    have k2 := HK.out.cell 2 rfl
    have k3 := HK.out.cell 3 rfl
    have k4 := HK.out.cell 4 rfl
    have f0 := HK.out.free 0
    have f1 := HK.out.free 1
    have f2 := HK.out.free 2
    have f3 := HK.out.free 3
    have f4 := HK.out.free 4
    go_wp2_with fail
    exact post_cut (c := fin) HK.out (fun W hW => by have e0 := hW.cell 0 rfl; have e1 := hW.cell 1 rfl; have e2 := hW.cell 2 rfl; have e3 := hW.cell 3 rfl; have e4 := hW.cell 4 rfl; clear HK HB k0 k1 k2 k3 k4 f0 f1 f2 f3 f4; simp [results, Try.results81, go_sem, e0, e1, e2, e3, e4]) rfl ⟨(by first | rw [HM.out] | rfl), give5 HB.out (by omega) fin⟩
end Go.Proofs.Ytggcboejdihdiaa.Gm
