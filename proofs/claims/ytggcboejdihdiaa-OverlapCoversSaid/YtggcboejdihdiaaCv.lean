/- The contracts of package cover's cutsOf. -/
import Derived.Test.YtggcboejdihdiaaCu
set_option linter.unusedSimpArgs false
set_option linter.unusedVariables false
namespace Go.Proofs.Ytggcboejdihdiaa.Gm
open Go Go.RowKit
attribute [local go_sem ↓] Go.wp_at_zero Go.wp_at_succ

theorem run_store_f (P : Program) (w : World) (a : Addr) (m : Mode) (fn : Fn) (x y : Array Value) : (store a (.func fn x y) m).run P w = stored P w a (.func fn x y) m := run_store P w a _ m rfl
attribute [local go_sem] run_store_f
/-- What cutsOf leaves. -/
abbrev cux (c : Ct) (f : Value) : Value := .agg #[.int .i64 c.v.k, .int .i64 c.v.n, .string c.v.s, .bool c.v.b, .bool c.e, f]
abbrev cuv (k : Int) : Value := cux (firstC k) (behF k)
abbrev cuz : Array Value := #[.int .i64 0, .int .i64 0, .string ⟨#[]⟩, .bool false, .bool false, .nilFunc]
theorem post_cuts {P : Program} {fn : Func} {a : Act} {w1 : World} {g : Nat} {t : TypeId} {c : Ct} {f : Value} {R : Ending → World → Prop} (hK : Blk w1 g t cuz) (hr : ∀ W, Blk W g t #[.int .i64 c.v.k, .int .i64 c.v.n, .string c.v.s, .bool c.v.b, .bool c.e, f] → (results fn a.tmps).run P W = .ok (cux c f) W) (hd : a.defers = []) (hR : R (.returned (cux c f)) ((put5 w1 g 0 c).setCell ⟨g, 5, none⟩ f)) : bodyPost P fn R .ret a ((put5 w1 g 0 c).setCell ⟨g, 5, none⟩ f) :=
  bodyPost_ret (hr _ (blk_set (blk_set (blk_set (blk_set (blk_set (blk_set hK 0 (.int .i64 c.v.k)) 1 (.int .i64 c.v.n)) 2 (.string c.v.s)) 3 (.bool c.v.b)) 4 (.bool c.e)) 5 f)) hd hR
set_option maxHeartbeats 4000000 in
set_option maxRecDepth 100000 in
theorem cuts_any (k : Int) (hk : k = 1 ∨ k = 2 ∨ k = 3) (w : World) : Calls Try.prog 60 #[.int .i64 k] w (Gives (cuv k) w) := by
  rcases hk with rfl | rfl | rfl
  · go_enter Try.func60, Try.ntmps60
    go_wp2_with fail
    obtain ⟨m, hm⟩ : ∃ m, (-9223372036854775808 : Int) = m := ⟨_, rfl⟩
    have HM := Lib.hid hm
    rw [hm]
    clear hm
    refine (num_any m _).mono ?_; rintro e w1 ⟨rfl, b1⟩
    have HK1 : Hid (Blk w1 w.heap.size 98 cuz) := Lib.hid (zero1 b1).1
    have HB1 : Hid (Below w.heap.size w w1) := Lib.hid (zero1 b1).2
    clear b1
    go_wp2_with fail
    refine (ahead_any (numV m) _).mono ?_; rintro e w2 ⟨rfl, b2⟩
    have HK := Lib.hid (HK1.out.later b2)
    have HB := Lib.hid (then_ HB1.out b2)
    obtain ⟨c, hc⟩ : ∃ c, ahd (numV m) = c := ⟨_, rfl⟩
    rw [hc]
    have HC : Hid (c = firstC 1) := Lib.hid (by rw [← hc, ← HM.out]; rfl)
    clear b2 hc
    have k0 := HK.out.cell 0 rfl
    have k1 := HK.out.cell 1 rfl
    have k2 := HK.out.cell 2 rfl
    have k3 := HK.out.cell 3 rfl
    have k4 := HK.out.cell 4 rfl
    have f0 := HK.out.free 0
    have f1 := HK.out.free 1
    have f2 := HK.out.free 2
    have f3 := HK.out.free 3
    have f4 := HK.out.free 4
    have k5 := HK.out.cell 5 rfl
    have f5 := HK.out.free 5
    go_wp2_with fail
    exact post_cuts (c := c) HK.out (fun W hW => by have e0 := hW.cell 0 rfl; have e1 := hW.cell 1 rfl; have e2 := hW.cell 2 rfl; have e3 := hW.cell 3 rfl; have e4 := hW.cell 4 rfl; have e5 := hW.cell 5 rfl; clear HK HB k0 k1 k2 k3 k4 k5 f0 f1 f2 f3 f4 f5; simp [results, Try.results60, go_sem, e0, e1, e2, e3, e4, e5]) rfl ⟨(by rw [HC.out]; rfl), ((same5 w2 w.heap.size 0 c).set 5 _).below HB.out HB.out.size (Nat.le_refl _)⟩
  · go_enter Try.func60, Try.ntmps60
    go_wp2_with fail
    refine (str_any ⟨#[]⟩ _).mono ?_; rintro e w1 ⟨rfl, b1⟩
    have HK1 : Hid (Blk w1 w.heap.size 98 cuz) := Lib.hid (zero1 b1).1
    have HB1 : Hid (Below w.heap.size w w1) := Lib.hid (zero1 b1).2
    clear b1
    go_wp2_with fail
    refine (ahead_any (strV ⟨#[]⟩) _).mono ?_; rintro e w2 ⟨rfl, b2⟩
    have HK := Lib.hid (HK1.out.later b2)
    have HB := Lib.hid (then_ HB1.out b2)
    obtain ⟨c, hc⟩ : ∃ c, ahd (strV ⟨#[]⟩) = c := ⟨_, rfl⟩
    rw [hc]
    have HC : Hid (c = firstC 2) := Lib.hid (by rw [← hc]; rfl)
    clear b2 hc
    have k0 := HK.out.cell 0 rfl
    have k1 := HK.out.cell 1 rfl
    have k2 := HK.out.cell 2 rfl
    have k3 := HK.out.cell 3 rfl
    have k4 := HK.out.cell 4 rfl
    have f0 := HK.out.free 0
    have f1 := HK.out.free 1
    have f2 := HK.out.free 2
    have f3 := HK.out.free 3
    have f4 := HK.out.free 4
    have k5 := HK.out.cell 5 rfl
    have f5 := HK.out.free 5
    go_wp2_with fail
    exact post_cuts (c := c) HK.out (fun W hW => by have e0 := hW.cell 0 rfl; have e1 := hW.cell 1 rfl; have e2 := hW.cell 2 rfl; have e3 := hW.cell 3 rfl; have e4 := hW.cell 4 rfl; have e5 := hW.cell 5 rfl; clear HK HB k0 k1 k2 k3 k4 k5 f0 f1 f2 f3 f4 f5; simp [results, Try.results60, go_sem, e0, e1, e2, e3, e4, e5]) rfl ⟨(by rw [HC.out]; rfl), ((same5 w2 w.heap.size 0 c).set 5 _).below HB.out HB.out.size (Nat.le_refl _)⟩
  · go_enter Try.func60, Try.ntmps60
    go_wp2_with fail
    refine (boo_any false _).mono ?_; rintro e w1 ⟨rfl, b1⟩
    have HK1 : Hid (Blk w1 w.heap.size 98 cuz) := Lib.hid (zero1 b1).1
    have HB1 : Hid (Below w.heap.size w w1) := Lib.hid (zero1 b1).2
    clear b1
    go_wp2_with fail
    refine (ahead_any (booV false) _).mono ?_; rintro e w2 ⟨rfl, b2⟩
    have HK := Lib.hid (HK1.out.later b2)
    have HB := Lib.hid (then_ HB1.out b2)
    obtain ⟨c, hc⟩ : ∃ c, ahd (booV false) = c := ⟨_, rfl⟩
    rw [hc]
    have HC : Hid (c = firstC 3) := Lib.hid (by rw [← hc]; rfl)
    clear b2 hc
    have k0 := HK.out.cell 0 rfl
    have k1 := HK.out.cell 1 rfl
    have k2 := HK.out.cell 2 rfl
    have k3 := HK.out.cell 3 rfl
    have k4 := HK.out.cell 4 rfl
    have f0 := HK.out.free 0
    have f1 := HK.out.free 1
    have f2 := HK.out.free 2
    have f3 := HK.out.free 3
    have f4 := HK.out.free 4
    have k5 := HK.out.cell 5 rfl
    have f5 := HK.out.free 5
    go_wp2_with fail
    exact post_cuts (c := c) HK.out (fun W hW => by have e0 := hW.cell 0 rfl; have e1 := hW.cell 1 rfl; have e2 := hW.cell 2 rfl; have e3 := hW.cell 3 rfl; have e4 := hW.cell 4 rfl; have e5 := hW.cell 5 rfl; clear HK HB k0 k1 k2 k3 k4 k5 f0 f1 f2 f3 f4 f5; simp [results, Try.results60, go_sem, e0, e1, e2, e3, e4, e5]) rfl ⟨(by rw [HC.out]; rfl), ((same5 w2 w.heap.size 0 c).set 5 _).below HB.out HB.out.size (Nat.le_refl _)⟩
end Go.Proofs.Ytggcboejdihdiaa.Gm
