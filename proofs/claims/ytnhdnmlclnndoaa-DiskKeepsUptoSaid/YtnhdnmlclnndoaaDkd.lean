/- Layer 10: slices.Clone of bytes; a file cut. -/
import Derived.Test.YtnhdnmlclnndoaaDkc
set_option linter.unusedSimpArgs false
set_option linter.unusedVariables false
namespace Go.Proofs.Ytnhdnmlclnndoaa.Gm
open Go Go.RowKit Go.Maps
attribute [local go_sem ↓] Go.wp_at_zero Go.wp_at_succ

set_option maxHeartbeats 1000000 in
set_option maxRecDepth 100000 in
/-- slices.Clone of bytes. -/
theorem cloneB_any (v : Value) (L : List UInt8) (w : World) (hB : Bs w v L) (hl : L.length ≤ 140737488355328) : Calls Try.prog 50 #[v] w (MadeB L w) := by
  obtain ⟨i0, ii, iz0, iz1, iz2⟩ := info_parts infoB
  have HS := Lib.hid (fun W (h : Below w.heap.size w W) => (hB.below h).src)
  rcases hB with ⟨rfl, rfl⟩ | ⟨a, cap, rfl, h2, h3⟩
  · have hq := Lib.run_eql_slice_nil_nil (P := Try.prog) w (t := 31) 0 0 Try.underlying31
    go_enter Try.func50, Try.ntmps50
    go_wp2_with fail
    go_ret
    exact ⟨_, rfl, OwnB.nil _ _, Below.refl _ _⟩
  · obtain ⟨m, hm⟩ : ∃ m, L.length = m := ⟨_, rfl⟩
    have HM := Lib.hid hm
    rw [hm] at HS hl ⊢
    have hq := Lib.run_eql_slice_some_nil (P := Try.prog) w (t := 31) a m cap Try.underlying31
    have HO := Lib.hid (ownB_lit w [] #[] 0 rfl rfl (by simp))
    have HB := Lib.hid (below_one w (.cells #[] 5))
    clear hm h2 h3
    go_enter Try.func50, Try.ntmps50
    go_wp2_with (at_builtin; refine wpList_append_src rfl _ _ 31 (by rfl) w.heap.size 5 i0 (.int .u8 0) 1 1 Try.underlying31 ii iz0 iz1 iz2 rfl (by decide) _ _ _ (by rfl) HO.out _ m (cellsB L) (by rfl) (HS.out _ HB.out) m (by simp) (by unfold maxLen; omega) (by omega) (by simp) ?_; intro pA capA w3 hown3 hgrow3; have HO3 := Lib.hid hown3; have HB3 := Lib.hid (HB.out.grown hgrow3 (by simp) (fun j hj => (World.ownsRow.lt HO.out j hj).1)); clear hown3 hgrow3)
    go_ret
    exact ⟨_, rfl, ownB_app HO3.out (by rw [HM.out]; simp), HB3.out⟩

theorem slice_pre_b (p : Option Addr) (m cap k : Nat) (hk : k ≤ m) (hc : m ≤ cap) (hp : p = none → cap = 0) (W : World) : (Instr.slice 31 (.slice p m cap) none (some (.int .i64 (k : Int))) none).run Try.prog W = .ok (.slice p k cap) W := by
  cases p with
  | none =>
    have := hp rfl
    subst this
    have : k = 0 := by omega
    subst this
    have : m = 0 := by omega
    subst this
    go_simp
  | some a =>
    have h1 : (k : Int) ≤ (cap : Int) := by omega
    have h2 : k ≤ cap := by omega
    go_simp
theorem own_cap {w : World} {B : Nat} {p : Option Addr} {n c : Nat} {b : List UInt8} (h : OwnB w B (.slice p n c) b) (hn : n = b.length) : n ≤ c ∧ (p = none → c = 0) := by
  subst hn
  rcases h.2 with ⟨e, h0⟩ | ⟨g, cap, cur, e, _, _, h1, _⟩
  · simp only [Value.slice.injEq] at e
    obtain ⟨rfl, e2, rfl⟩ := e
    exact ⟨by omega, fun _ => rfl⟩
  · simp only [Value.slice.injEq] at e
    obtain ⟨rfl, _, rfl⟩ := e
    exact ⟨h1, fun h => by cases h⟩
theorem bs_pre {w : World} {B : Nat} {p : Option Addr} {c : Nat} {b : List UInt8} (h : OwnB w B (.slice p b.length c) b) {k : Nat} (hk : k ≤ b.length) : Bs w (.slice p k c) (b.take k) := by
  rcases h.bs with ⟨e, rfl⟩ | ⟨a, cap, e, h2, h3⟩
  · simp only [Value.slice.injEq] at e
    obtain ⟨rfl, _, rfl⟩ := e
    have : k = 0 := by simpa using hk
    subst this
    exact Bs.nil w
  · simp only [Value.slice.injEq] at e
    obtain ⟨rfl, _, rfl⟩ := e
    exact Bs.take h.bs hk
/-- What cut leaves. -/
def FCut (x : Fl) (k : Nat) (w : World) (e : Ending) (w' : World) : Prop :=
  e = .returned (.tuple #[]) ∧ ∃ p c, FBlk w' ⟨x.f, p, c, x.b.take k, min x.s k⟩ ∧ OwnB w' w.heap.size (.slice p (x.b.take k).length c) (x.b.take k) ∧ Only [x.f] w w'
set_option maxHeartbeats 2000000 in
set_option maxRecDepth 100000 in
theorem fcut_any (B : Nat) (x : Fl) (k : Nat) (w : World) (h : FBlk w x) (ho : OwnB w B x.v x.b) (hk : k ≤ x.b.length) (hl : x.b.length ≤ 4194304) : Calls Try.prog 58 #[.pointer (some ⟨x.f, 0, none⟩), .int .i64 (k : Nat)] w (FCut x k w) := by
  obtain ⟨f, p, c, b, s⟩ := x
  simp only [FBlk, Fl.v] at h ho hk hl
  have c0 := h.cell 0 rfl
  have hlt := h.lt
  obtain ⟨hc, hp⟩ := own_cap ho rfl
  have hsl := slice_pre_b p b.length c k hk hc hp
  have HC := Lib.hid (cloneB_any _ (b.take k) w (bs_pre ho hk) (by rw [List.length_take]; omega))
  have HH := Lib.hid h
  have HL : Hid ((b.take k).length = k) := Lib.hid (by rw [List.length_take]; omega)
  clear h ho hc hp hk hl
  go_enter Try.func58, Try.ntmps58
  go_wp2_with fail
  refine HC.out.mono ?_; rintro e w1 ⟨v, rfl, hO, b1⟩
  obtain ⟨p1, c1, rfl⟩ := hO.form
  have hK1 := HH.out.later b1
  have HO1 := Lib.hid hO
  have HB1 := Lib.hid b1
  rw [HL.out]
  have d0 := hK1.cell 0 rfl
  have d1 := hK1.cell 1 rfl
  have df := hK1.free 0
  have df1 := hK1.free 1
  have dl := hK1.lt
  have hK2 := setCell_block hK1 (o := 0) (by simp) (.slice p1 k c1)
  have HK2 : Hid (Blk (w1.setCell ⟨f, 0, none⟩ (.slice p1 k c1)) f 82 #[.slice p1 k c1, .int .i64 (s : Nat)]) := Lib.hid (by simpa using hK2)
  clear c0 hsl hO b1 hlt hK2 hK1
  have e1 := HK2.out.cell 1 rfl
  have e2 := HK2.out.free 1
  go_wp2_with fail
  go_end0
  have hm : ((min s k : Nat) : Int) = min (s : Int) (k : Int) := by omega
  have hK3 := setCell_block HK2.out (o := 1) (by simp) (.int .i64 (min (s : Int) (k : Int)))
  refine ⟨rfl, p1, c1, ?_, ?_, only_set10 (only_set10 (only_below HB1.out _))⟩
  · simp only [FBlk, Fl.v]
    rw [HL.out, hm]
    simpa using hK3
  · have h1 := HO1.out.setOther (g := f) (i := 0) (HH.out.later HB1.out) (by decide) (.slice p1 k c1)
    exact h1.setOther (g := f) (i := 1) HK2.out (by decide) _
end Go.Proofs.Ytnhdnmlclnndoaa.Gm
