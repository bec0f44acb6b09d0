/- Pages in memory; which items and pages may be. -/
import Derived.Test.YtkfheodcmhodpaaTc
set_option linter.unusedSimpArgs false
set_option linter.unusedVariables false
namespace Go.Proofs.Ytkfheodcmhodpaa.Gm
open Go Go.RowKit
attribute [local go_sem ↓] Go.wp_at_zero Go.wp_at_succ

theorem RowL.mono {α : Type} [Inhabited α] {enc : α → List Value} {n base base' : Nat} {w : World} {v : Value} {l : List α} (h : RowL enc n base w v l) (hb : base ≤ base') : RowL enc n base' w v l := by
  obtain ⟨p, cap, b, o, h1, h2, h3⟩ := h
  exact ⟨p, cap, b, o, h1, fun hl => ⟨(h2 hl).1, Nat.lt_of_lt_of_le (h2 hl).2 hb⟩, h3⟩
/-- Items in memory, gaps in memory. -/
def Its (w : World) (v : Value) (l : List Im) : Prop := RowL encI 4 w.heap.size w v l ∧ l.length ≤ 140737488355328 ∧ ∀ x ∈ l, Sl w x.av x.at_ ∧ Room x.at_ ∧ x.n < 18446744073709551616 ∧ x.t < 18446744073709551616
def Gps (w : World) (v : Value) (l : List Gp) : Prop := RowL encG 2 w.heap.size w v l ∧ l.length ≤ 140737488355328 ∧ ∀ x ∈ l, x.1 < 18446744073709551616 ∧ x.2 < 18446744073709551616
theorem Its.later {w w' : World} {v : Value} {l : List Im} (h : Its w v l) (hb : Below w.heap.size w w') : Its w' v l :=
  ⟨(h.1.below hb).mono hb.size, h.2.1, fun x hx => ⟨(h.2.2 x hx).1.below hb, (h.2.2 x hx).2⟩⟩
theorem Gps.later {w w' : World} {v : Value} {l : List Gp} (h : Gps w v l) (hb : Below w.heap.size w w') : Gps w' v l :=
  ⟨(h.1.below hb).mono hb.size, h.2⟩
theorem Its.at {w : World} {v : Value} {l : List Im} (h : Its w v l) {i : Nat} (hi : i < l.length) : Sl w (l.getD i default).av (l.getD i default).at_ ∧ Room (l.getD i default).at_ ∧ (l.getD i default).n < 18446744073709551616 ∧ (l.getD i default).t < 18446744073709551616 := h.2.2 _ (mem_getD hi)
theorem Gps.at {w : World} {v : Value} {l : List Gp} (h : Gps w v l) {i : Nat} (hi : i < l.length) : (l.getD i default).1 < 18446744073709551616 ∧ (l.getD i default).2 < 18446744073709551616 := h.2.2 _ (mem_getD hi)

/-- A page, its rows as they lie in memory. -/
structure Pm where
  fr : Nat
  en : Nat
  ip : Option Addr
  ic : Nat
  its : List Im
  gp : Option Addr
  gc : Nat
  gps : List Gp
  last : Bool
abbrev Pm.iv (p : Pm) : Value := .slice p.ip p.its.length p.ic
abbrev Pm.gv (p : Pm) : Value := .slice p.gp p.gps.length p.gc
abbrev pp (p : Pm) : Value := .agg #[.int .u64 p.fr, .int .u64 p.en, .slice p.ip p.its.length p.ic, .slice p.gp p.gps.length p.gc, .bool p.last]
def toPg (p : Pm) : Pg := (p.fr, p.en, p.its.map toIt, p.gps, p.last)
def PgIn (w : World) (p : Pm) : Prop := Its w p.iv p.its ∧ Gps w p.gv p.gps ∧ p.fr < 18446744073709551616 ∧ p.en < 18446744073709551616
theorem PgIn.later {w w' : World} {p : Pm} (h : PgIn w p) (hb : Below w.heap.size w w') : PgIn w' p := ⟨h.1.later hb, h.2.1.later hb, h.2.2⟩

/-- Which pages may be. -/
def itemsB (en : Nat) : Nat → List It → Bool
  | _, [] => true
  | least, x :: l => mayI x && (decide (least ≤ x.1) && (decide (x.1 < en) && itemsB en (x.1 + 1) l))
def gapsB (en : Nat) : Nat → List Gp → Bool
  | _, [] => true
  | least, g :: l => decide (least ≤ g.1) && (decide (g.1 ≤ g.2) && (decide (g.2 < en) && gapsB en (g.2 + 1) l))
def inB (g : Gp) (x : It) : Bool := decide (g.1 ≤ x.1) && decide (x.1 ≤ g.2)
def apartB (gs : List Gp) (l : List It) : Bool := gs.all fun g => l.all fun x => !inB g x
def spanB (f e : Nat) : Bool := decide (1 ≤ f) && (decide (f ≤ e) && decide (e ≤ 1099511627777))
def mayPg (p : Pg) : Bool := spanB p.1 p.2.1 && (decide (p.2.2.1.length ≤ 4) && itemsB p.2.1 p.1 p.2.2.1) && (decide (p.2.2.2.1.length ≤ 16) && gapsB p.2.1 p.1 p.2.2.2.1) && apartB p.2.2.2.1 p.2.2.1
theorem drop_next {α : Type} [Inhabited α] {l : List α} {k : Nat} (h : k < l.length) : l.drop k = l.getD k default :: l.drop (k + 1) := by
  rw [List.drop_eq_getElem_cons h, List.getD_eq_getElem?_getD, List.getElem?_eq_getElem h]
  rfl
theorem map_getD {l : List Im} {k : Nat} (h : k < l.length) : (l.map toIt).drop k = toIt (l.getD k default) :: (l.map toIt).drop (k + 1) := by
  rw [← List.map_drop, ← List.map_drop, drop_next h, List.map_cons]

set_option maxHeartbeats 4000000 in
set_option maxRecDepth 20000 in
theorem mc_item (n t : Nat) (key : ByteArray) (u : Value) (l : List Attr) (w : World) (hS : Sl w u l) (hR : Room l) : Calls Try.prog 28 #[iv n t key u] w (Gives (.bool (mayI (n, t, key, l))) w) := by
  have HM := Lib.hid (fun W (h : Below w.heap.size w W) => emay_any key u l W (hS.below h) hR)
  obtain ⟨p, cap, b, o, hv, _⟩ := hS
  subst hv
  have HB0 := Lib.hid (below_one w (.cells #[.int .u64 n, .int .u64 t, .string key, .slice p l.length cap] 51))
  have HE : Hid (mayI (n, t, key, l) = (decide (0 < n) && decide (n ≤ 1099511627776) && decide (t ≤ 1099511627776) && mayE key l)) := Lib.hid rfl
  rw [HE.out]
  clear HE hR
  generalize mayE key l = me at HM ⊢
  by_cases h1 : 0 < n
  · by_cases h2 : n ≤ 1099511627776
    · by_cases h3 : t ≤ 1099511627776
      · rw [decide_eq_true h1, decide_eq_true h2, decide_eq_true h3]
        have d1 : decide ((1 : Int) ≤ (n : Int)) = true := by simp; omega
        have d1' : decide (1 ≤ n) = true := by simp; omega
        have d2 : decide ((n : Int) ≤ (1099511627776 : Int)) = true := by simp; omega
        have d3 : decide ((t : Int) ≤ (1099511627776 : Int)) = true := by simp; omega
        clear h1 h2 h3
        go_enter Try.func28, Try.ntmps28
        go_wp2_with fail
        refine (HM.out _ HB0.out).mono ?_; rintro e w1 ⟨rfl, b1⟩
        have HB1 := Lib.hid (then_ HB0.out b1)
        clear b1
        go_wp2_with fail
        go_ret
        exact ⟨by simp, HB1.out⟩
      · rw [decide_eq_true h1, decide_eq_true h2, decide_eq_false h3]
        have d1 : decide ((1 : Int) ≤ (n : Int)) = true := by simp; omega
        have d1' : decide (1 ≤ n) = true := by simp; omega
        have d2 : decide ((n : Int) ≤ (1099511627776 : Int)) = true := by simp; omega
        have d3 : decide ((t : Int) ≤ (1099511627776 : Int)) = false := by simp; omega
        clear h1 h2 h3
        go_enter Try.func28, Try.ntmps28
        go_wp2_with fail
        go_ret
        exact ⟨by simp, HB0.out⟩
    · rw [decide_eq_true h1, decide_eq_false h2]
      have d1 : decide ((1 : Int) ≤ (n : Int)) = true := by simp; omega
      have d1' : decide (1 ≤ n) = true := by simp; omega
      have d2 : decide ((n : Int) ≤ (1099511627776 : Int)) = false := by simp; omega
      clear h1 h2
      go_enter Try.func28, Try.ntmps28
      go_wp2_with fail
      go_ret
      exact ⟨by simp, HB0.out⟩
  · rw [decide_eq_false h1]
    have d1 : decide ((1 : Int) ≤ (n : Int)) = false := by simp; omega
    have d1' : decide (1 ≤ n) = false := by simp; omega
    clear h1
    go_enter Try.func28, Try.ntmps28
    go_wp2_with fail
    go_ret
    exact ⟨by simp, HB0.out⟩

abbrev pcells (p : Pm) : Array Value := #[.int .u64 p.fr, .int .u64 p.en, .slice p.ip p.its.length p.ic, .slice p.gp p.gps.length p.gc, .bool p.last]
theorem below_two {w w1 : World} {o : Obj} (h : Below w.heap.size w w1) : Below w.heap.size w (w1.alloc o) := then_ h (below_one w1 o)
set_option maxHeartbeats 4000000 in
set_option maxRecDepth 20000 in
theorem mc_gaps (p : Pm) (w : World) (hG : Gps w p.gv p.gps) (hen : p.en < 18446744073709551616) : Calls Try.prog 72 #[pp p] w (Gives (.bool (decide (p.gps.length ≤ 16) && gapsB p.en p.fr p.gps)) w) := by
  obtain ⟨fr, en, ip, ic, its, gp, gc, l, last⟩ := p
  simp only [Pm.gv] at hG hen ⊢
  have HEn := Lib.hid hen
  clear hen
  have HB0 := Lib.hid (below_one w (.cells #[.int .u64 fr, .int .u64 en, .slice ip its.length ic, .slice gp l.length gc, .bool last] 64))
  have HK0 := Lib.hid (Blk.new w 64 #[.int .u64 fr, .int .u64 en, .slice ip its.length ic, .slice gp l.length gc, .bool last])
  have hbig := hG.2.1
  have HA := Lib.hid (fun i (hi : i < l.length) => hG.at hi)
  by_cases h16 : l.length ≤ 16
  · have d0 : decide ((16 : Int) < (l.length : Int)) = false := by simp; omega
    have d0' : decide (16 < l.length) = false := by simp; omega
    rw [decide_eq_true h16, Bool.true_and]
    obtain ⟨p0, cap0, b, o, hv, hp, hC⟩ := hG.1
    simp only [Value.slice.injEq, true_and] at hv
    obtain ⟨rfl, rfl⟩ := hv
    have HP := Lib.hid hp
    have HC := Lib.hid hC
    clear hp hC hG
    go_enter Try.func72, Try.ntmps72
    go_wp2_with fail
    go_loopw [3, 15] (fun lv iv wr => ∃ k ls : Nat, k ≤ l.length ∧ lv = .int .u64 ls ∧ iv = .int .i64 k ∧ Hid (gapsB en ls (l.drop k) = gapsB en fr l) ∧ Hid (Below w.heap.size w wr) ∧ Hid (Blk wr w.heap.size 64 #[.int .u64 fr, .int .u64 en, .slice ip its.length ic, .slice gp l.length gc, .bool last])) (fun _ iv _ => l.length - (intOf iv).toNat)
    case atStart => exact ⟨0, fr, Nat.zero_le _, rfl, rfl, Lib.hid rfl, HB0, HK0⟩
    case round =>
      obtain ⟨k, ls, hk, rfl, rfl, HS, HB, HK⟩ := hrel
      have p1 := HK.out.cell 1 rfl
      by_cases hkl : k < l.length
      · have hne : l ≠ [] := by rintro rfl; simp at hkl
        obtain ⟨hq, hb1⟩ := HP.out hne
        have hidx := idx_g gp b o l.length gc k hq hkl
        have hcl := fun (j : Nat) => HB.out.cell (p := ⟨b, j, none⟩) hb1
        have e0 : w.cell? ⟨b, o + k * 2, none⟩ = some (.int .u64 (l.getD k default).1) := HC.out k hkl 0 _ rfl
        have e1 : w.cell? ⟨b, o + k * 2 + 1, none⟩ = some (.int .u64 (l.getD k default).2) := HC.out k hkl 1 _ rfl
        have hrg := HA.out k hkl
        have HS2 : Hid (gapsB en ls (l.getD k default :: l.drop (k + 1)) = gapsB en fr l) := Lib.hid (by rw [← drop_next hkl]; exact HS.out)
        obtain ⟨x, hx⟩ : ∃ x, l.getD k default = x := ⟨_, rfl⟩
        rw [hx] at e0 e1 hrg HS2
        rw [← hcl] at e0 e1
        obtain ⟨g1, g2⟩ := x
        simp only at e0 e1 hrg
        have HS3 : Hid (gapsB en fr l = (decide (ls ≤ g1) && (decide (g1 ≤ g2) && (decide (g2 < en) && gapsB en (g2 + 1) (l.drop (k + 1)))))) := Lib.hid HS2.out.symm
        have B1 := Lib.hid (then_ HB.out (below_one wr (.cells #[.int .u64 g1, .int .u64 g2] 83)))
        have K1 := Lib.hid (HK.out.alloc (.cells #[.int .u64 g1, .int .u64 g2] 83))
        have p1' := K1.out.cell 1 rfl
        clear hx hcl hne hq hb1 HS HS2
        by_cases a1 : ls ≤ g1
        · have t1 : decide ((g1 : Int) < (ls : Int)) = false := by simp; omega
          have t1' : decide (g1 < ls) = false := by simp; omega
          by_cases a2 : g1 ≤ g2
          · have t2 : decide ((g2 : Int) < (g1 : Int)) = false := by simp; omega
            have t2' : decide (g2 < g1) = false := by simp; omega
            by_cases a3 : g2 < en
            · have t3 : decide ((en : Int) ≤ (g2 : Int)) = false := by simp; omega
              have t3' : decide (en ≤ g2) = false := by simp; omega
              have hw : IntKind.u64.wrap ((g2 : Int) + 1) = ((g2 + 1 : Nat) : Int) := by rw [IntKind.wrap_u64]; have := HEn.out; omega
              have HG : Hid (gapsB en (g2 + 1) (l.drop (k + 1)) = gapsB en fr l) := Lib.hid (by rw [HS3.out, decide_eq_true a1, decide_eq_true a2, decide_eq_true a3]; rfl)
              clear a1 a2 a3
              go_wp2_with fail
              go_roundw
              case rel => exact ⟨k + 1, g2 + 1, by omega, by first | rfl | simp, by simp, HG, B1, K1⟩
              case measure => simp [intOf]; omega
            · have t3 : decide ((en : Int) ≤ (g2 : Int)) = true := by simp; omega
              have t3' : decide (en ≤ g2) = true := by simp; omega
              have HG : Hid (false = gapsB en fr l) := Lib.hid (by rw [HS3.out, decide_eq_false a3, Bool.false_and, Bool.and_false, Bool.and_false])
              clear a1 a2 a3
              go_wp2_with fail
              go_ret
              exact ⟨ret_bool HG.out, B1.out⟩
          · have t2 : decide ((g2 : Int) < (g1 : Int)) = true := by simp; omega
            have t2' : decide (g2 < g1) = true := by simp; omega
            have HG : Hid (false = gapsB en fr l) := Lib.hid (by rw [HS3.out, decide_eq_false a2, Bool.false_and, Bool.and_false])
            clear a1 a2
            go_wp2_with fail
            go_ret
            exact ⟨ret_bool HG.out, B1.out⟩
        · have t1 : decide ((g1 : Int) < (ls : Int)) = true := by simp; omega
          have t1' : decide (g1 < ls) = true := by simp; omega
          have HG : Hid (false = gapsB en fr l) := Lib.hid (by rw [HS3.out, decide_eq_false a1, Bool.false_and])
          clear a1
          go_wp2_with fail
          go_ret
          exact ⟨ret_bool HG.out, B1.out⟩
      · have hke : k = l.length := by omega
        subst hke
        have HG : Hid (true = gapsB en fr l) := Lib.hid (by rw [← HS.out, List.drop_length]; rfl)
        go_wp2_with fail
        go_ret
        exact ⟨ret_bool HG.out, HB.out⟩
  · have d0 : decide ((16 : Int) < (l.length : Int)) = true := by simp; omega
    have d0' : decide (16 < l.length) = true := by simp; omega
    rw [decide_eq_false h16, Bool.false_and]
    clear hG h16
    go_enter Try.func72, Try.ntmps72
    go_wp2_with fail
    go_ret
    exact ⟨rfl, HB0.out⟩
set_option maxHeartbeats 4000000 in
set_option maxRecDepth 20000 in
theorem mc_items (p : Pm) (w : World) (hG : Its w p.iv p.its) (hen : p.en < 18446744073709551616) : Calls Try.prog 71 #[pp p] w (Gives (.bool (decide (p.its.length ≤ 4) && itemsB p.en p.fr (p.its.map toIt))) w) := by
  obtain ⟨fr, en, ip, ic, l, gp, gc, gps, last⟩ := p
  simp only [Pm.iv] at hG hen ⊢
  have HEn := Lib.hid hen
  clear hen
  have HB0 := Lib.hid (below_one w (.cells #[.int .u64 fr, .int .u64 en, .slice ip l.length ic, .slice gp gps.length gc, .bool last] 64))
  have HK0 := Lib.hid (Blk.new w 64 #[.int .u64 fr, .int .u64 en, .slice ip l.length ic, .slice gp gps.length gc, .bool last])
  have hbig := hG.2.1
  have HA := Lib.hid (fun i (hi : i < l.length) => hG.at hi)
  by_cases h16 : l.length ≤ 4
  · have d0 : decide ((4 : Int) < (l.length : Int)) = false := by simp; omega
    have d0' : decide (4 < l.length) = false := by simp; omega
    rw [decide_eq_true h16, Bool.true_and]
    obtain ⟨p0, cap0, b, o, hv, hp, hC⟩ := hG.1
    simp only [Value.slice.injEq, true_and] at hv
    obtain ⟨rfl, rfl⟩ := hv
    have HP := Lib.hid hp
    have HC := Lib.hid hC
    clear hp hC hG
    go_enter Try.func71, Try.ntmps71
    go_wp2_with fail
    go_loopw [3, 15] (fun lv iv wr => ∃ k ls : Nat, k ≤ l.length ∧ lv = .int .u64 ls ∧ iv = .int .i64 k ∧ Hid (itemsB en ls ((l.map toIt).drop k) = itemsB en fr (l.map toIt)) ∧ Hid (Below w.heap.size w wr) ∧ Hid (Blk wr w.heap.size 64 #[.int .u64 fr, .int .u64 en, .slice ip l.length ic, .slice gp gps.length gc, .bool last])) (fun _ iv _ => l.length - (intOf iv).toNat)
    case atStart => exact ⟨0, fr, Nat.zero_le _, rfl, rfl, Lib.hid rfl, HB0, HK0⟩
    case round =>
      obtain ⟨k, ls, hk, rfl, rfl, HS, HB, HK⟩ := hrel
      have p1 := HK.out.cell 1 rfl
      by_cases hkl : k < l.length
      · have hne : l ≠ [] := by rintro rfl; simp at hkl
        obtain ⟨hq, hb1⟩ := HP.out hne
        have hidx := idx_i ip b o l.length ic k hq hkl
        have hcl := fun (j : Nat) => HB.out.cell (p := ⟨b, j, none⟩) hb1
        have e0 : w.cell? ⟨b, o + k * 4, none⟩ = some (.int .u64 (l.getD k default).n) := HC.out k hkl 0 _ rfl
        have e1 : w.cell? ⟨b, o + k * 4 + 1, none⟩ = some (.int .u64 (l.getD k default).t) := HC.out k hkl 1 _ rfl
        have e2 : w.cell? ⟨b, o + k * 4 + 2, none⟩ = some (.string (l.getD k default).key) := HC.out k hkl 2 _ rfl
        have e3 : w.cell? ⟨b, o + k * 4 + 3, none⟩ = some (.slice (l.getD k default).ap (l.getD k default).at_.length (l.getD k default).ac) := HC.out k hkl 3 _ rfl
        have hrg := HA.out k hkl
        have HS2 : Hid (itemsB en ls (toIt (l.getD k default) :: (l.map toIt).drop (k + 1)) = itemsB en fr (l.map toIt)) := Lib.hid (by rw [← map_getD hkl]; exact HS.out)
        obtain ⟨x, hx⟩ : ∃ x, l.getD k default = x := ⟨_, rfl⟩
        rw [hx] at e0 e1 e2 e3 hrg HS2
        rw [← hcl] at e0 e1 e2 e3
        obtain ⟨g1, gt, key, ap, ac, at_⟩ := x
        simp only at e0 e1 e2 e3
        have hrg2 : g1 < 18446744073709551616 ∧ gt < 18446744073709551616 := hrg.2.2
        have HMi := Lib.hid (fun W (h : Below w.heap.size w W) => mc_item g1 gt key (.slice ap at_.length ac) at_ W (hrg.1.below h) hrg.2.1)
        have HS3 : Hid (itemsB en fr (l.map toIt) = (mayI (g1, gt, key, at_) && (decide (ls ≤ g1) && (decide (g1 < en) && itemsB en (g1 + 1) ((l.map toIt).drop (k + 1)))))) := Lib.hid HS2.out.symm
        have B1 := Lib.hid (then_ HB.out (below_one wr (.cells #[.int .u64 g1, .int .u64 gt, .string key, .slice ap at_.length ac] 51)))
        have K1 := Lib.hid (HK.out.alloc (.cells #[.int .u64 g1, .int .u64 gt, .string key, .slice ap at_.length ac] 51))
        have X1 := Lib.hid (Blk.new wr 51 #[.int .u64 g1, .int .u64 gt, .string key, .slice ap at_.length ac])
        obtain ⟨me, hme⟩ : ∃ me, mayI (g1, gt, key, at_) = me := ⟨_, rfl⟩
        rw [hme] at HMi HS3
        clear hx hcl hne hq hb1 HS HS2 hme hrg
        go_wp2_with fail
        refine (HMi.out _ B1.out).mono ?_; rintro e w2 ⟨rfl, b2⟩
        have B2 := Lib.hid (then_ B1.out b2)
        have K2 := Lib.hid (K1.out.later b2)
        have X2 := Lib.hid (X1.out.later b2)
        have p1' := K2.out.cell 1 rfl
        have x0 := X2.out.cell 0 rfl
        clear b2 e0 e1 e2 e3 p1
        cases me
        · have HG : Hid (false = itemsB en fr (l.map toIt)) := Lib.hid (by rw [HS3.out, Bool.false_and])
          go_wp2_with fail
          go_ret
          exact ⟨ret_bool HG.out, B2.out⟩
        have HS3 : Hid (itemsB en fr (l.map toIt) = (decide (ls ≤ g1) && (decide (g1 < en) && itemsB en (g1 + 1) ((l.map toIt).drop (k + 1))))) := Lib.hid (by rw [HS3.out, Bool.true_and])
        by_cases a1 : ls ≤ g1
        · have t1 : decide ((g1 : Int) < (ls : Int)) = false := by simp; omega
          have t1' : decide (g1 < ls) = false := by simp; omega
          by_cases a3 : g1 < en
          · have t3 : decide ((en : Int) ≤ (g1 : Int)) = false := by simp; omega
            have t3' : decide (en ≤ g1) = false := by simp; omega
            have hw : IntKind.u64.wrap ((g1 : Int) + 1) = ((g1 + 1 : Nat) : Int) := by rw [IntKind.wrap_u64]; have := HEn.out; omega
            have HG : Hid (itemsB en (g1 + 1) ((l.map toIt).drop (k + 1)) = itemsB en fr (l.map toIt)) := Lib.hid (by rw [HS3.out, decide_eq_true a1, decide_eq_true a3]; rfl)
            clear a1 a3
            go_wp2_with fail
            go_roundw
            case rel => exact ⟨k + 1, g1 + 1, by omega, by first | rfl | simp, by simp, HG, B2, K2⟩
            case measure => simp [intOf]; omega
          · have t3 : decide ((en : Int) ≤ (g1 : Int)) = true := by simp; omega
            have t3' : decide (en ≤ g1) = true := by simp; omega
            have HG : Hid (false = itemsB en fr (l.map toIt)) := Lib.hid (by rw [HS3.out, decide_eq_false a3, Bool.false_and, Bool.and_false])
            clear a1 a3
            go_wp2_with fail
            go_ret
            exact ⟨ret_bool HG.out, B2.out⟩
        · have t1 : decide ((g1 : Int) < (ls : Int)) = true := by simp; omega
          have t1' : decide (g1 < ls) = true := by simp; omega
          have HG : Hid (false = itemsB en fr (l.map toIt)) := Lib.hid (by rw [HS3.out, decide_eq_false a1, Bool.false_and])
          clear a1
          go_wp2_with fail
          go_ret
          exact ⟨ret_bool HG.out, B2.out⟩
      · have hke : k = l.length := by omega
        subst hke
        have HG : Hid (true = itemsB en fr (l.map toIt)) := Lib.hid (by rw [← HS.out, ← List.map_drop, List.drop_length]; rfl)
        go_wp2_with fail
        go_ret
        exact ⟨ret_bool HG.out, HB.out⟩
  · have d0 : decide ((4 : Int) < (l.length : Int)) = true := by simp; omega
    have d0' : decide (4 < l.length) = true := by simp; omega
    rw [decide_eq_false h16, Bool.false_and]
    clear hG h16
    go_enter Try.func71, Try.ntmps71
    go_wp2_with fail
    go_ret
    exact ⟨rfl, HB0.out⟩
theorem apart_step {g : Gp} {gs : List Gp} {l : List It} : apartB (g :: gs) l = ((l.all fun x => !inB g x) && apartB gs l) := rfl
set_option maxHeartbeats 4000000 in
set_option maxRecDepth 20000 in
theorem mc_apart (p : Pm) (w : World) (hG : Gps w p.gv p.gps) (hI : Its w p.iv p.its) : Calls Try.prog 73 #[pp p] w (Gives (.bool (apartB p.gps (p.its.map toIt))) w) := by
  obtain ⟨fr, en, ip, ic, its, gp, gc, l, last⟩ := p
  simp only [Pm.gv, Pm.iv] at hG hI ⊢
  have HB0 := Lib.hid (below_one w (.cells #[.int .u64 fr, .int .u64 en, .slice ip its.length ic, .slice gp l.length gc, .bool last] 64))
  have HK0 := Lib.hid (Blk.new w 64 #[.int .u64 fr, .int .u64 en, .slice ip its.length ic, .slice gp l.length gc, .bool last])
  have hbig := hG.2.1
  have hbigI := hI.2.1
  obtain ⟨p0, cap0, b, o, hv, hp, hC⟩ := hG.1
  simp only [Value.slice.injEq, true_and] at hv
  obtain ⟨rfl, rfl⟩ := hv
  obtain ⟨p0, cap0, bi, oi, hv, hpi, hCi⟩ := hI.1
  simp only [Value.slice.injEq, true_and] at hv
  obtain ⟨rfl, rfl⟩ := hv
  have HP := Lib.hid hp
  have HC := Lib.hid hC
  have HPi := Lib.hid hpi
  have HCi := Lib.hid hCi
  clear hp hC hG hpi hCi hI
  go_enter Try.func73, Try.ntmps73
  go_wp2_with fail
  go_loopw [10] (fun iv wr => ∃ k : Nat, k ≤ l.length ∧ iv = .int .i64 k ∧ Hid (apartB (l.drop k) (its.map toIt) = apartB l (its.map toIt)) ∧ Hid (Below w.heap.size w wr) ∧ Hid (Blk wr w.heap.size 64 #[.int .u64 fr, .int .u64 en, .slice ip its.length ic, .slice gp l.length gc, .bool last])) (fun iv _ => l.length - (intOf iv).toNat)
  case atStart => exact ⟨0, Nat.zero_le _, rfl, Lib.hid rfl, HB0, HK0⟩
  case round =>
    obtain ⟨k, hk, rfl, HS, HB, HK⟩ := hrel
    by_cases hkl : k < l.length
    · have hne : l ≠ [] := by rintro rfl; simp at hkl
      obtain ⟨hq, hb1⟩ := HP.out hne
      have hidx := idx_g gp b o l.length gc k hq hkl
      have hcl := fun (j : Nat) => HB.out.cell (p := ⟨b, j, none⟩) hb1
      have e0 : w.cell? ⟨b, o + k * 2, none⟩ = some (.int .u64 (l.getD k default).1) := HC.out k hkl 0 _ rfl
      have e1 : w.cell? ⟨b, o + k * 2 + 1, none⟩ = some (.int .u64 (l.getD k default).2) := HC.out k hkl 1 _ rfl
      have HS2 : Hid (apartB (l.getD k default :: l.drop (k + 1)) (its.map toIt) = apartB l (its.map toIt)) := Lib.hid (by rw [← drop_next hkl]; exact HS.out)
      obtain ⟨x, hx⟩ : ∃ x, l.getD k default = x := ⟨_, rfl⟩
      rw [hx] at e0 e1 HS2
      rw [← hcl] at e0 e1
      obtain ⟨g1, g2⟩ := x
      simp only at e0 e1
      have HS3 : Hid (apartB l (its.map toIt) = (((its.map toIt).all fun x => !inB (g1, g2) x) && apartB (l.drop (k + 1)) (its.map toIt))) := Lib.hid HS2.out.symm
      have B1 := Lib.hid (then_ HB.out (below_one wr (.cells #[.int .u64 g1, .int .u64 g2] 83)))
      have K1 := Lib.hid (HK.out.alloc (.cells #[.int .u64 g1, .int .u64 g2] 83))
      have G1 := Lib.hid (Blk.new wr 83 #[.int .u64 g1, .int .u64 g2])
      have p2 := K1.out.cell 2 rfl
      clear hx hcl hne hq hb1 HS HS2
      obtain ⟨wb, rfl⟩ : ∃ wb, wb = wr := ⟨_, rfl⟩
      go_wp2_with fail
      go_loopw [17] (fun iv wr => ∃ m : Nat, m ≤ its.length ∧ iv = .int .i64 m ∧ Hid ((((its.map toIt).drop m).all fun x => !inB (g1, g2) x) = ((its.map toIt).all fun x => !inB (g1, g2) x)) ∧ Hid (Below w.heap.size w wr) ∧ Hid (Blk wr w.heap.size 64 #[.int .u64 fr, .int .u64 en, .slice ip its.length ic, .slice gp l.length gc, .bool last]) ∧ Hid (Blk wr wb.heap.size 83 #[.int .u64 g1, .int .u64 g2])) (fun iv _ => its.length - (intOf iv).toNat)
      case atStart => exact ⟨0, Nat.zero_le _, rfl, Lib.hid rfl, B1, K1, G1⟩
      case round =>
        obtain ⟨m, hm, rfl, HT, HB2, HK2, HG2⟩ := hrel
        by_cases hml : m < its.length
        · have hne : its ≠ [] := by rintro rfl; simp at hml
          obtain ⟨hq, hb1⟩ := HPi.out hne
          have hidx := idx_i ip bi oi its.length ic m hq hml
          have hcl := fun (j : Nat) => HB2.out.cell (p := ⟨bi, j, none⟩) hb1
          have i0 : w.cell? ⟨bi, oi + m * 4, none⟩ = some (.int .u64 (its.getD m default).n) := HCi.out m hml 0 _ rfl
          have i1 : w.cell? ⟨bi, oi + m * 4 + 1, none⟩ = some (.int .u64 (its.getD m default).t) := HCi.out m hml 1 _ rfl
          have i2 : w.cell? ⟨bi, oi + m * 4 + 2, none⟩ = some (.string (its.getD m default).key) := HCi.out m hml 2 _ rfl
          have i3 : w.cell? ⟨bi, oi + m * 4 + 3, none⟩ = some (.slice (its.getD m default).ap (its.getD m default).at_.length (its.getD m default).ac) := HCi.out m hml 3 _ rfl
          have HT2 : Hid (((toIt (its.getD m default) :: (its.map toIt).drop (m + 1)).all fun x => !inB (g1, g2) x) = ((its.map toIt).all fun x => !inB (g1, g2) x)) := Lib.hid (by rw [← map_getD hml]; exact HT.out)
          obtain ⟨y, hy⟩ : ∃ y, its.getD m default = y := ⟨_, rfl⟩
          rw [hy] at i0 i1 i2 i3 HT2
          rw [← hcl] at i0 i1 i2 i3
          obtain ⟨n, t, key, ap, ac, at_⟩ := y
          simp only at i0 i1 i2 i3
          have HT3 : Hid (((its.map toIt).all fun x => !inB (g1, g2) x) = (!(decide (g1 ≤ n) && decide (n ≤ g2)) && (((its.map toIt).drop (m + 1)).all fun x => !inB (g1, g2) x))) := Lib.hid HT2.out.symm
          have B3 := Lib.hid (then_ HB2.out (below_one wr (.cells #[.int .u64 n, .int .u64 t, .string key, .slice ap at_.length ac] 51)))
          have K3 := Lib.hid (HK2.out.alloc (.cells #[.int .u64 n, .int .u64 t, .string key, .slice ap at_.length ac] 51))
          have G3 := Lib.hid (HG2.out.alloc (.cells #[.int .u64 n, .int .u64 t, .string key, .slice ap at_.length ac] 51))
          have q0 := G3.out.cell 0 rfl
          have q1 := G3.out.cell 1 rfl
          clear hy hcl hne hq hb1 HT HT2 e0 e1 p2
          by_cases a1 : g1 ≤ n
          · have t1 : decide ((g1 : Int) ≤ (n : Int)) = true := by simp; omega
            have t1' : decide (g1 ≤ n) = true := by simp; omega
            by_cases a2 : n ≤ g2
            · have t2 : decide ((n : Int) ≤ (g2 : Int)) = true := by simp; omega
              have t2' : decide (n ≤ g2) = true := by simp; omega
              have HG : Hid (false = apartB l (its.map toIt)) := Lib.hid (by rw [HS3.out, HT3.out, decide_eq_true a1, decide_eq_true a2]; rfl)
              clear a1 a2
              go_wp2_with fail
              go_ret
              exact ⟨ret_bool HG.out, B3.out⟩
            · have t2 : decide ((n : Int) ≤ (g2 : Int)) = false := by simp; omega
              have t2' : decide (n ≤ g2) = false := by simp; omega
              have HG : Hid ((((its.map toIt).drop (m + 1)).all fun x => !inB (g1, g2) x) = ((its.map toIt).all fun x => !inB (g1, g2) x)) := Lib.hid (by rw [HT3.out, decide_eq_false a2, Bool.and_false]; rfl)
              clear a1 a2
              go_wp2_with fail
              go_roundw
              case rel => exact ⟨m + 1, by omega, by simp, HG, B3, K3, G3⟩
              case measure => simp [intOf]; omega
          · have t1 : decide ((g1 : Int) ≤ (n : Int)) = false := by simp; omega
            have t1' : decide (g1 ≤ n) = false := by simp; omega
            have HG : Hid ((((its.map toIt).drop (m + 1)).all fun x => !inB (g1, g2) x) = ((its.map toIt).all fun x => !inB (g1, g2) x)) := Lib.hid (by rw [HT3.out, decide_eq_false a1, Bool.false_and]; rfl)
            clear a1
            go_wp2_with fail
            go_roundw
            case rel => exact ⟨m + 1, by omega, by simp, HG, B3, K3, G3⟩
            case measure => simp [intOf]; omega
        · have hme : m = its.length := by omega
          subst hme
          have HG : Hid (apartB (l.drop (k + 1)) (its.map toIt) = apartB l (its.map toIt)) := Lib.hid (by
            have h := HT.out
            rw [← List.map_drop, List.drop_length] at h
            rw [HS3.out, ← h]; rfl)
          clear e0 e1 p2
          go_wp2_with fail
          go_roundw
          case rel => exact ⟨k + 1, by omega, by simp, HG, HB2, HK2⟩
          case measure => simp [intOf]; omega
    · have hke : k = l.length := by omega
      subst hke
      have HG : Hid (true = apartB l (its.map toIt)) := Lib.hid (by rw [← HS.out, List.drop_length]; rfl)
      go_wp2_with fail
      go_ret
      exact ⟨ret_bool HG.out, HB.out⟩
set_option maxHeartbeats 4000000 in
set_option maxRecDepth 20000 in
theorem mc_page (p : Pm) (w : World) (hP : PgIn w p) : Calls Try.prog 34 #[pp p] w (Gives (.bool (mayPg (toPg p))) w) := by
  have HIt := Lib.hid (fun W (h : Below w.heap.size w W) => mc_items p W (hP.1.later h) hP.2.2.2)
  have HGp := Lib.hid (fun W (h : Below w.heap.size w W) => mc_gaps p W (hP.2.1.later h) hP.2.2.2)
  have HAp := Lib.hid (fun W (h : Below w.heap.size w W) => mc_apart p W (hP.2.1.later h) (hP.1.later h))
  have HE : Hid (mayPg (toPg p) = (spanB p.fr p.en && (decide (p.its.length ≤ 4) && itemsB p.en p.fr (p.its.map toIt)) && (decide (p.gps.length ≤ 16) && gapsB p.en p.fr p.gps) && apartB p.gps (p.its.map toIt))) := Lib.hid (by
    have e : (p.its.map toIt).length = p.its.length := List.length_map ..
    show (_ && (decide ((p.its.map toIt).length ≤ 4) && _) && _ && _) = _
    rw [e]; rfl)
  rw [HE.out]
  clear HE
  generalize (decide (p.its.length ≤ 4) && itemsB p.en p.fr (p.its.map toIt)) = x1 at HIt ⊢
  generalize (decide (p.gps.length ≤ 16) && gapsB p.en p.fr p.gps) = x2 at HGp ⊢
  generalize apartB p.gps (p.its.map toIt) = x3 at HAp ⊢
  obtain ⟨fr, en, ip, ic, its, gp, gc, l, last⟩ := p
  have hf1 : fr < 18446744073709551616 := hP.2.2.1
  have hf2 : en < 18446744073709551616 := hP.2.2.2
  clear hP
  simp only at HIt HGp HAp ⊢
  have HB0 := Lib.hid (below_one w (.cells #[.int .u64 fr, .int .u64 en, .slice ip its.length ic, .slice gp l.length gc, .bool last] 64))
  have HK0 := Lib.hid (Blk.new w 64 #[.int .u64 fr, .int .u64 en, .slice ip its.length ic, .slice gp l.length gc, .bool last])
  by_cases a1 : 1 ≤ fr
  · have t1 : decide ((1 : Int) ≤ (fr : Int)) = true := by simp; omega
    have t1' : decide (1 ≤ fr) = true := by simp; omega
    by_cases a2 : fr ≤ en
    · have t2 : decide ((fr : Int) ≤ (en : Int)) = true := by simp; omega
      have t2' : decide (fr ≤ en) = true := by simp; omega
      by_cases a3 : en ≤ 1099511627777
      · have t3 : decide ((en : Int) ≤ (1099511627777 : Int)) = true := by simp; omega
        have t3' : decide (en ≤ 1099511627777) = true := by simp; omega
        have hsp : spanB fr en = true := by unfold spanB; rw [t1', t2', t3']; rfl
        rw [hsp]
        clear a1 a2 a3 hsp
        go_enter Try.func34, Try.ntmps34
        go_wp2_with fail
        refine (HIt.out _ HB0.out).mono ?_; rintro e w1 ⟨rfl, b1⟩
        have HB1 := Lib.hid (then_ HB0.out b1)
        have HK1 := Lib.hid (HK0.out.later b1)
        have c0 := HK1.out.cell 0 rfl
        have c1 := HK1.out.cell 1 rfl
        have c2 := HK1.out.cell 2 rfl
        have c3 := HK1.out.cell 3 rfl
        have c4 := HK1.out.cell 4 rfl
        clear b1
        cases x1
        · go_wp2_with fail
          go_ret
          exact ⟨by simp, HB1.out⟩
        go_wp2_with fail
        refine (HGp.out _ HB1.out).mono ?_; rintro e w2 ⟨rfl, b2⟩
        have HB2 := Lib.hid (then_ HB1.out b2)
        have HK2 := Lib.hid (HK1.out.later b2)
        have d0 := HK2.out.cell 0 rfl
        have d1 := HK2.out.cell 1 rfl
        have d2 := HK2.out.cell 2 rfl
        have d3 := HK2.out.cell 3 rfl
        have d4 := HK2.out.cell 4 rfl
        clear b2
        cases x2
        · go_wp2_with fail
          go_ret
          exact ⟨by simp, HB2.out⟩
        go_wp2_with fail
        refine (HAp.out _ HB2.out).mono ?_; rintro e w3 ⟨rfl, b3⟩
        have HB3 := Lib.hid (then_ HB2.out b3)
        clear b3
        go_wp2_with fail
        go_ret
        exact ⟨by simp, HB3.out⟩
      · have t3 : decide ((en : Int) ≤ (1099511627777 : Int)) = false := by simp; omega
        have t3' : decide (en ≤ 1099511627777) = false := by simp; omega
        have hsp : spanB fr en = false := by unfold spanB; rw [t1', t2', t3']; rfl
        rw [hsp]
        clear a1 a2 a3 hsp
        go_enter Try.func34, Try.ntmps34
        go_wp2_with fail
        go_ret
        exact ⟨by simp, HB0.out⟩
    · have t2 : decide ((fr : Int) ≤ (en : Int)) = false := by simp; omega
      have t2' : decide (fr ≤ en) = false := by simp; omega
      have hsp : spanB fr en = false := by unfold spanB; rw [t1', t2']; rfl
      rw [hsp]
      clear a1 a2 hsp
      go_enter Try.func34, Try.ntmps34
      go_wp2_with fail
      go_ret
      exact ⟨by simp, HB0.out⟩
  · have t1 : decide ((1 : Int) ≤ (fr : Int)) = false := by simp; omega
    have t1' : decide (1 ≤ fr) = false := by simp; omega
    have hsp : spanB fr en = false := by unfold spanB; rw [t1']; rfl
    rw [hsp]
    clear a1 hsp
    go_enter Try.func34, Try.ntmps34
    go_wp2_with fail
    go_ret
    exact ⟨by simp, HB0.out⟩
end Go.Proofs.Ytkfheodcmhodpaa.Gm
