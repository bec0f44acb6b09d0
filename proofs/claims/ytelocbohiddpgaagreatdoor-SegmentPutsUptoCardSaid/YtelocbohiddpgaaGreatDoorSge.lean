/- Layer 12: which record bytes are the body of: record. -/
import Derived.Test.YtelocbohiddpgaaGreatDoorWy
import Derived.Deep.RegionWith
import Derived.Test.YtelocbohiddpgaaGreatDoorSgd
import Derived.Test.YtelocbohiddpgaaGreatDoorFmd
/- The contract of the program's reader: Left. -/
set_option linter.unusedSimpArgs false
set_option linter.unusedVariables false
namespace Go.Proofs.YtelocbohiddpgaaGreatDoor
open Go.RowKit Gm
attribute [local go_sem ↓] Go.wp_at_zero Go.wp_at_succ

theorem wleft_any (F : List Nat) (r : Value) (L : List UInt8) (w : World) (hR : RdW w F r L) : Calls Tryz.prog 94 #[r] w (Gives (.int .i64 (L.length : Nat)) w) := by
  obtain ⟨R, b, v, rfl, hF, h1, h2, h3, h4, h5, h6⟩ := hR
  obtain ⟨p, cap, rfl⟩ := h2.form
  have HIs := Lib.hid (wis_any R _ _ h1)
  have c1 := h1.cell 1 (u := .slice p L.length cap) rfl
  clear h1 h2 h3 h4 h5
  go_enter Tryz.func94, Tryz.ntmps94
  go_wp2_with fail
  refine HIs.out.mono ?_; rintro e w1 ⟨rfl, rfl⟩
  go_wp2_with fail
  go_ret
  exact ⟨rfl, Below.refl _ _⟩
end Go.Proofs.YtelocbohiddpgaaGreatDoor
set_option linter.unusedSimpArgs false
set_option linter.unusedVariables false
namespace Go.Proofs.YtelocbohiddpgaaGreatDoor.Crc
open Go Go.RowKit Gm
attribute [local go_sem ↓] Go.wp_at_zero Go.wp_at_succ

/-- Bytes from a place on, as a slice: in whatever world they read. -/
theorem slice_fromW {w : World} {v : Value} {L : List UInt8} (hB : Bs w v L) {k : Nat} (hk : k ≤ L.length) (hl : L.length ≤ maxTk) : ∃ p c, (∀ W, (Instr.slice 23 v (some (.int .i64 (k : Int))) none none).run Tryz.prog W = .ok (.slice p (L.length - k) c) W) ∧ ∀ W, Bs W v L → Bs W (.slice p (L.length - k) c) (L.drop k) := by
  rcases hB with ⟨rfl, rfl⟩ | ⟨a, cap, rfl, h2, h3⟩
  · obtain rfl : k = 0 := by simpa using hk
    exact ⟨none, 0, fun W => by go_simp, fun W _ => Bs.nil W⟩
  · refine ⟨if cap = k then some a else some (a.add k), cap - k, fun W => ?_, fun W hW => Bs.drop hW hk rfl⟩
    generalize L.length = m at *
    have h4 : (k : Int) ≤ (cap : Int) := by omega
    have h5 : k ≤ cap := by omega
    have h6 : ¬ ((m : Int) < (k : Int)) := by omega
    have h7 : ¬ (cap < m) := by omega
    have h8 : k * 1 = k := Nat.mul_one k
    by_cases hc : cap = k
    · have h9 : (cap : Int) = (k : Int) := by omega
      go_simp
    · have h9 : ¬ ((cap : Int) = (k : Int)) := by omega
      go_simp
theorem two_set {w : World} {g : Nat} {t : TypeId} {a b : Value} (h : Blk w g t #[a, b]) (x y : Value) : Blk ((w.setCell ⟨g, 0, none⟩ x).setCell ⟨g, 1, none⟩ y) g t #[x, y] := blk_set (blk_set h x) y
theorem set2_below {w0 w : World} {B g : Nat} (h : Below B w0 w) (hg : B ≤ g) (x y : Value) : Below B w0 ((w.setCell ⟨g, 0, none⟩ x).setCell ⟨g, 1, none⟩ y) := (h.setCell (p := ⟨g, 0, none⟩) hg x).setCell (p := ⟨g, 1, none⟩) hg y
/-- What record answers. -/
def RecordR (b : List UInt8) (v : Value) (w : World) (e : Ending) (w' : World) : Prop := Below w.heap.size w w' ∧ ((recOf b = none ∧ e = .returned (.tuple #[recV 0 (.slice none 0 0), .bool false])) ∨ ∃ r p c, recOf b = some r ∧ e = .returned (.tuple #[recV r.n (.slice p r.d.length c), .bool true]) ∧ ∀ W, Bs W v b → Bs W (.slice p r.d.length c) r.d)
set_option maxHeartbeats 4000000 in
set_option maxRecDepth 100000 in
theorem record_any (v : Value) (b : List UInt8) (hb : b.length ≤ 2048) (w : World) (hP : PartsIs w) (hB : Bs w v b) : Calls Tryz.prog 69 #[v] w (RecordR b v w) := by
  have hbk : b.length ≤ 140737488355328 := by omega
  have B0 := below_one w (.cells #[.int .u64 0, .slice none 0 0] 30)
  have K0 := Blk.new w 30 #[.int .u64 0, .slice none 0 0]
  obtain ⟨G, hG⟩ : ∃ G, w.heap.size = G := ⟨_, rfl⟩
  obtain ⟨W0, hW0⟩ : ∃ W0, w.alloc (.cells #[.int .u64 0, .slice none 0 0] 30) = W0 := ⟨_, rfl⟩
  rw [hW0] at B0 K0
  have HW0 := Lib.hid hW0
  have HNew := Lib.hid (wnew_any v b W0 (hB.below B0) hbk)
  obtain ⟨k, hk, hkl⟩ : ∃ k, numR b 1099511627776 = b.drop k ∧ k ≤ b.length := by
    unfold numR
    cases hr : readN b 1099511627776 with
    | err c => exact ⟨0, by simp, Nat.zero_le _⟩
    | ok n k => exact ⟨k, rfl, (read_ok hr).2.2.2.1⟩
  obtain ⟨p1, c1, r1, hS1⟩ := slice_fromW hB hkl hbk
  obtain ⟨p, cap, rfl⟩ := hB.form
  have HB0 := Lib.hid B0
  have HK0 := Lib.hid K0
  have HS1 := Lib.hid hS1
  have HP := Lib.hid hP
  have HG := Lib.hid hG
  have HFa := Lib.hid (fun X (h : Below w.heap.size w X) => fault_any (numV b 1099511627776) p1 (b.length - k) c1 X (hP.below h))
  have hnv : numV b 1099511627776 < 18446744073709551616 := by
    unfold numV
    cases hr : readN b 1099511627776 with
    | err c => simp
    | ok n k => exact (read_ok hr).1
  have HR : Hid ((numE b 1099511627776 = 0 ∧ faultE (numV b 1099511627776) (b.length - k) = 0 ∧ recOf b = some ⟨numV b 1099511627776, b.drop k⟩) ∨ ((¬ numE b 1099511627776 = 0 ∨ ¬ faultE (numV b 1099511627776) (b.length - k) = 0) ∧ recOf b = none)) := Lib.hid (by
    have hdl : (b.drop k).length = b.length - k := List.length_drop
    unfold numE numV numR recOf at *
    cases hr : readN b 1099511627776 with
    | err c =>
      exact .inr ⟨.inl (err_pos hr), rfl⟩
    | ok n k1 =>
      rw [hr] at hk
      simp only at hk ⊢
      rw [hk]
      have hfo := fault_ok n (b.drop k)
      rw [hdl] at hfo
      by_cases ho : okRc ⟨n, b.drop k⟩ = true
      · exact .inl ⟨trivial, hfo.2 ho, by rw [if_pos ho]⟩
      · exact .inr ⟨.inr (fun e => ho (hfo.1 e)), by rw [if_neg ho]⟩)
  have HNum := Lib.hid (fun F r X (h : RdW X F r b) => wrnum_any F r b 1099511627776 (by decide) X h)
  have HDl : Hid ((b.drop k).length = b.length - k) := Lib.hid List.length_drop
  rw [hk] at HNum
  obtain ⟨m, hm⟩ : ∃ m, b.length = m := ⟨_, rfl⟩
  rw [hm] at hb hbk hkl r1 HS1 HFa HR HDl HNew ⊢
  obtain ⟨N, hN⟩ : ∃ N, numV b 1099511627776 = N := ⟨_, rfl⟩
  obtain ⟨E, hE⟩ : ∃ E, numE b 1099511627776 = E := ⟨_, rfl⟩
  rw [hN] at HFa HR HNum hnv
  rw [hE] at HR HNum
  obtain ⟨D, hD⟩ : ∃ D, b.drop k = D := ⟨_, rfl⟩
  rw [hD] at HNum HR HDl HS1
  obtain ⟨q, hq⟩ : ∃ q, m - k = q := ⟨_, rfl⟩
  rw [hq] at HFa HR HDl HS1 r1
  have hsub : (m : Int) - (q : Int) = (k : Int) := by omega
  unfold RecordR
  clear hP hB B0 K0 hW0 hG hS1 hk hm hN hE hD hq
  go_enter Tryz.func69, Tryz.ntmps69
  go_wp2_with fail
  rw [HW0.out, HG.out]
  go_wp2_with fail
  refine HNew.out.mono ?_; rintro e w1 ⟨rd, F, rfl, hrd, hF, b1⟩
  obtain ⟨R, rfl⟩ := hrd.form
  have HF := Lib.hid hF
  have HB1 := Lib.hid b1
  have HRd := Lib.hid hrd
  clear hF b1 hrd HNew
  go_wp2_with fail
  refine (HNum.out _ _ _ HRd.out).mono ?_; rintro e w2 ⟨rfl, F2, hrd2, hF2, hO2⟩
  have hB2 : Below W0.heap.size W0 w2 := hO2.below HB1.out HF.out HB1.out.size
  have HB2 := Lib.hid hB2
  have HRd2 := Lib.hid hrd2
  clear hO2 hF2 hrd2 hB2 HNum
  go_wp2_with fail
  refine (wleft_any _ _ _ _ HRd2.out).mono ?_; rintro e w3 ⟨rfl, b3⟩
  rw [HDl.out]
  have HB3 := Lib.hid (then_ HB2.out b3)
  clear b3 HRd2
  go_upto_region 4 with (fail)
  have B4 := then_ HB3.out (below_one w3 (.cells #[.int .u64 (N : Int), .slice p1 q c1] 30))
  have K4 := Blk.new w3 30 #[.int .u64 (N : Int), .slice p1 q c1]
  have k4a := K4.cell 0 rfl
  have k4b := K4.cell 1 rfl
  have K0b := HK0.out.later B4
  obtain ⟨W4, hW4⟩ : ∃ W4, w3.alloc (.cells #[.int .u64 (N : Int), .slice p1 q c1] 30) = W4 := ⟨_, rfl⟩
  rw [hW4] at B4 K4 k4a k4b K0b ⊢
  have HB4 := Lib.hid B4
  rw [HG.out] at K0b
  have HK4 := Lib.hid K4
  have HK0b := Lib.hid K0b
  have HW4 := Lib.hid hW4
  clear B4 K4 K0b hW4
  have hz : ∃ z, w3.heap.size = z := ⟨_, rfl⟩
  obtain ⟨z, hz⟩ := hz
  rw [hz] at HK4 k4a k4b ⊢
  have HZ := Lib.hid hz
  clear hz
  have HBw := Lib.hid (HB0.out.trans (HB4.out.mono HB0.out.size))
  have HFc := Lib.hid (HFa.out _ HBw.out)
  have k0a := HK0b.out.cell 0 rfl
  have k0b := HK0b.out.cell 1 rfl
  have f0 := HK0b.out.free 0
  have f1 := HK0b.out.free 1
  clear HFa
  obtain ⟨f, hf⟩ : ∃ f, faultE N q = f := ⟨_, rfl⟩
  rw [hf] at HR HFc
  clear hf
  have hw5 : Hid (∀ X, Below W4.heap.size W4 X → Below w.heap.size w X) := Lib.hid (fun X h => HBw.out.trans (h.mono HBw.out.size))
  rcases Nat.eq_zero_or_pos E with hE | hE
  · subst hE
    go_wp2_with fail
    refine HFc.out.mono ?_; rintro e w5 ⟨rfl, b5⟩
    have HB5 := Lib.hid (hw5.out _ b5)
    have K5 := HK4.out.later b5
    have K50 := HK0b.out.later b5
    have k5a := K5.cell 0 rfl
    have k5b := K5.cell 1 rfl
    have f5a := K50.free 0
    have f5b := K50.free 1
    have c5a := K50.cell 0 rfl
    have c5b := K50.cell 1 rfl
    have HK50 := Lib.hid K50
    clear b5 K5 K50 k4a k4b k0a k0b f0 f1 HFc
    rcases Nat.eq_zero_or_pos f with hf | hf
    · subst hf
      have hrec : recOf b = some ⟨N, D⟩ := by
        rcases HR.out with ⟨_, _, h⟩ | ⟨h, _⟩
        · exact h
        · rcases h with h | h <;> simp at h
      have HREC := Lib.hid hrec
      clear hrec
      go_wp2_with fail
      have K6 := two_set HK50.out (.int .u64 (N : Int)) (.slice p1 q c1)
      have c6a := K6.cell 0 rfl
      have c6b := K6.cell 1 rfl
      have B6 := set2_below HB5.out (Nat.le_of_eq HG.out) (.int .u64 (N : Int)) (.slice p1 q c1)
      refine bodyPost_ret (v := .tuple #[recV N (.slice p1 q c1), .bool true]) (by simp [results, Tryz.results69, go_sem, c6a, c6b]) rfl ⟨B6, ?_⟩
      exact .inr ⟨⟨N, D⟩, p1, c1, HREC.out, by rw [show (Rc.mk N D).d.length = q from HDl.out], by rw [show (Rc.mk N D).d.length = q from HDl.out]; exact HS1.out⟩
    · have hrec : recOf b = none := by
        rcases HR.out with ⟨_, h, _⟩ | ⟨_, h⟩
        · omega
        · exact h
      have HREC := Lib.hid hrec
      have e1 : ((f : Int) == 0) = false := by rw [beq_eq_false_iff_ne]; omega
      have e2 : ¬ ((f : Int) = 0) := by omega
      clear hrec
      go_wp2_with fail
      have K6 := two_set HK50.out (.int .u64 0) (.slice none 0 0)
      have c6a := K6.cell 0 rfl
      have c6b := K6.cell 1 rfl
      have B6 := set2_below HB5.out (Nat.le_of_eq HG.out) (.int .u64 0) (.slice none 0 0)
      refine bodyPost_ret (v := .tuple #[recV 0 (.slice none 0 0), .bool false]) (by simp [results, Tryz.results69, go_sem, c6a, c6b]) rfl ⟨B6, ?_⟩
      exact .inl ⟨HREC.out, rfl⟩
  · have hrec : recOf b = none := by
      rcases HR.out with ⟨h, _, _⟩ | ⟨_, h⟩
      · omega
      · exact h
    have HREC := Lib.hid hrec
    have e1 : ((E : Int) == 0) = false := by rw [beq_eq_false_iff_ne]; omega
    have e2 : ¬ ((E : Int) = 0) := by omega
    clear hrec HFc
    go_wp2_with fail
    have K6 := two_set HK0b.out (.int .u64 0) (.slice none 0 0)
    have c6a := K6.cell 0 rfl
    have c6b := K6.cell 1 rfl
    have B6 := set2_below HBw.out (Nat.le_of_eq HG.out) (.int .u64 0) (.slice none 0 0)
    refine bodyPost_ret (v := .tuple #[recV 0 (.slice none 0 0), .bool false]) (by simp [results, Tryz.results69, go_sem, c6a, c6b]) rfl ⟨B6, ?_⟩
    exact .inl ⟨HREC.out, rfl⟩
end Go.Proofs.YtelocbohiddpgaaGreatDoor.Crc
