/- Layer 8: Get. -/
import Derived.Test.YtlnjmcodgdebmaaGreatKh
import Derived.Test.YtlnjmcodgdebmaaGreatKn
import Derived.Test.YtlnjmcodgdebmaaGreatKf
import Derived.Test.YtlnjmcodgdebmaaGreatHi
/- The contract of slices.CompareFunc at constraints: one by one, the shorter one first. -/
set_option linter.unusedSimpArgs false
set_option linter.unusedVariables false
namespace Go.Proofs.YtlnjmcodgdebmaaGreat.Gm
open Go Go.RowKit
attribute [local go_sem ↓] Go.wp_at_zero Go.wp_at_succ

set_option maxHeartbeats 4000000 in
set_option maxRecDepth 20000 in
theorem cmpf_c (va vb : Value) (a b : List Cn) (w : World) (hA : Cs w va a) (hB : Cs w vb b) :
    Calls Tryz.prog 55 #[va, vb, .func (.func 56) #[] #[]] w (Gives (.int .i64 (cmpL cmpC a b)) w) := by
  obtain ⟨p, cap, rfl⟩ := hA.1.form
  obtain ⟨p', cap', rfl⟩ := hB.1.form
  have hla : a.length ≤ 3518437208883 := by have := hA.2; omega
  have hlb : b.length ≤ 3518437208883 := by have := hB.2; omega
  have HA := Lib.hid hA
  have HB := Lib.hid hB
  clear hA hB
  go_enter Tryz.func55, Tryz.ntmps55
  go_wp2
  go_loopw [13] (fun i wr => ∃ k : Nat, k ≤ a.length ∧ k ≤ b.length ∧ i = .int .i64 k ∧ cmpL cmpC (a.drop k) (b.drop k) = cmpL cmpC a b ∧ Below w.heap.size w wr) (fun i _ => a.length - (intOf i).toNat)
  case atStart => exact ⟨0, Nat.zero_le _, Nat.zero_le _, rfl, rfl, Below.refl _ _⟩
  case round =>
    obtain ⟨k, hk, hk', rfl, hor, hbel⟩ := hrel
    have HO := Lib.hid hor
    have HBel := Lib.hid hbel
    clear hor hbel
    by_cases hka : k < a.length
    · obtain ⟨p1, cap1, ba, oa, hv, hpa, hba, h4⟩ := seven_at HA.out.1 hka
      simp only [Value.slice.injEq] at hv
      obtain ⟨rfl, _, rfl⟩ := hv
      have hidx := idx_c3 p ba oa a.length cap k hpa hka
      clear hpa
      obtain ⟨c0, c1, c2, c3, c4, c5, c6⟩ := h4.later HBel.out
      by_cases hkb : k < b.length
      · obtain ⟨p2, cap2, bb, ob, hv, hpb, hbb, h5⟩ := seven_at HB.out.1 hkb
        simp only [Value.slice.injEq] at hv
        obtain ⟨rfl, _, rfl⟩ := hv
        have hidx' := idx_c3 p' bb ob b.length cap' k hpb hkb
        clear hpb
        obtain ⟨d0, d1, d2, d3, d4, d5, d6⟩ := h5.later HBel.out
        have HS := Lib.hid (cmpL_step (f := cmpC) hka hkb)

        have hsa := ((HA.out.at hka).later HBel.out)
        have hsb := ((HB.out.at hkb).later HBel.out)

        obtain ⟨x, hx⟩ : ∃ x, a.getD k default = x := ⟨_, rfl⟩
        obtain ⟨y, hy⟩ : ∃ y, b.getD k default = y := ⟨_, rfl⟩
        rw [hx] at c0 c1 c2 c3 c4 c5 c6 HS hsa
        rw [hy] at d0 d1 d2 d3 d4 d5 d6 HS hsb

        have HSa := Lib.hid hsa
        have HSb := Lib.hid hsb
        clear hsa hsb

        have HBa := Lib.hid hba
        have HBb := Lib.hid hbb
        have hsz := HBel.out.size
        have hba' : ba < wr.heap.size := by omega
        have hbb' : bb < wr.heap.size := by omega
        clear hx hy h4 h5 hba hbb
        go_wp2_with fail
        refine (cmpcons_any x y _ (HSa.out.later (((Below.refl _ wr).alloc (Nat.le_refl _) _).alloc (by simp) _)) (HSb.out.later (((Below.refl _ wr).alloc (Nat.le_refl _) _).alloc (by simp) _))).mono ?_
        rintro e w1 ⟨rfl, b1⟩
        have hB1 : Below w.heap.size w w1 := then_ ((HBel.out.alloc HBel.out.size _).alloc (by simp; omega) _) b1
        have HB1 := Lib.hid hB1
        clear b1 hB1
        by_cases hz : cmpC x y = 0
        · have HE : Hid (cmpL cmpC (a.drop (k + 1)) (b.drop (k + 1)) = cmpL cmpC a b) := Lib.hid (by rw [← HO.out, HS.out, if_pos hz])
          have e1 : (cmpC x y != 0) = false := by simp [hz]
          clear hz
          go_wp2_with fail
          go_roundw
          case rel => exact ⟨k + 1, by omega, by omega, by simp, HE.out, HB1.out⟩
          case measure => simp [intOf]; omega
        · have HE : Hid (cmpL cmpC a b = cmpC x y) := Lib.hid (by rw [← HO.out, HS.out, if_neg hz])
          have e1 : (cmpC x y != 0) = true := by simpa using hz
          clear hz
          go_wp2_with fail
          go_ret
          exact ⟨ret_int HE.out.symm, HB1.out⟩
      · have HE : Hid (cmpL cmpC a b = 1) := Lib.hid (by rw [← HO.out, cmpL_over hka (by omega)])
        have hge : b.length ≤ k := by omega
        obtain ⟨x, hx⟩ : ∃ x, a.getD k default = x := ⟨_, rfl⟩
        rw [hx] at c0 c1 c2 c3 c4 c5 c6
        clear hx h4 hkb
        go_wp2_with fail
        go_ret
        exact ⟨ret_int HE.out.symm, HBel.out.alloc HBel.out.size _⟩
    · have hke : k = a.length := by omega
      have HD := Lib.hid (cmpL_done (f := cmpC) (a := a) (b := b) (k := k) (by omega))
      subst hke
      by_cases hlt : a.length < b.length
      · have HE : Hid (cmpL cmpC a b = -1) := Lib.hid (by rw [← HO.out, HD.out, if_pos hlt])
        go_wp2
        go_ret
        exact ⟨ret_int HE.out.symm, HBel.out⟩
      · have HE : Hid (cmpL cmpC a b = 0) := Lib.hid (by rw [← HO.out, HD.out, if_neg hlt])
        have hd : decide (a.length < b.length) = false := by simpa using hlt
        go_wp2
        go_ret
        exact ⟨ret_int HE.out.symm, HBel.out⟩
end Go.Proofs.YtlnjmcodgdebmaaGreat.Gm
/- The contracts of package pred's Compare and Same. -/
/- The contracts of package pred's Normal. -/
set_option linter.unusedSimpArgs false
set_option linter.unusedVariables false
namespace Go.Proofs.YtlnjmcodgdebmaaGreat.Gm
open Go Go.RowKit
attribute [local go_sem ↓] Go.wp_at_zero Go.wp_at_succ

theorem may_set {c : Cn} (h : mayCn c = true) : c.set.length ≤ 6 := by
  have h2 : mayOp c.op c.v c.set = true := by simp only [mayCn, Bool.and_eq_true] at h; exact h.2
  unfold mayOp at h2
  split at h2
  · simp only [Bool.and_eq_true, decide_eq_true_eq] at h2; omega
  · split at h2
    · simp only [maySt, Bool.and_eq_true, decide_eq_true_eq] at h2; omega
    · split at h2
      · simp only [Bool.and_eq_true, decide_eq_true_eq] at h2; omega
      · split at h2
        · simp only [Bool.and_eq_true, decide_eq_true_eq] at h2; omega
        · cases h2
theorem may_len {l : List Cn} (h : mayPr l = true) : l.length ≤ 6 ∧ ∀ d ∈ l, d.set.length ≤ 6 := by
  simp only [mayPr, Bool.and_eq_true, decide_eq_true_eq, List.all_eq_true] at h
  exact ⟨h.1, fun d hd => may_set (h.2 d hd)⟩
/-- What a normal form is: a row of the call's own, in order. -/
structure Norm (l : List Cn) (w w' : World) (p : Option Addr) (cap : Nat) (r : List Cn) : Prop where
  own : OwnC w' w.heap.size (.slice p r.length cap) r
  rise : Rising cmpC r
  is : r.map bare = sortL cmpC (l.map normC)
  sets : ∀ d ∈ r, d.set.length ≤ 100000
  len : r.length ≤ l.length
  bel : Below w.heap.size w w'
def NormR (l : List Cn) (w : World) (e : Ending) (w' : World) : Prop := ∃ p cap r, e = .returned (.tuple #[.slice p r.length cap, .int .i64 0]) ∧ Norm l w w' p cap r

set_option maxHeartbeats 2000000 in
set_option maxRecDepth 20000 in
theorem normal_no (v : Value) (l : List Cn) (w : World) (hA : Cs w v l) (h : mayPr l = false) : Calls Tryz.prog 28 #[v] w (Gives (.tuple #[.slice none 0 0, .int .i64 30]) w) := by
  obtain ⟨p, cap, rfl⟩ := hA.1.form
  have HM := maypred_any _ l w hA
  rw [h] at HM
  have HM := Lib.hid HM
  clear hA h
  go_enter Tryz.func28, Tryz.ntmps28
  go_wp2_with fail
  refine HM.out.mono ?_; rintro e w1 ⟨rfl, b1⟩
  go_wp2_with fail
  go_ret2
  exact ⟨rfl, b1⟩
set_option maxHeartbeats 2000000 in
set_option maxRecDepth 20000 in
theorem normal_yes (v : Value) (l : List Cn) (w : World) (hA : Cs w v l) (h : mayPr l = true) : Calls Tryz.prog 28 #[v] w (NormR l w) := by
  obtain ⟨p, cap, rfl⟩ := hA.1.form
  have HM := maypred_any _ l w hA
  rw [h] at HM
  have hl := may_len h
  have HM := Lib.hid HM
  have HG := Lib.hid (fun W (hb : Below w.heap.size w W) => gather_c _ l W (hA.later hb) (by omega) (fun d hd => by have := hl.2 d hd; omega))
  clear hA h hl
  go_enter Tryz.func28, Tryz.ntmps28
  go_wp2_with fail
  refine HM.out.mono ?_; rintro e w1 ⟨rfl, b1⟩
  have HB1 := Lib.hid b1
  clear b1
  go_wp2_with fail
  refine (HG.out w1 HB1.out).mono ?_; rintro e w2 ⟨p2, cap2, r, rfl, h1, h2, h3, h4, h5, h6⟩
  have HN : Hid (Norm l w w2 p2 cap2 r) := Lib.hid ⟨⟨own_base h1.1 HB1.out.size, fun d hd => own_base (h1.2 d hd) HB1.out.size⟩, h2, h3, h4, h5, then_ HB1.out h6⟩
  clear h1 h2 h3 h4 h5 h6
  go_wp2_with fail
  go_ret2
  exact ⟨p2, cap2, r, rfl, HN.out⟩
end Go.Proofs.YtlnjmcodgdebmaaGreat.Gm
set_option linter.unusedSimpArgs false
set_option linter.unusedVariables false
namespace Go.Proofs.YtlnjmcodgdebmaaGreat.Gm
open Go Go.RowKit
attribute [local go_sem ↓] Go.wp_at_zero Go.wp_at_succ

theorem pcompare_any (va vb : Value) (a b : List Cn) (w : World) (hA : Cs w va a) (hB : Cs w vb b) : Calls Tryz.prog 39 #[va, vb] w (Gives (.int .i64 (cmpL cmpC a b)) w) := by
  have HC := Lib.hid (cmpf_c va vb a b w hA hB)
  obtain ⟨p, cap, rfl⟩ := hA.1.form
  obtain ⟨p', cap', rfl⟩ := hB.1.form
  generalize cmpL cmpC a b = R at HC ⊢
  clear hA hB
  go_enter Tryz.func39, Tryz.ntmps39
  go_wp2_with fail
  refine HC.out.mono ?_; rintro e w1 ⟨rfl, b1⟩
  go_wp2_with fail
  go_ret
  exact ⟨rfl, b1⟩
theorem psame_any (va vb : Value) (a b : List Cn) (w : World) (hA : Cs w va a) (hB : Cs w vb b) : Calls Tryz.prog 19 #[va, vb] w (Gives (.bool (decide (cmpL cmpC a b = 0))) w) := by
  have HC := Lib.hid (pcompare_any va vb a b w hA hB)
  obtain ⟨p, cap, rfl⟩ := hA.1.form
  obtain ⟨p', cap', rfl⟩ := hB.1.form
  generalize cmpL cmpC a b = R at HC ⊢
  have e : (R == 0) = decide (R = 0) := by by_cases h : R = 0 <;> simp [h]
  generalize decide (R = 0) = d at e ⊢
  clear hA hB
  go_enter Tryz.func19, Tryz.ntmps19
  go_wp2_with fail
  refine HC.out.mono ?_; rintro e w1 ⟨rfl, b1⟩
  go_wp2_with fail
  go_ret
  exact ⟨rfl, b1⟩
end Go.Proofs.YtlnjmcodgdebmaaGreat.Gm
set_option linter.unusedSimpArgs false
set_option linter.unusedVariables false
namespace Go.Proofs.YtlnjmcodgdebmaaGreat.Gm
open Go Go.RowKit Go.Maps
attribute [local go_sem ↓] Go.wp_at_zero Go.wp_at_succ

/-- The predicates' map: which numbers it has, and their slices. -/
structure PredsIs (Dp : DataW Value) (f : Int → Option Value) : Prop where
  has : ∀ i, (Lit.int .i64 i).wf = true → Maps.has Dp (.int .i64 i) = (f i).isSome
  at_ : ∀ i v, f i = some v → ∀ z, Dp.atKey (.int .i64 i) z = .held v
theorem idElem_eq {v : Value} {d : DataW Value} {ps : List MemPlace} (h : idElem v = some (d, ps)) : d = .held v := by
  unfold idElem at h; injection h with h; injection h with h _; exact h.symm
theorem zero_pred (w : World) : (zeroValue 31).run Tryz.prog w = .ok (.slice none 0 0) w := by kernel_rfl
theorem get_none (i : Int) (w : World) : Calls Tryz.prog 17 #[.pointer none, .int .i64 i] w (Gives (.tuple #[.slice none 0 0, .bool false]) w) := by
  have HM := Lib.hid (fun W => made_none W)
  go_enter Tryz.func17, Tryz.ntmps17
  go_wp2_with fail
  refine (HM.out _).mono ?_; rintro e w1 ⟨rfl, b1⟩
  have HB := Lib.hid b1
  clear b1
  go_wp2_with fail
  go_ret2
  exact ⟨rfl, HB.out⟩
set_option maxHeartbeats 1000000 in
theorem get_not (g bp bn nn : Nat) (Dp : DataW Value) (f : Int → Option Value) (i : Int) (hi : (Lit.int .i64 i).wf = true) (w : World) (h : Maps2 w g bp bn) (hown : w.ownsMap Tryz.prog 3 idElem bp nn Dp) (hf : PredsIs Dp f) (hn : f i = none) :
    Calls Tryz.prog 17 #[.pointer (some ⟨g, 0, none⟩), .int .i64 i] w (Gives (.tuple #[.slice none 0 0, .bool false]) w) := by
  have HM := Lib.hid (made_yes g bp bn w h)
  have HX := Lib.hid h
  have HO := Lib.hid hown
  have hk : keyOf Tryz.prog 3 (.int .i64 i) = some (.int .i64 i) := Maps.keyOf_int_mk Tryz.underlying3 hi
  have hh : Maps.has Dp (.int .i64 i) = false := by rw [hf.has i hi, hn]; rfl
  clear h hown
  go_enter Tryz.func17, Tryz.ntmps17
  go_wp2_with fail
  refine HM.out.mono ?_; rintro e w1 ⟨rfl, b1⟩
  have h0 := (HX.out.later b1).p
  have hl := (HX.out.later b1).lt
  have hown := map_later HO.out b1 HO.out.lt
  have HB := Lib.hid b1
  clear b1
  go_wp2_with (first | (at_lookup; refine wpList_lookup_own_ok _ rfl _ _ 69 rfl 3 31 (Maps.int_keyed Tryz.underlying3) Tryz.underlying69 idElem (zero_pred _) (.held (.slice none 0 0)) [] rfl bp nn Dp rfl hown _ _ rfl hk ?_; rw [hh]; intro v ps _; clear hh) | fail)
  go_ret2
  exact ⟨rfl, HB.out⟩
/-- What Get tells where the number is there: the normal form of its normal form, in new memory. -/
def GetR (l : List Cn) (w : World) (e : Ending) (w' : World) : Prop := ∃ p cap r, e = .returned (.tuple #[.slice p r.length cap, .bool true]) ∧ Norm l w w' p cap r
set_option maxHeartbeats 1000000 in
theorem get_there (g bp bn nn : Nat) (Dp : DataW Value) (f : Int → Option Value) (i : Int) (hi : (Lit.int .i64 i).wf = true) (w : World) (h : Maps2 w g bp bn) (hown : w.ownsMap Tryz.prog 3 idElem bp nn Dp) (hf : PredsIs Dp f) (v : Value) (hn : f i = some v) (l : List Cn) (hC : Cs w v l) (hm : mayPr l = true) :
    Calls Tryz.prog 17 #[.pointer (some ⟨g, 0, none⟩), .int .i64 i] w (GetR l w) := by
  have HM := Lib.hid (made_yes g bp bn w h)
  have HX := Lib.hid h
  have HO := Lib.hid hown
  have HC := Lib.hid hC
  obtain ⟨p0, cap0, rfl⟩ := hC.1.form
  have hk : keyOf Tryz.prog 3 (.int .i64 i) = some (.int .i64 i) := Maps.keyOf_int_mk Tryz.underlying3 hi
  have hh : Maps.has Dp (.int .i64 i) = true := by rw [hf.has i hi, hn]; rfl
  have HA := Lib.hid (hf.at_ i _ hn)
  clear h hown hC
  go_enter Tryz.func17, Tryz.ntmps17
  go_wp2_with fail
  refine HM.out.mono ?_; rintro e w1 ⟨rfl, b1⟩
  have h0 := (HX.out.later b1).p
  have hl := (HX.out.later b1).lt
  have hown := map_later HO.out b1 HO.out.lt
  have HB := Lib.hid b1
  have HN := Lib.hid (normal_yes _ l w1 (HC.out.later b1) hm)
  clear b1
  go_wp2_with (first | (at_lookup; refine wpList_lookup_own_ok _ rfl _ _ 69 rfl 3 31 (Maps.int_keyed Tryz.underlying3) Tryz.underlying69 idElem (zero_pred _) (.held (.slice none 0 0)) [] rfl bp nn Dp rfl hown _ _ rfl hk ?_; rw [hh]; intro v ps hv; clear hh; have hv := idElem_eq hv; rw [HA.out] at hv; injection hv with hv; subst hv) | fail)
  refine HN.out.mono ?_; rintro e w2 ⟨p, cap, r, rfl, hN⟩
  have HR := Lib.hid (show GetR l w (.returned (.tuple #[.slice p r.length cap, .bool true])) w2 from ⟨p, cap, r, rfl, ⟨⟨own_base hN.own.1 HB.out.size, fun c hc => (hN.own.2 c hc).base HB.out.size⟩, hN.rise, hN.is, hN.sets, hN.len, HB.out.trans (hN.bel.mono HB.out.size)⟩⟩)
  clear hN
  go_wp2_with fail
  go_ret2
  exact HR.out
end Go.Proofs.YtlnjmcodgdebmaaGreat.Gm
