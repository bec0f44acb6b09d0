/- The statement's function CodecPreds returns true for any predicate and any bytes, and each argument reads afterwards as before; no condition. -/
import Derived.Test.YtkfheodcmhodpaaNe
import Derived.Test.YtkfheodcmhodpaaVf
import Derived.Test.YtkfheodcmhodpaaVr
import Derived.Test.YtkfheodcmhodpaaNo
import Derived.Test.YtkfheodcmhodpaaNob
import Derived.SizedLaws
import Derived.OpenShut
import Derived.WalkKit
import Derived.ProofKit
/- The walk of CodecPreds. (Written by tools/gen_np.py, out of Ne.) -/
set_option linter.unusedSimpArgs false
set_option linter.unusedVariables false
namespace Go.Proofs.Ytkfheodcmhodpaa.Gm
open Go Go.RowKit
attribute [local go_sem ↓] Go.wp_at_zero Go.wp_at_succ

/-- A predicate that the call owns. -/
def OwnP (w : World) (base : Nat) (p : Option Addr) (n cap : Nat) (cs : List Cn) (S : Pz) : Prop := n = cs.length ∧ w.ownsRow base 99 7 (.slice p n cap) n (cs.flatMap encC) ∧ (∀ c ∈ cs, invC w base c) ∧ cs.map toCz = S ∧ (∀ c ∈ cs, c.set.length ≤ 6) ∧ cs.length ≤ 6
theorem OwnP.past {w w' : World} {base n cap : Nat} {p : Option Addr} {cs : List Cn} {S : Pz} {r : Option Nat} (h : OwnP w base p n cap cs S) (hg : w.grownBy w' r) (hr : ∀ g, r = some g → g < base) : OwnP w' base p n cap cs S :=
  ⟨h.1, ownsRow_past h.2.1 hg hr, fun c hc => ⟨ownsRow_past (h.2.2.1 c hc).1 hg hr, (h.2.2.1 c hc).2⟩, h.2.2.2⟩
theorem OwnP.later {w w' : World} {base n cap : Nat} {p : Option Addr} {cs : List Cn} {S : Pz} (h : OwnP w base p n cap cs S) (hb : Below w.heap.size w w') : OwnP w' base p n cap cs S :=
  ⟨h.1, own_later h.2.1 hb, fun c hc => ⟨own_later (h.2.2.1 c hc).1 hb, (h.2.2.1 c hc).2⟩, h.2.2.2⟩
theorem OwnP.cs {w : World} {base n cap : Nat} {p : Option Addr} {cs : List Cn} {S : Pz} (h : OwnP w base p n cap cs S) : Cs w (.slice p n cap) cs := by
  obtain ⟨rfl, h2, h3, _, h5, h6⟩ := h
  exact ⟨row_of_own encC_length h2, by omega, fun c hc => ⟨row_of_own encV_length (h3 c hc).1, by have := h5 c hc; omega⟩⟩
/-- What a Take leaves, whatever it answers: the thing, or a bare one. -/
theorem tkq_p {rd : Rd Pz} {L : List UInt8} {w w' : World} {e : Ending} (hq : takeR rd mayPz L = tkP L) (h : TakeE rd mayPz (PrR w.heap.size) (.slice none 0 0) L w e w') : ∃ (p : Option Addr) (n cap : Nat) (cs : List Cn), e = .returned (.tuple #[.slice p n cap, .int .i64 (if (tkP L).isSome then 0 else 5)]) ∧ Below w.heap.size w w' ∧ OwnP w' w.heap.size p n cap cs ((tkP L).getD []) := by
  obtain ⟨h1, h2⟩ := h
  rw [hq] at h1
  cases hr : tkP L with
  | none =>
    rw [hr] at h1
    exact ⟨none, 0, 0, [], h1, h2, rfl, World.ownsRow_nil _ _ _ _, (fun c hc => by cases hc), rfl, (fun c hc => by cases hc), by simp⟩
  | some x =>
    rw [hr] at h1
    obtain ⟨v, rfl, cs, rfl, ho, hi⟩ := h1
    obtain ⟨p, cap, rfl⟩ := own_shape ho
    obtain ⟨w1, _, _⟩ := take_is codec_pzs (show takeR pzS mayPz L = some (cs.map toCz) from hr)
    refine ⟨p, cs.length, cap, cs, rfl, h2, rfl, ho, hi, rfl, fun c hc => ?_, by have := w1.1; simpa using this⟩
    have := wfcz_len (w1.2 (toCz c) (List.mem_map_of_mem hc))
    exact this
theorem same_own {a b : List Cn} {w w' : World} {x y n m c d : Nat} {p q : Option Addr} {S : Pz} (h : OwnP w x p n c a S) (k : OwnP w' y q m d b S) : decide (cmpL cmpC a b = 0) = true :=
  (same_pz (fun c hc => (h.2.2.1 c hc).2) (fun c hc => (k.2.2.1 c hc).2)).1 (by unfold toPz; rw [h.2.2.2.1, k.2.2.2.1])
set_option maxHeartbeats 16000000 in
set_option maxRecDepth 20000 in
theorem law_cpreds (u0 v0 : Value) (l0 : List Cn) (B : List UInt8) (w : World) (hS : Cs w u0 l0) (hR : FitsP l0) (hB : Bs w v0 B) (hlen0 : B.length ≤ 140737488351232) : Calls Try.prog 4 #[u0, v0] w (Gives (.bool true) w) := by
  obtain ⟨i0, ji, iz0, iz1, iz2⟩ := info_parts infoB
  obtain ⟨p0, c0, hv⟩ := hB.form
  obtain ⟨nB, hnB⟩ : ∃ nB, B.length = nB := ⟨_, rfl⟩
  rw [hnB] at hv
  subst hv
  have HnB := Lib.hid hnB
  have HP := Lib.hid (fun W (h : Below w.heap.size w W) => pp_any u0 l0 W (hS.later h) hR)
  have HQ := Lib.hid (fun W (h : Below w.heap.size w W) => qputpred_any u0 l0 W (hS.later h) hR)
  have HT := Lib.hid (fun W (h : Below w.heap.size w W) => qtake_pred (.slice p0 nB c0) B W (hB.below h) (by omega))
  obtain ⟨S, hSS⟩ : ∃ S, putP l0 = S := ⟨_, rfl⟩
  rw [hSS] at HP HQ
  obtain ⟨pu, cu, rfl⟩ := hS.1.form
  obtain ⟨nl, hnl⟩ : ∃ nl, l0.length = nl := ⟨_, rfl⟩
  rw [hnl] at HP HQ ⊢
  have HSrc : Hid (Src w (.slice p0 nB c0) nB 1 (cellsB B)) := Lib.hid (by have h := hB.src; rwa [hnB] at h)
  have hn0 : nB ≤ 140737488351232 := by omega
  clear hB hnB hSS hnl hS
  go_enter Try.func4, Try.ntmps4
  go_wp2_with (at_builtin; refine wpList_append_src rfl _ _ 25 rfl w.heap.size 5 i0 (.int .u8 0) 1 1 Try.underlying25 ji iz0 iz1 iz2 rfl (by decide) _ 0 [] rfl (World.ownsRow_nil _ _ _ _) _ nB (cellsB B) rfl HSrc.out nB (by omega) (by unfold maxLen; omega) (by omega) (Nat.le_refl _) ?_; intro p1 c1 w1 hown1 hgrow1; have HO1 : Hid (OwnB w1 w.heap.size (.slice p1 nB c1) B) := Lib.hid (by unfold OwnB; rw [HnB.out]; exact hown1); have HB1 := Lib.hid ((Below.refl w.heap.size w).grown hgrow1 (Nat.le_refl _) (fun j hj => nomatch (show (none : Option Nat) = some j from hj))); clear hown1 hgrow1 HSrc)
  have Hg : Hid (∀ g, (Value.slice p1 nB c1).ownBlock = some g → w.heap.size ≤ g ∧ g < w1.heap.size) := Lib.hid (fun g hg => World.ownsRow.lt HO1.out g hg)
  refine (HP.out _ HB1.out).mono ?_; rintro e w2 ⟨vx, rfl, hox, b2⟩
  obtain ⟨EF, hEF⟩ : ∃ EF : Int, (if S.isSome then 0 else 30) = EF := ⟨_, rfl⟩
  rw [hEF]
  have HEF := Lib.hid hEF
  obtain ⟨px, cx, rfl⟩ := hox.form
  obtain ⟨FS, hFS⟩ : ∃ FS, S.getD [] = FS := ⟨_, rfl⟩
  have HFS := Lib.hid hFS
  rw [hFS] at hox ⊢
  obtain ⟨NF, hNF⟩ : ∃ NF, FS.length = NF := ⟨_, rfl⟩
  have HNF := Lib.hid hNF
  rw [hNF] at hox ⊢
  have HOx2 := Lib.hid hox
  have HO2 := Lib.hid (HO1.out.below b2)
  have HB2 := Lib.hid (then_ HB1.out b2)
  have hz2 := b2.size
  clear hEF hFS hNF hox b2 HO1
  go_wp2_with fail
  refine (HQ.out _ HB2.out).mono ?_; rintro e w3 ⟨vy, rfl, hoy, b3⟩
  obtain ⟨py, cy, rfl⟩ := hoy.form
  rw [HFS.out] at hoy ⊢
  rw [HEF.out]
  rw [HNF.out] at hoy ⊢
  have HOy3 := Lib.hid hoy
  have HOx3 := Lib.hid (HOx2.out.below b3)
  have HO3 := Lib.hid (HO2.out.below b3)
  have HB3 := Lib.hid (then_ HB2.out b3)
  have hz3 := b3.size
  clear hoy b3 HO2 HOx2 HEF HFS
  go_wp2_with fail
  refine (tp_any (.slice p1 nB c1) B w3 HO3.out.bs (by omega)).mono ?_; intro e w4 h
  obtain ⟨pe, n4, ce, cs4, rfl, b4, ho4⟩ := tkq_p rfl h
  obtain ⟨P4, hx4⟩ : ∃ X, (tkP B).getD [] = X := ⟨_, rfl⟩
  obtain ⟨ET, hET⟩ : ∃ ET : Int, (if (tkP B).isSome then 0 else 5) = ET := ⟨_, rfl⟩
  rw [hx4] at ho4
  rw [hET]
  have HX4e := Lib.hid hx4
  have HET := Lib.hid hET
  obtain ⟨W5, hW5⟩ : ∃ W5, w4 = W5 := ⟨_, rfl⟩
  subst hW5
  have HUo5 := Lib.hid ho4
  have HOy5 := Lib.hid (HOy3.out.below b4)
  have HOx5 := Lib.hid (HOx3.out.below b4)
  have HO5 := Lib.hid (HO3.out.below b4)
  have HB5 := Lib.hid (then_ HB3.out b4)
  clear h ho4 b4 hx4 hET HOy3 HOx3 HO3
  go_wp2_with fail
  go_loopw [12] (fun iv wr => ∃ k : Nat, k ≤ nB ∧ iv = .int .i64 k ∧ Hid (Wiped w4 wr (.slice p1 nB c1) nB)) (fun iv _ => nB - (intOf iv).toNat)
  case atStart => exact ⟨0, Nat.zero_le _, rfl, Lib.hid (by have h := wiped_start HO5.out; rwa [HnB.out] at h)⟩
  case round =>
    obtain ⟨k, hk, rfl, HW⟩ := hrel
    by_cases hkN : k < nB
    · obtain ⟨g, cap, e1, e2, hw⟩ := HW.out.2 k hkN
      simp only [Value.slice.injEq, true_and] at e1
      obtain ⟨rfl, rfl⟩ := e1
      obtain ⟨cc, h1, h2⟩ := hw k hkN
      obtain ⟨d, hd⟩ := xor_byte cc
      clear e2 hw
      go_wp2_with fail
      go_roundw
      case rel => exact ⟨k + 1, by omega, by simp, Lib.hid (wiped_set HW.out k d)⟩
      case measure => simp [intOf]; omega
    · have hq := HW.out.1
      have HB6 := Lib.hid (HB5.out.trans (grown_old (base := w.heap.size) hq HB5.out.size (fun g hg => (Hg.out g hg).1)))
      have HOx6 : Hid (OwnB wr w1.heap.size (.slice px NF cx) FS) := Lib.hid (ownsRow_past HOx5.out hq (fun g hg => (Hg.out g hg).2))
      have HOy6 : Hid (OwnB wr w2.heap.size (.slice py NF cy) FS) := Lib.hid (ownsRow_past HOy5.out hq (fun g hg => by have := (Hg.out g hg).2; omega))
      have HUo6 := Lib.hid (HUo5.out.past hq (fun g hg => by have := (Hg.out g hg).2; omega))
      clear hq HW HB5 HOx5 HOy5 HUo5 HO5
      go_wp2_with fail
      refine (HT.out _ HB6.out).mono ?_; intro e w7 h
      obtain ⟨pf, n7, cf, cs7, rfl, b7, ho7⟩ := tkq_p (takeq_p B) h
      rw [HX4e.out] at ho7
      rw [HET.out]
      have HB8 := Lib.hid (then_ HB6.out b7)
      have cvx := conv_bs ((HOx6.out.below b7).bs) 9 Try.underlying9
      have cvy := conv_bs ((HOy6.out.below b7).bs) 9 Try.underlying9
      have hse := str_same FS
      obtain ⟨XS, hXS⟩ : ∃ XS, (⟨FS.toArray⟩ : ByteArray) = XS := ⟨_, rfl⟩
      rw [hXS] at cvx cvy hse
      have HSm : Hid (Calls Try.prog 22 #[.slice pe n4 ce, .slice pf n7 cf] w7 (Gives (.bool true) w7)) := Lib.hid (by
        have h := rsame_any (.slice pe n4 ce) (.slice pf n7 cf) cs4 cs7 w7 (HUo6.out.later b7).cs ho7.cs
        rwa [same_own HUo6.out ho7] at h)
      clear h ho7 b7 hXS HOx6 HOy6 HUo6
      go_wp2_with fail
      refine HSm.out.mono ?_; rintro e w9 ⟨rfl, b9⟩
      have HB9 := Lib.hid (then_ HB8.out b9)
      clear b9 cvx cvy
      go_wp2_with fail
      refine (wakes_any _).mono ?_; rintro e w11 ⟨rfl, b11⟩
      have HB11 := Lib.hid (then_ HB9.out b11)
      clear b11
      go_wp2_with fail
      go_ret
      exact ⟨rfl, HB11.out⟩
end Go.Proofs.Ytkfheodcmhodpaa.Gm
set_option linter.unusedSimpArgs false
set_option linter.unusedVariables false
namespace Go.Proofs.Ytkfheodcmhodpaa
open Go.ChangeShapes Go.WideShapes Go.ChangeAt Go.RowKit Gm

set_option maxRecDepth 100000 in
theorem lifted_codecPreds (os : Os) (started : os.Started) (H : Type) (enc : TypeId × Value → H) :
    ReturnsInHanded {} Try.checked os 4 .any (Rows.codecPredsSpec.pre6 enc Try.prog Try.f4 Rows.codecPredsRow.domain false) (Rows.codecPredsSpec.post enc Try.prog Try.f4 false true false false) := by
  refine returnsInHanded_of_change_sized (C := Try.checked) (s := Rows.codecPredsSpec) own started (by kernel_rfl) Try.func4
    (ChangeSpec.witness6 (enc := enc) (C := Try.checked) (os := os) (s := Rows.codecPredsSpec) false ⟨#[], #[.slice none 0 0, .slice none 0 0], []⟩ 8 (by kernel_rfl) (by kernel_rfl) (by kernel_rfl) (by kernel_rfl)) ?_
  intro W base args ds gs before hval0 hW _ hsz _
  have hval : ∀ (j : Nat) t v, Try.f4.params[j]? = some t → args[j]? = some v → Value.okWide Try.prog W .any base t v := hval0
  have hW' := hW
  obtain ⟨p, q, hA0, hV, rfl, hfz, hnd⟩ := hW
  have hA : DataW.TrodAll enc Try.prog W 0 (fun _ => true) true Try.f4.params.toList args.toList ds p := hA0
  rw [Try.params4] at hA hval
  obtain ⟨v0, vs0, d0, ds0, p0, q0, hargs, rfl, rfl, h0, r0⟩ := trodAll_cons hA
  obtain ⟨v1, vs1, d1, ds1, p1, q1, rfl, rfl, rfl, h1, r1⟩ := trodAll_cons r0
  obtain ⟨rfl, rfl, rfl⟩ := trodAll_nil r1
  obtain rfl : args = #[v0, v1] := by cases args; simp_all
  obtain ⟨rfl, rfl⟩ := trodVars_none hV
  have lt0 : ∀ x ∈ p0, x.block < W.heap.size := by obtain ⟨m, hm⟩ := h0; exact DataW.trod_lt m _ _ _ hm
  have lt1 : ∀ x ∈ p1, x.block < W.heap.size := by obtain ⟨m, hm⟩ := h1; exact DataW.trod_lt m _ _ _ hm
  obtain ⟨l0, hC0, hR0, hN0⟩ := open_cs Try.underlying40 (hval 0 40 v0 rfl rfl) h0 (fun n hn => by simpa using List.all_eq_true.1 hsz _ (DataW.weights_mem_each (j := 0) (t := 40) (d := d0) (by rw [Try.params4]; rfl) rfl n hn))
  obtain ⟨L1, hB1, hl1⟩ := open_bs (hval 1 25 v1 rfl rfl) h1
  clear hA0 hval0
  refine (law_cpreds v0 v1 l0 L1 W hC0 hR0 hB1 (by rw [hl1]; exact reach_bs (fun n hn => by simpa using List.all_eq_true.1 hsz _ (DataW.weights_mem_each (j := 1) (t := 25) (d := d1) (by rw [Try.params4]; rfl) rfl n hn)))).mono fun e W' ⟨he, bel⟩ => ?_
  subst he
  exact ⟨_, rfl, _, _, _, [], _, [], hW', trodAll_mk1 (shut_bool Try.underlying4 _), (trodAll_cons_mk (Below.trod laidOut (by kernel_rfl) (of_decide_eq_true (by kernel_rfl)) h0 bel lt0) (trodAll_cons_mk (Below.trod laidOut (by kernel_rfl) (of_decide_eq_true (by kernel_rfl)) h1 bel lt1) trodAll_mk0)), rfl, bel.frame _, fun h => by cases h⟩

theorem codecPreds_said : Rows.CodecPredsSaid :=
  OpenClaim.holds_of_wide 4 Try.f4 rfl rfl rfl rfl rfl rfl rfl ⟨rfl, rfl, rfl, rfl, rfl⟩ rfl rfl rfl rfl rfl (by kernel_rfl) Try.func4 (by kernel_rfl)
    (of_decide_eq_true (by kernel_rfl)) (by unfold Func.isWrapper; first | (rw [if_pos (by decide +kernel)]; kernel_rfl) | (rw [if_neg (by decide +kernel)]; exact ⟨rfl, rfl⟩))
    (fun os started H enc _ => lifted_codecPreds os started H enc)
#print axioms codecPreds_said
end Go.Proofs.Ytkfheodcmhodpaa
