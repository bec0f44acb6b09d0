/- Layer 12: a record's body and form: body, Put. -/
import Derived.Test.YtelocbohiddpgaaGreatDoorSgc
import Derived.BigQuiet
set_option linter.unusedSimpArgs false
set_option linter.unusedVariables false
namespace Go.Proofs.YtelocbohiddpgaaGreatDoor.Crc
open Go Go.RowKit Gm
attribute [local go_sem ↓] Go.wp_at_zero Go.wp_at_succ

set_option maxHeartbeats 4000000 in
set_option maxRecDepth 100000 in
theorem body_any (n : Nat) (hn : n < 18446744073709551616) (v : Value) (d : List UInt8) (w : World) (hB : Bs w v d) (hd : d.length + 10 ≤ 140737488355328) : Calls Tryz.prog 27 #[recV n v] w (MadeB (formN n ++ d) w) := by
  obtain ⟨i0, ii, iz0, iz1, iz2⟩ := info_parts infoB
  obtain ⟨p, cap, rfl⟩ := hB.form
  have hB1 := below_one w (.cells #[.int .u64 (n : Int), .slice p d.length cap] 30)
  have hK := Blk.new w 30 #[.int .u64 (n : Int), .slice p d.length cap]
  obtain ⟨W0, hW0⟩ : ∃ W0, w.alloc (.cells #[.int .u64 (n : Int), .slice p d.length cap] 30) = W0 := ⟨_, rfl⟩
  rw [hW0] at hB1 hK
  have HW0 := Lib.hid hW0
  have HB1 := Lib.hid hB1
  have HK := Lib.hid hK
  have HD := Lib.hid (hB.below hB1)
  have HF := Lib.hid (formN_length hn)
  have hfl : (formN n).length ≤ 10 := HF.out.2
  have HN := Lib.hid (wnum_any (.slice none 0 0) [] n hn W0.drew (Bs.nil _) (by simp))
  have HG : Hid (MadeB (formN n ++ d) w = MadeB (formN n ++ d) w) := Lib.hid rfl
  have HM : Hid (∀ e w', MadeB ([] ++ formN n) W0.drew e w' → ∃ p1 c1, e = .returned (.slice p1 (formN n).length c1) ∧ OwnB w' W0.heap.size (.slice p1 (formN n).length c1) (formN n) ∧ Below W0.heap.size W0 w') := Lib.hid (by
    rintro e w' ⟨v1, rfl, ho, hb⟩
    rw [List.nil_append] at ho
    obtain ⟨p1, c1, rfl⟩ := ho.form
    exact ⟨p1, c1, rfl, ho, ((Below.refl _ W0).drew).trans hb⟩)
  obtain ⟨nf, hnf⟩ : ∃ nf, (formN n).length = nf := ⟨_, rfl⟩
  have HNF := Lib.hid hnf
  obtain ⟨m, hm⟩ : ∃ m, d.length = m := ⟨_, rfl⟩
  have HMd := Lib.hid hm
  rw [hnf] at hfl HM
  rw [hm] at hd HK HW0 HD ⊢
  have k0 := HK.out.cell 0 (u := .int .u64 (n : Int)) rfl
  have k1 := HK.out.cell 1 (u := .slice p m cap) rfl
  have HS := Lib.hid (fun X (h : Below W0.heap.size W0 X) => by have := (HD.out.below h).src; rw [HMd.out] at this; exact this)
  have HK1 := Lib.hid (fun X (h : Below W0.heap.size W0 X) => (HK.out.later h).cell 1 (u := .slice p m cap) rfl)
  clear hB hnf hm hB1 hK hW0
  go_enter Tryz.func27, Tryz.ntmps27
  go_wp2_with fail
  rw [HW0.out]
  go_region_law (first
    | (go_simp; go_at_call 64; refine HN.out.mono ?_; intro e w1 h1; obtain ⟨p1, c1, rfl, ho1, hb1⟩ := HM.out _ _ h1; have HO1 := Lib.hid ho1; have HBw := Lib.hid hb1; have k2 := HK1.out _ hb1; clear h1 ho1 hb1; try go_wp2_with fail)
    | (refine step_append_src rfl _ _ 23 (by rfl) W0.heap.size 5 i0 (.int .u8 0) 1 1 Tryz.underlying23 ii iz0 iz1 iz2 rfl (by decide) _ _ _ (by rfl) HO1.out _ m (cellsB d) (by rfl) (HS.out _ HBw.out) (nf + m) (by rw [HNF.out]) (by unfold maxLen; omega) (by omega) (HBw.out.size) ?_; intro pA cA wA hownA hgrowA; have HOf := Lib.hid hownA; have HBf := Lib.hid (HBw.out.grown hgrowA HBw.out.size (fun j hj => (World.ownsRow.lt HO1.out j hj).1)); clear hownA hgrowA))
  all_goals
    go_wp2_with fail
    go_ret
    refine ⟨_, rfl, ?_, ?_⟩
    · have := ownB_app HOf.out (by rw [HNF.out, HMd.out])
      have h2 := this.base HB1.out.size
      unfold OwnB at h2 ⊢
      rw [List.length_append, HNF.out, HMd.out] at h2 ⊢
      exact h2
    · exact then_ HB1.out HBf.out
def putE12 (r : Rc) : Nat := faultE r.n r.d.length
def putB12 (r : Rc) : List UInt8 := if okRc r then formR r else []
/-- What a Put leaves: an error, or a form in memory of its own. -/
def PutR12 (r : Rc) (w : World) (e : Ending) (w' : World) : Prop := ∃ v, e = .returned (.tuple #[v, .int .i64 (putE12 r : Nat)]) ∧ OwnB w' w.heap.size v (putB12 r) ∧ Below w.heap.size w w'
set_option maxHeartbeats 4000000 in
set_option maxRecDepth 100000 in
theorem sput_any (r : Rc) (hn : r.n < 18446744073709551616) (v : Value) (w : World) (hE : Env w) (hP : PartsIs w) (hB : Bs w v r.d) : Calls Tryz.prog 5 #[recV r.n v] w (PutR12 r w) := by
  obtain ⟨n, d⟩ := r
  simp only at hn hB
  obtain ⟨p, cap, rfl⟩ := hB.form
  have hB1 := below_one w (.cells #[.int .u64 (n : Int), .slice p d.length cap] 30)
  have hK := Blk.new w 30 #[.int .u64 (n : Int), .slice p d.length cap]
  have HFt := Lib.hid (fault_any n p d.length cap _ (hP.below hB1))
  obtain ⟨W0, hW0⟩ : ∃ W0, w.alloc (.cells #[.int .u64 (n : Int), .slice p d.length cap] 30) = W0 := ⟨_, rfl⟩
  rw [hW0] at hB1 hK HFt
  have HW0 := Lib.hid hW0
  have HB1 := Lib.hid hB1
  have HK := Lib.hid hK
  have HD := Lib.hid (hB.below hB1)
  have HE := Lib.hid hE
  have k0 := hK.cell 0 (u := .int .u64 (n : Int)) rfl
  have k1 := hK.cell 1 (u := .slice p d.length cap) rfl
  unfold PutR12 putE12 putB12
  have hfo := fault_ok n d
  simp only
  by_cases hok : okRc ⟨n, d⟩ = true
  · have hf0 := hfo.2 hok
    rw [hf0] at HFt ⊢
    rw [if_pos hok]
    have HMy := Lib.hid (body_may hok)
    have hd : d.length ≤ 1500 := ((okRc_iff _).1 hok).2
    have HBo := Lib.hid (fun X (h : Below W0.heap.size W0 X) => body_any n hn _ d X (HD.out.below h) (by omega))
    have HBL : Hid (bodyL ⟨n, d⟩ = formN n ++ d) := Lib.hid rfl
    have HFR : Hid (formR ⟨n, d⟩ = frm (formN n ++ d)) := Lib.hid rfl
    rw [HBL.out] at HMy
    rw [HFR.out]
    obtain ⟨Q, hQ⟩ : ∃ Q, formN n ++ d = Q := ⟨_, rfl⟩
    rw [hQ] at HMy HBo ⊢
    have HK1 := Lib.hid (fun X (h : Below W0.heap.size W0 X) => (⟨(HK.out.later h).cell 0 (u := .int .u64 (n : Int)) rfl, (HK.out.later h).cell 1 (u := .slice p d.length cap) rfl⟩ : X.cell? ⟨w.heap.size, 0, none⟩ = some (.int .u64 (n : Int)) ∧ X.cell? ⟨w.heap.size, 1, none⟩ = some (.slice p d.length cap)))
    generalize d.length = m at *
    clear hB hQ HBL HFR hfo hok hf0 hE hP hB1 hK hW0 hd
    go_enter Tryz.func5, Tryz.ntmps5
    go_wp2_with fail
    rw [HW0.out]
    go_wp2_with fail
    refine HFt.out.mono ?_; rintro e w1 ⟨rfl, b1⟩
    have HB2 := Lib.hid b1
    obtain ⟨k2, k3⟩ := HK1.out _ b1
    clear b1 k0 k1 HFt
    go_wp2_with fail
    refine (HBo.out _ HB2.out).mono ?_; rintro e w2 ⟨v2, rfl, ho2, b2⟩
    have HB3 := Lib.hid (HB1.out.trans ((then_ HB2.out b2).mono HB1.out.size))
    have HPf := Lib.hid (fput_any v2 Q w2 (HE.out.below HB3.out) ho2.bs)
    obtain ⟨p2, c2, rfl⟩ := ho2.form
    have hpg := put_good HMy.out
    have HPR : Hid (∀ e w', PutR Q w2 e w' → ∃ v, e = .returned (.tuple #[v, .int .i64 0]) ∧ OwnB w' w2.heap.size v (frm Q) ∧ Below w2.heap.size w2 w') := Lib.hid (by
      rintro e w' ⟨v, h1, h2, h3⟩
      rw [hpg.1] at h1
      rw [hpg.2] at h2
      exact ⟨v, h1, h2, h3⟩)
    generalize Q.length = nq at *
    clear ho2 b2 hpg HBo k2 k3
    go_wp2_with fail
    refine HPf.out.mono ?_; intro e w3 h3
    obtain ⟨v3, rfl, ho3, b3⟩ := HPR.out _ _ h3
    obtain ⟨p3, c3, rfl⟩ := ho3.form
    generalize (frm Q).length = nf at *
    have HO3 := Lib.hid (ho3.base (base' := w.heap.size) HB3.out.size)
    have HB4 := Lib.hid (then_ HB3.out b3)
    clear h3 ho3 b3 HPf HPR
    go_wp2_with fail
    go_ret2
    exact ⟨_, rfl, HO3.out, HB4.out⟩
  · have hf0 : faultE n d.length ≠ 0 := fun e => hok (hfo.1 e)
    rw [if_neg hok]
    obtain ⟨c, hc⟩ : ∃ c, faultE n d.length = c := ⟨_, rfl⟩
    rw [hc] at HFt hf0 ⊢
    generalize d.length = m at *
    have hc0 : ((c : Int) == 0) = false := by rw [beq_eq_false_iff_ne]; omega
    have hc1 : ¬ ((c : Int) = 0) := by omega
    clear hB hfo hok hc hE hP hB1 hK hW0
    go_enter Tryz.func5, Tryz.ntmps5
    go_wp2_with fail
    rw [HW0.out]
    go_wp2_with fail
    refine HFt.out.mono ?_; rintro e w1 ⟨rfl, b1⟩
    have HB2 := Lib.hid (HB1.out.trans (b1.mono HB1.out.size))
    clear b1 k0 k1 HFt
    go_wp2_with fail
    go_ret2
    exact ⟨_, rfl, OwnB.nil _ _, HB2.out⟩
theorem PutR12.good {r : Rc} {w w' : World} {e : Ending} (h : PutR12 r w e w') (hok : okRc r = true) : ∃ p c, e = .returned (.tuple #[.slice p (sizeF r) c, .int .i64 0]) ∧ OwnB w' w.heap.size (.slice p (sizeF r) c) (formR r) ∧ Below w.heap.size w w' := by
  obtain ⟨v, rfl, ho, hb⟩ := h
  have e1 : putE12 r = 0 := (fault_ok r.n r.d).2 hok
  have e2 : putB12 r = formR r := by unfold putB12; rw [if_pos hok]
  rw [e2] at ho
  rw [e1]
  obtain ⟨p, c, rfl⟩ := ho.form
  have e3 : (formR r).length = sizeF r := formR_length r
  rw [e3] at ho ⊢
  exact ⟨p, c, rfl, ho, hb⟩
end Go.Proofs.YtelocbohiddpgaaGreatDoor.Crc
