/- The walk of the statement PredMore. -/
import Derived.Test.YtpdlgkneeilclaaKz
import Derived.Test.YtpdlgkneeilclaaKL
set_option linter.unusedSimpArgs false
set_option linter.unusedVariables false
namespace Go.Proofs.Ytpdlgkneeilclaa.Gm
open Go Go.RowKit
attribute [local go_sem ↓] Go.wp_at_zero Go.wp_at_succ

theorem cons_src {w : World} {v : Value} {l : List Cn} (h : Cs w v l) : Src w v l.length 7 (l.flatMap encC) := by
  obtain ⟨p, cap, b, o, rfl, hcap, h3, h4, h5⟩ := h.1
  cases p with
  | none =>
    have hl : l = [] := by
      by_cases hl : l = []
      · exact hl
      · have := (h3 hl).1; cases this
    subst hl
    have := h4 rfl rfl
    subst this
    exact .inl ⟨rfl, rfl, rfl⟩
  | some a =>
    refine .inr ⟨a, cap, rfl, flat_length encC_length l, fun j u hu => ?_, flat_one encC_one l⟩
    have hj : j < l.length * 7 := by have := (List.getElem?_eq_some_iff.1 hu).1; rwa [flat_length encC_length] at this
    have hl : l ≠ [] := by rintro rfl; simp at hj
    obtain ⟨ha, hb⟩ := h3 hl
    simp only [Option.some.injEq] at ha
    subst ha
    have hi : j / 7 < l.length := Nat.div_lt_of_lt_mul (by omega)
    have e : j / 7 * 7 + j % 7 = j := by omega
    have h1 : (encC (l.getD (j / 7) default))[j % 7]? = some (encC (l.getD (j / 7) default))[j % 7]! := by
      rw [getElem!_pos _ _ (by rw [encC_length]; exact Nat.mod_lt _ (by decide))]
      exact List.getElem?_eq_getElem _
    have h2 := flat_at encC_length l (j / 7) (j % 7) _ hi h1
    rw [e, hu] at h2
    have h6 := h5 (j / 7) hi (j % 7) u (by rw [h1, h2])
    rw [Nat.add_assoc, e] at h6
    rw [add_lit]
    exact h6
/-- A row that the call has put together from rows that came in. -/
theorem cs_joined {w : World} {base : Nat} {v : Value} {a b : List Cn} {N : Nat} (hN : N = a.length + b.length) (h : w.ownsRow base 37 7 v N (a.flatMap encC ++ b.flatMap encC)) (hl : a.length + b.length ≤ 1599289640401) (ha : ∀ c ∈ a, Vs w c.sv c.set) (hb : ∀ c ∈ b, Vs w c.sv c.set) : Cs w v (a ++ b) := by
  refine ⟨row_of_own (base := base) (e := 37) encC_length ?_, by rw [List.length_append]; exact hl, fun c hc => ?_⟩
  · rw [List.length_append, List.flatMap_append, ← hN]; exact h
  · rcases List.mem_append.1 hc with hc | hc
    · exact ha c hc
    · exact hb c hc
theorem matches_join (a b : List Cn) (l : List At) : matchesB (a ++ b) l = (matchesB a l && matchesB b l) := by unfold matchesB; rw [List.all_append]
theorem ev_hold {W : World} {g : Nat} {key : ByteArray} {sl : Value} (h1 : Blk W g 43 #[.string key, sl]) (w' : World) (h : Below W.heap.size W w') :
    Below W.heap.size W w' ∧ w'.cell? ⟨g, 0, none⟩ = some (.string key) ∧ w'.cell? ⟨g, 1, none⟩ = some sl := ⟨h, (h1.later h).cell 0 rfl, (h1.later h).cell 1 rfl⟩
theorem cs_nil (w : World) : Cs w (.slice none 0 0) [] := ⟨⟨none, 0, 0, 0, rfl, Nat.le_refl _, fun h => absurd rfl h, fun _ _ => rfl, fun i hi => by simp at hi⟩, by simp, fun c hc => by simp at hc⟩
set_option maxHeartbeats 8000000 in
set_option maxRecDepth 100000 in
theorem law_pmore (vp vq : Value) (p q : List Cn) (key : ByteArray) (sl : Value) (attrs : List At) (w : World) (hP : Cs w vp p) (hQ : Cs w vq q) (hE : Es w sl attrs) (hl : p.length + q.length ≤ 1048576) :
    Calls Try.prog 6 #[vp, vq, .agg #[.string key, sl]] w (Gives (.bool true) w) := by
  obtain ⟨i0, ii, iz0, iz1, iz2⟩ := info_parts infoC
  obtain ⟨p0, c0, rfl⟩ := hP.1.form
  obtain ⟨p1, c1, rfl⟩ := hQ.1.form
  obtain ⟨pe, ce, rfl⟩ := hE.1.form
  have hA := below_one w (.cells #[.string key, .slice pe attrs.length ce] 43)
  have hB1 : Below w.heap.size w ((w.alloc (.cells #[.string key, .slice pe attrs.length ce] 43)).alloc (.cells #[] 37)) := hA.alloc (by simp) _
  have k0 : Blk ((w.alloc (.cells #[.string key, .slice pe attrs.length ce] 43)).alloc (.cells #[] 37)) w.heap.size 43 #[.string key, .slice pe attrs.length ce] := (Blk.new _ _ _).alloc _
  have hO1 : ((w.alloc (.cells #[.string key, .slice pe attrs.length ce] 43)).alloc (.cells #[] 37)).ownsRow (w.heap.size + 1) 37 7 (.slice (some ⟨w.heap.size + 1, 0, none⟩) 0 0) 0 [] := by
    simpa using World.ownsRow_made (base := w.heap.size + 1) (e := 37) (size := 7) (w.alloc (.cells #[.string key, .slice pe attrs.length ce] 43)) #[] 0 (by simp) (Nat.zero_le _) (by simp)
  have HSp := Lib.hid (cons_src (hP.later hB1))
  have HP := Lib.hid hP
  have HQ := Lib.hid hQ
  have HE := Lib.hid hE
  have HB1 := Lib.hid hB1
  have HK0 := Lib.hid k0
  have HO1 := Lib.hid hO1
  have HJ := Lib.hid (matches_join p q attrs)
  clear hP hQ hE hA hB1 k0 hO1
  go_enter Try.func6, Try.ntmps6
  go_wp2_with (first | (at_builtin; refine wpList_append_src (by rfl) _ _ 23 (by rfl) (w.heap.size + 1) 37 i0 (.agg #[.string ⟨#[]⟩, .int .i64 0, .int .i64 0, .int .i64 0, .string ⟨#[]⟩, .bool false, .slice none 0 0]) 7 88 Try.underlying23 ii iz0 iz1 iz2 rfl (by decide) (.slice (some ⟨w.heap.size + 1, 0, none⟩) 0 0) 0 [] (by rfl) HO1.out _ p.length (p.flatMap encC) (by rfl) HSp.out p.length (by omega) (by unfold maxLen; omega) (by omega) (by simp) ?_; intro pA capA w3 hown3 hgrow3; rw [List.nil_append] at hown3; have HO3 := Lib.hid hown3; have HB3 := Lib.hid (HB1.out.grown hgrow3 HB1.out.size (fun j hj => by simp [Value.ownBlock] at hj; omega)); have HK3 := Lib.hid (HK0.out.grown hgrow3 (by simp [Value.ownBlock])); have HS3 := Lib.hid (cons_src (HQ.out.later HB3.out)); have hz3 : w.heap.size + 1 ≤ w3.heap.size := HK3.out.lt; clear hown3 hgrow3 HO1 HSp) | (at_builtin; refine wpList_append_src (by rfl) _ _ 23 (by rfl) (w.heap.size + 1) 37 i0 (.agg #[.string ⟨#[]⟩, .int .i64 0, .int .i64 0, .int .i64 0, .string ⟨#[]⟩, .bool false, .slice none 0 0]) 7 88 Try.underlying23 ii iz0 iz1 iz2 rfl (by decide) _ _ _ (by rfl) HO3.out _ q.length (q.flatMap encC) (by rfl) HS3.out (p.length + q.length) rfl (by unfold maxLen; omega) (by omega) hz3 ?_; intro pB capB w4 hown4 hgrow4; have HO4 := Lib.hid hown4; have HB4 := Lib.hid (HB3.out.grown hgrow4 HB3.out.size (fun j hj => by have := (World.ownsRow.lt HO3.out j hj).1; omega)); have HK4 := Lib.hid (HK3.out.grown hgrow4 (by intro hj; have := (World.ownsRow.lt HO3.out _ hj).1; omega)); clear hown4 hgrow4))
  have HCs := Lib.hid (cs_joined rfl HO4.out (by omega) (fun c hc => (HP.out.2.2 c hc).later HB4.out) (fun c hc => (HQ.out.2.2 c hc).later HB4.out))
  have HPs := Lib.hid (HP.out.later HB4.out)
  have HQs := Lib.hid (HQ.out.later HB4.out)
  have HEs := Lib.hid (HE.out.later HB4.out)
  have HM0 := Lib.hid (fun W (h : Below w4.heap.size w4 W) => matches_any _ _ key _ attrs W (HCs.out.later h) (HEs.out.later h))
  have HM1 := Lib.hid (fun W (h : Below w4.heap.size w4 W) => matches_any _ _ key _ attrs W (HPs.out.later h) (HEs.out.later h))
  have HM2 := Lib.hid (fun W (h : Below w4.heap.size w4 W) => matches_any _ _ key _ attrs W (HQs.out.later h) (HEs.out.later h))
  have HM3 := Lib.hid (fun W (h : Below w4.heap.size w4 W) => matches_any (.slice none 0 0) [] key _ attrs W (cs_nil W) (HEs.out.later h))
  have HK4' := Lib.hid HK4.out
  rw [HJ.out] at HM0
  generalize matchesB p attrs = m1 at HM0 HM1
  generalize matchesB q attrs = m2 at HM0 HM2
  clear HJ HP HQ HE HO3 HB3 HK3 HS3 HO4 HK4 HCs HPs HQs HEs HB1 HK0
  cases m1 <;> cases m2
  all_goals
    have e0 := fun (z : Later w4) => Later.cell (HK4'.out.cell 0 rfl) z
    have e1 := fun (z : Later w4) => Later.cell (HK4'.out.cell 1 rfl) z
    refine wp_region_later (by kernel_rfl) (by kernel_rfl) ?_
    repeat (quiet_step ((first | (go_at_call 21; exact later_call _ (awake_any _)) | (go_at_call 24; first | (with_reducible exact later_call _ (HM0.out _ (Later.bel _))) | (with_reducible exact later_call _ (HM1.out _ (Later.bel _))) | (with_reducible exact later_call _ (HM2.out _ (Later.bel _))) | (with_reducible exact later_call _ (HM3.out _ (Later.bel _)))))))
    refine wpQuiet_nil ?_
    intro _ hw'
    obtain ⟨⟨wq, hbq⟩, rfl⟩ := hw'
    have HEnd := Lib.hid (then_ HB4.out hbq)
    clear hbq e0 e1
    go_wp2_with fail
    go_ret
    exact ⟨rfl, HEnd.out⟩
end Go.Proofs.Ytpdlgkneeilclaa.Gm
