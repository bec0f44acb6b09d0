/- Layer 8: the contract of the statements' first question: the chapter's example. -/
import Derived.Test.YtlnjmcodgdebmaaGreatHrj
set_option linter.unusedSimpArgs false
set_option linter.unusedVariables false
namespace Go.Proofs.YtlnjmcodgdebmaaGreat.Gm
open Go Go.RowKit Go.Maps
attribute [local go_sem ↓] Go.wp_at_zero Go.wp_at_succ

theorem es_new2 (a b : At) (w : World) : Es (w.alloc (.cells #[.string a.nm, .int .i64 a.v.k, .int .i64 a.v.n, .string a.v.s, .bool a.v.b, .string b.nm, .int .i64 b.v.k, .int .i64 b.v.n, .string b.v.s, .bool b.v.b] 66)) (.slice (some ⟨w.heap.size, 0, none⟩) 2 2) [a, b] := ⟨row_blk (enc := encA) (l := [a, b]) (fun _ => rfl) (Blk.new w _ _), by simp⟩
theorem nums_new2 (a b : Int) (w : World) : RowIn encN 1 (w.alloc (.cells #[.int .i64 a, .int .i64 b] 3)) (.slice (some ⟨w.heap.size, 0, none⟩) 2 2) [a, b] := row_blk (enc := encN) (l := [a, b]) (fun _ => rfl) (Blk.new w _ _)
set_option maxHeartbeats 8000000 in
set_option maxRecDepth 100000 in
theorem awake8 (w : World) : Calls Tryz.prog 5 #[] w (Gives (.bool true) w) := by
  have HNew := Lib.hid (fun W => new8_any W)
  go_enter Tryz.func5, Tryz.ntmps5
  go_wp2_with fail
  refine (HNew.out _).mono ?_; rintro e w1 ⟨x, bp, bn, rfl, hI, hx, hbp, hbn, b1⟩
  have HI1 := Lib.hid hI
  have HB1 := Lib.hid b1
  clear hI b1
  go_wp2_with fail
  refine (n_any 1 _).mono ?_; rintro e w2 ⟨rfl, b2⟩
  have HI2 := Lib.hid ((HI1.out.later b2).later (below_one w2 (.cells (wkA.flatMap encC).toArray 45)))
  have HB2 := Lib.hid (then_ (then_ HB1.out b2) (below_one w2 (.cells (wkA.flatMap encC).toArray 45)))
  have HC2 := Lib.hid (add_ok _ x bp bn 0 0 0 _ _ [] _ _ 5 (by decide) (by decide) _ wkA _ HI2.out (by decide) (wkA_new w2) wkA_may (fun p hp => by cases hp) (by decide))
  clear b2
  go_wp2_with fail
  refine (HC2.out).mono ?_; rintro e w3 ⟨rfl, r1, S1, np1, nn1, Dp1, Dn1, F1, U1, hI3, hr1, -, hK1, -⟩
  have HI3 := Lib.hid hI3
  have HR1 := Lib.hid hr1
  have HB3 := Lib.hid (HB2.out.trans (hK1.bel HI2.out.base.1 (fun k hk => by simp only [List.mem_cons, List.not_mem_nil, or_false] at hk; rcases hk with rfl | rfl <;> assumption)))
  have HC3 := Lib.hid (add_ok _ x bp bn _ _ _ _ _ _ _ _ 2 (by decide) (by decide) _ [] _ HI3.out (by decide) (cs_nil w3) nil_may (fun p hp => by simp at hp) (by simp))
  clear hI3 hr1 hK1
  go_wp2_with fail
  refine (HC3.out).mono ?_; rintro e w4 ⟨rfl, r2, S2, np2, nn2, Dp2, Dn2, F2, U2, hI4, hr2, -, hK2, -⟩
  have HI4 := Lib.hid hI4
  have HR2 := Lib.hid hr2
  have HB4 := Lib.hid (HB3.out.trans (hK2.bel HI3.out.base.1 (fun k hk => by simp only [List.mem_cons, List.not_mem_nil, or_false] at hk; rcases hk with rfl | rfl <;> assumption)))
  clear hI4 hr2 hK2
  go_wp2_with fail
  refine (n_any 1 _).mono ?_; rintro e w5 ⟨rfl, b5⟩
  have HI5 := Lib.hid ((HI4.out.later b5).later (below_one w5 (.cells (wkB.flatMap encC).toArray 45)))
  have HB5 := Lib.hid (then_ (then_ HB4.out b5) (below_one w5 (.cells (wkB.flatMap encC).toArray 45)))
  have HC5 := Lib.hid (add_ok _ x bp bn _ _ _ _ _ _ _ _ 9 (by decide) (by decide) _ wkB _ HI5.out (by decide) (wkB_new w5) wkB_may (fun p hp => by simp at hp) (by simp))
  clear b5
  go_wp2_with fail
  refine (HC5.out).mono ?_; rintro e w6 ⟨rfl, r3, S3, np3, nn3, Dp3, Dn3, F3, U3, hI6, hr3, -, hK3, -⟩
  have HI6 := Lib.hid hI6
  have HRel := Lib.hid (wk_rel HR1.out HR2.out hr3)
  have HB6 := Lib.hid (HB5.out.trans (hK3.bel HI5.out.base.1 (fun k hk => by simp only [List.mem_cons, List.not_mem_nil, or_false] at hk; rcases hk with rfl | rfl <;> assumption)))
  clear hI6 hr3 hK3
  go_wp2_with fail
  refine (n_any 1 _).mono ?_; rintro e w7 ⟨rfl, b7⟩
  have HB7 := Lib.hid (then_ (Below.refl _ w6) b7)
  clear b7
  go_wp2_with fail
  refine (a_any sA (nv 1) _).mono ?_; rintro e w8 ⟨rfl, b8⟩
  have HB8 := Lib.hid (then_ HB7.out b8)
  clear b8
  go_wp2_with fail
  refine (e_any _ _ _ _).mono ?_; rintro e w9 ⟨rfl, b9⟩
  have HE9 := Lib.hid ((es_new ⟨sA, nv 1⟩ w8).later b9)
  have HB9 := Lib.hid (then_ (then_ HB8.out (below_one w8 _)) b9)
  clear b9
  go_wp2_with fail
  have HK9 := Lib.hid (Blk.new w9 34 #[.string ⟨#[]⟩, .slice (some ⟨w8.heap.size, 0, none⟩) 1 1])
  have HBa := Lib.hid (then_ HB9.out (below_one w9 (.cells #[.string ⟨#[]⟩, .slice (some ⟨w8.heap.size, 0, none⟩) 1 1] 34)))
  have HEa := Lib.hid (HE9.out.later (below_one w9 (.cells #[.string ⟨#[]⟩, .slice (some ⟨w8.heap.size, 0, none⟩) 1 1] 34)))
  obtain ⟨wa, hwa⟩ : ∃ wa, w9.alloc (.cells #[.string ⟨#[]⟩, .slice (some ⟨w8.heap.size, 0, none⟩) 1 1] 34) = wa := ⟨_, rfl⟩
  rw [hwa] at HK9 HBa HEa
  have HWa := Lib.hid hwa
  obtain ⟨g1, hg1⟩ : ∃ g1, w9.heap.size = g1 := ⟨_, rfl⟩
  obtain ⟨g0, hg0⟩ : ∃ g0, w8.heap.size = g0 := ⟨_, rfl⟩
  rw [hg1, hg0] at HK9
  rw [hg0] at HEa
  rw [hwa, hg1, hg0]
  clear hwa hg1 HE9 HB9 HWa
  refine (n_any 0 _).mono ?_; rintro e wb ⟨rfl, bb⟩
  have HBb := Lib.hid (then_ (Below.refl _ wa) bb)
  clear bb
  go_wp2_with fail
  refine (a_any sA (nv 0) _).mono ?_; rintro e wc ⟨rfl, bc⟩
  have HBc := Lib.hid (then_ HBb.out bc)
  clear bc
  go_wp2_with fail
  refine (s_any ⟨#[]⟩ _).mono ?_; rintro e wd ⟨rfl, bd⟩
  have HBd := Lib.hid (then_ HBc.out bd)
  clear bd
  go_wp2_with fail
  refine (a_any sB (tv ⟨#[]⟩) _).mono ?_; rintro e we ⟨rfl, be⟩
  have HBe := Lib.hid (then_ HBd.out be)
  clear be
  go_wp2_with fail
  refine (e_any _ _ _ _).mono ?_; rintro e wf ⟨rfl, bf⟩
  have HEf := Lib.hid ((es_new2 ⟨sA, nv 0⟩ ⟨sB, tv ⟨#[]⟩⟩ we).later bf)
  have HBf := Lib.hid (then_ (then_ HBe.out (below_one we _)) bf)
  clear bf
  have HKf := Lib.hid (Blk.new wf 34 #[.string ⟨#[]⟩, .slice (some ⟨we.heap.size, 0, none⟩) 2 2])
  have HBg := Lib.hid (then_ HBf.out (below_one wf (.cells #[.string ⟨#[]⟩, .slice (some ⟨we.heap.size, 0, none⟩) 2 2] 34)))
  have HEg := Lib.hid (HEf.out.later (below_one wf (.cells #[.string ⟨#[]⟩, .slice (some ⟨we.heap.size, 0, none⟩) 2 2] 34)))
  have HIg := Lib.hid (HI6.out.later (then_ HBa.out HBg.out))
  have HE1g := Lib.hid (HEa.out.later HBg.out)
  have HK1g := Lib.hid (HK9.out.later HBg.out)
  have x0 := HK1g.out.cell 0 rfl
  have x1 := HK1g.out.cell 1 rfl
  clear HEf HBf
  have hsA : ∀ a ∈ wkE1, a.nm.size ≤ maxLen := fun a ha => by simp only [List.mem_singleton] at ha; subst ha; decide
  have hsB : ∀ a ∈ wkE2, a.nm.size ≤ maxLen := fun a ha => by simp only [List.mem_cons, List.not_mem_nil, or_false] at ha; rcases ha with rfl | rfl <;> decide
  have HM1 := Lib.hid (HIg.out.matchC ⟨#[]⟩ _ wkE1 HE1g.out hsA)
  go_wp2_with fail
  clear x0 x1
  obtain ⟨wg, hwg⟩ : ∃ wg, wf.alloc (.cells #[.string ⟨#[]⟩, .slice (some ⟨we.heap.size, 0, none⟩) 2 2] 34) = wg := ⟨_, rfl⟩
  obtain ⟨g3, hg3⟩ : ∃ g3, wf.heap.size = g3 := ⟨_, rfl⟩
  rw [hwg] at HIg HE1g HK1g HKf HEg HM1 HBg ⊢
  rw [hg3] at HKf ⊢
  obtain ⟨g2, hg2⟩ : ∃ g2, we.heap.size = g2 := ⟨_, rfl⟩
  rw [hg2] at HKf HEg ⊢
  clear hwg hg3 hg2
  refine HM1.out.mono ?_; rintro e wh ⟨v, rfl, hO, bh⟩
  rw [(matched_rel wkL_rise HRel.out wkE1).trans wk_1] at hO
  obtain ⟨pv, cv, rfl⟩ := own_shape hO
  have HBh := Lib.hid (then_ HBg.out bh)
  have HBhg := Lib.hid bh
  have HIh := Lib.hid (HIg.out.later bh)
  have HOh := Lib.hid hO.row
  clear hO bh HM1
  go_wp2_with fail
  have HS1 := Lib.hid (same_nums _ _ [2, 5] [2, 5] _ (HOh.out.later (below_one wh (.cells #[.int .i64 2, .int .i64 5] 3))) (nums_new2 2 5 wh) (by decide))
  rw [show decide (([2, 5] : List Int) = [2, 5]) = true from by decide] at HS1
  refine HS1.out.mono ?_; rintro e wi ⟨rfl, bi⟩
  have HBi := Lib.hid (then_ (then_ HBh.out (below_one wh (.cells #[.int .i64 2, .int .i64 5] 3))) bi)
  have HIi := Lib.hid ((HIh.out.later (below_one wh (.cells #[.int .i64 2, .int .i64 5] 3))).later bi)
  have bgi : Below wg.heap.size wg wi := then_ (then_ HBhg.out (below_one wh (.cells #[.int .i64 2, .int .i64 5] 3))) bi
  have HE2i := Lib.hid (HEg.out.later bgi)
  have HE1i := Lib.hid (HE1g.out.later bgi)
  have HK1i := Lib.hid (HK1g.out.later bgi)
  have y0 := (HKf.out.later bgi).cell 0 rfl
  have y1 := (HKf.out.later bgi).cell 1 rfl
  clear bi bgi HS1 HIh
  have HM2 := Lib.hid (HIi.out.matchC ⟨#[]⟩ _ wkE2 HE2i.out hsB)
  go_wp2_with fail
  clear y0 y1
  refine HM2.out.mono ?_; rintro e wj ⟨v, rfl, hO, bj⟩
  rw [(matched_rel wkL_rise HRel.out wkE2).trans wk_2] at hO
  obtain ⟨pw, cw, rfl⟩ := own_shape hO
  have HS2 := Lib.hid (same_nums _ _ [2, 9] [2, 9] _ (hO.row.later (below_one wj (.cells #[.int .i64 2, .int .i64 9] 3))) (nums_new2 2 9 wj) (by decide))
  rw [show decide (([2, 9] : List Int) = [2, 9]) = true from by decide] at HS2
  have HBj := Lib.hid (then_ bj (below_one wj (.cells #[.int .i64 2, .int .i64 9] 3)))
  clear hO bj HM2
  go_wp2_with fail
  refine HS2.out.mono ?_; rintro e wk ⟨rfl, bk⟩
  have HBk := Lib.hid (then_ HBj.out bk)
  have z0 := (HK1i.out.later HBk.out).cell 0 rfl
  have z1 := (HK1i.out.later HBk.out).cell 1 rfl
  have HL := Lib.hid ((HIi.out.later HBk.out).looksC ⟨#[]⟩ _ wkE1 (HE1i.out.later HBk.out) hsA)
  rw [(looks_rel HRel.out wkE1).trans wk_3] at HL
  clear bk HS2
  go_wp2_with fail
  clear z0 z1
  refine HL.out.mono ?_; rintro e wl ⟨rfl, bl⟩
  have HEnd := Lib.hid (HB6.out.trans ((then_ HBa.out (then_ HBi.out (then_ HBk.out bl))).mono HB6.out.size))
  clear bl
  go_wp2_with fail
  go_ret
  exact ⟨rfl, HEnd.out⟩
end Go.Proofs.YtlnjmcodgdebmaaGreat.Gm
