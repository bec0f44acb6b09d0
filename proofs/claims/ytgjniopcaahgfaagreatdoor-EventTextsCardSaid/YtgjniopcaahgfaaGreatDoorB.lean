/- The contract of the document's Parse. -/
import Derived.Test.YtgjniopcaahgfaaGreatDoorS
import Derived.Test.YtgjniopcaahgfaaGreatDoorI
import Derived.Test.YtgjniopcaahgfaaGreatDoorJ
import Derived.Test.YtgjniopcaahgfaaGreatDoorY
import Derived.Test.YtgjniopcaahgfaaGreatDoorP
set_option linter.unusedSimpArgs false
set_option linter.unusedVariables false
namespace Go.Proofs.YtgjniopcaahgfaaGreatDoor
open Go.RowKit

theorem refnumber_any (s : ByteArray) (w : World) : Calls Tryz.prog 35 #[.string s] w (Num s w) := by
  by_cases h0 : s.size = 0
  · exact number_empty s h0 w
  have h0' : 0 < s.size := by omega
  by_cases hm : ∃ r, s.data.toList = 45 :: r
  · obtain ⟨r, hr⟩ := hm
    by_cases h : s.size - 1 = 0 ∨ 19 < s.size - 1
    · exact number_sign s r h0' hr h w
    · exact number_neg s r h0' hr (by omega) (by omega) w
  · have hne : ∀ r, s.data.toList ≠ 45 :: r := fun r hr => hm ⟨r, hr⟩
    by_cases h : 19 < s.size
    · exact number_long s h hne w
    · exact number_pos s h0' hne (by omega) w

/-- The document's Parse at its end: no value in the block of its result, its guess in the next one. -/
def PF (w x : World) (k n : Int) (t : ByteArray) (b : Bool) : Prop :=
  At4 x w.heap.size 0 0 ⟨#[]⟩ false ∧ At4 x (w.heap.size + 1) k n t b ∧ Free4 x w.heap.size ∧ Free4 x (w.heap.size + 1) ∧ Below w.heap.size w x ∧ w.heap.size + 1 < x.heap.size
theorem calls_abs {f : Nat} {vs : Array Value} {w : World} {post : Ending → World → Prop} (F : World → Prop) (h : F w) (h2 : ∀ x, F x → Calls Tryz.prog f vs x post) : Calls Tryz.prog f vs w post := h2 w h
theorem PF.later {w x y : World} {k n : Int} {t : ByteArray} {b : Bool} (h : PF w x k n t b) (hb : Below x.heap.size x y) : PF w y k n t b := by
  obtain ⟨h1, h2, h3, h3', h4, h5⟩ := h
  exact ⟨h1.below hb, h2.below hb, h3.below (by omega) hb, h3'.below (by omega) hb, h4.trans (hb.mono (by have := h4.size; omega)), Nat.lt_of_lt_of_le h5 hb.size⟩
theorem pf_new (w : World) (k n : Int) (t : ByteArray) (b : Bool) : PF w ((w.alloc (.cells #[.int .i64 0, .int .i64 0, .string ⟨#[]⟩, .bool false] 40)).alloc (.cells #[.int .i64 k, .int .i64 n, .string t, .bool b] 40)) k n t b := by
  have h1 := At4.new (w.alloc (.cells #[.int .i64 0, .int .i64 0, .string ⟨#[]⟩, .bool false] 40)) k n t b
  have h2 : Free4 ((w.alloc (.cells #[.int .i64 0, .int .i64 0, .string ⟨#[]⟩, .bool false] 40)).alloc (.cells #[.int .i64 k, .int .i64 n, .string t, .bool b] 40)) (w.alloc (.cells #[.int .i64 0, .int .i64 0, .string ⟨#[]⟩, .bool false] 40)).heap.size := free4_new (Below.refl _ _)
  refine ⟨(At4.new w 0 0 ⟨#[]⟩ false).alloc _, by simpa using h1, free4_new ((Below.refl _ _).alloc (Nat.le_refl _) _), by simpa using h2, ((Below.refl _ _).alloc (Nat.le_refl _) _).alloc (by simp) _, by simp⟩
theorem PF.put {w x : World} {k n : Int} {t : ByteArray} {b : Bool} (h : PF w x k n t b) (k' n' : Int) (t' : ByteArray) (b' : Bool) : PF w (put4 x (w.heap.size + 1) k' n' t' b') k' n' t' b' := by
  obtain ⟨⟨a0, a1, a2, a3⟩, ⟨b0, b1, b2, b3⟩, ⟨f0, f1, f2, f3⟩, ⟨g0, g1, g2, g3⟩, h4, h5⟩ := h
  refine ⟨⟨?_, ?_, ?_, ?_⟩, ⟨?_, ?_, ?_, ?_⟩, ⟨?_, ?_, ?_, ?_⟩, ⟨?_, ?_, ?_, ?_⟩, below_put4 h4 (by omega), ?_⟩
  all_goals simp [put4, go_sem, *]

set_option maxHeartbeats 4000000 in
set_option maxRecDepth 20000 in
theorem refparse_any (s : ByteArray) (hs : s.size ≤ 140737488351232) (w : World) : Calls Tryz.prog 17 #[.string s] w (Parsed s w) := by
  have HS := Lib.hid hs
  clear hs
  go_enter Tryz.func17, Tryz.ntmps17
  go_wp2_with fail
  refine (refnumber_any s _).mono ?_
  rintro e w1 ⟨n, is, rfl, hok, rfl⟩
  have HK := Lib.hid hok
  clear hok
  cases is
  · cases h1 : (s.toList == [116, 114, 117, 101]) with
    | true =>
      have HF : Hid (Fits 0) := Lib.hid ⟨by decide, by decide⟩
      have HG := Lib.hid (guess_of_bool (s := s) (b := true) ((toList_eq_of h1).trans formatBool_true.symm))
      go_wp2_with fail
      refine calls_abs (fun x => PF w x 3 0 ⟨#[]⟩ true) (pf_new w 3 0 ⟨#[]⟩ true) ?_
      intro x hpf
      by_cases hm : mayB 3 0 ⟨#[]⟩ true = true
      · by_cases ht : txt 3 0 ⟨#[]⟩ true = s.data.toList
        · have HM : Hid (ParseRes s (.tuple #[val 3 0 ⟨#[]⟩ true, .int .i64 0])) := Lib.hid ((res_of_guess HF.out HG.out).1 ⟨hm, HF.out, ht⟩)
          have he : (txt 3 0 ⟨#[]⟩ true == s.toList) = true := by rw [toList_data, beq_iff_eq]; exact ht
          refine (reftext_yes 3 0 ⟨#[]⟩ true x HF.out hm).mono ?_
          rintro e y ⟨rfl, hb2⟩
          obtain ⟨⟨a0, a1, a2, a3⟩, ⟨b0, b1, b2, b3⟩, ⟨f0, f1, f2, f3⟩, _, hL, _⟩ := hpf.later hb2
          clear hm ht hpf
          go_wp2_with fail
          exact bodyPost_ret (v := .tuple #[val 3 0 ⟨#[]⟩ true, .int .i64 0]) (by simp [results, Tryz.results17, go_sem, a0, a1, a2, a3]) rfl ⟨_, rfl, HM.out, below_put4 hL (Nat.le_refl _)⟩
        · have HM : Hid (ParseRes s (.tuple #[val 0 0 ⟨#[]⟩ false, .int .i64 5])) := Lib.hid ((res_of_guess HF.out HG.out).2 fun h => ht h.2.2)
          have he : (txt 3 0 ⟨#[]⟩ true == s.toList) = false := by rw [toList_data, beq_eq_false_iff_ne]; exact ht
          refine (reftext_yes 3 0 ⟨#[]⟩ true x HF.out hm).mono ?_
          rintro e y ⟨rfl, hb2⟩
          obtain ⟨⟨a0, a1, a2, a3⟩, ⟨b0, b1, b2, b3⟩, ⟨f0, f1, f2, f3⟩, _, hL, _⟩ := hpf.later hb2
          clear hm ht hpf
          go_wp2_with fail
          exact bodyPost_ret (v := .tuple #[val 0 0 ⟨#[]⟩ false, .int .i64 5]) (by simp [results, Tryz.results17, go_sem, a0, a1, a2, a3]) rfl ⟨_, rfl, HM.out, below_put4 hL (Nat.le_refl _)⟩
      · have HM : Hid (ParseRes s (.tuple #[val 0 0 ⟨#[]⟩ false, .int .i64 5])) := Lib.hid ((res_of_guess HF.out HG.out).2 fun h => hm h.1)
        have hm' : mayB 3 0 ⟨#[]⟩ true = false := by simpa using hm
        refine (reftext_no 3 0 ⟨#[]⟩ true x hm').mono ?_
        rintro e y ⟨rfl, hb2⟩
        obtain ⟨⟨a0, a1, a2, a3⟩, ⟨b0, b1, b2, b3⟩, ⟨f0, f1, f2, f3⟩, _, hL, _⟩ := hpf.later hb2
        clear hm hm' hpf
        go_wp2_with fail
        exact bodyPost_ret (v := .tuple #[val 0 0 ⟨#[]⟩ false, .int .i64 5]) (by simp [results, Tryz.results17, go_sem, a0, a1, a2, a3]) rfl ⟨_, rfl, HM.out, below_put4 hL (Nat.le_refl _)⟩
    | false =>
      cases h2 : (s.toList == [102, 97, 108, 115, 101]) with
      | true =>
        have HF : Hid (Fits 0) := Lib.hid ⟨by decide, by decide⟩
        have HG := Lib.hid (guess_of_bool (s := s) (b := false) ((toList_eq_of h2).trans formatBool_false.symm))
        go_wp2_with fail
        refine calls_abs (fun x => PF w x 3 0 ⟨#[]⟩ false) (pf_new w 3 0 ⟨#[]⟩ false) ?_
        intro x hpf
        by_cases hm : mayB 3 0 ⟨#[]⟩ false = true
        · by_cases ht : txt 3 0 ⟨#[]⟩ false = s.data.toList
          · have HM : Hid (ParseRes s (.tuple #[val 3 0 ⟨#[]⟩ false, .int .i64 0])) := Lib.hid ((res_of_guess HF.out HG.out).1 ⟨hm, HF.out, ht⟩)
            have he : (txt 3 0 ⟨#[]⟩ false == s.toList) = true := by rw [toList_data, beq_iff_eq]; exact ht
            refine (reftext_yes 3 0 ⟨#[]⟩ false x HF.out hm).mono ?_
            rintro e y ⟨rfl, hb2⟩
            obtain ⟨⟨a0, a1, a2, a3⟩, ⟨b0, b1, b2, b3⟩, ⟨f0, f1, f2, f3⟩, _, hL, _⟩ := hpf.later hb2
            clear hm ht hpf
            go_wp2_with fail
            exact bodyPost_ret (v := .tuple #[val 3 0 ⟨#[]⟩ false, .int .i64 0]) (by simp [results, Tryz.results17, go_sem, a0, a1, a2, a3]) rfl ⟨_, rfl, HM.out, below_put4 hL (Nat.le_refl _)⟩
          · have HM : Hid (ParseRes s (.tuple #[val 0 0 ⟨#[]⟩ false, .int .i64 5])) := Lib.hid ((res_of_guess HF.out HG.out).2 fun h => ht h.2.2)
            have he : (txt 3 0 ⟨#[]⟩ false == s.toList) = false := by rw [toList_data, beq_eq_false_iff_ne]; exact ht
            refine (reftext_yes 3 0 ⟨#[]⟩ false x HF.out hm).mono ?_
            rintro e y ⟨rfl, hb2⟩
            obtain ⟨⟨a0, a1, a2, a3⟩, ⟨b0, b1, b2, b3⟩, ⟨f0, f1, f2, f3⟩, _, hL, _⟩ := hpf.later hb2
            clear hm ht hpf
            go_wp2_with fail
            exact bodyPost_ret (v := .tuple #[val 0 0 ⟨#[]⟩ false, .int .i64 5]) (by simp [results, Tryz.results17, go_sem, a0, a1, a2, a3]) rfl ⟨_, rfl, HM.out, below_put4 hL (Nat.le_refl _)⟩
        · have HM : Hid (ParseRes s (.tuple #[val 0 0 ⟨#[]⟩ false, .int .i64 5])) := Lib.hid ((res_of_guess HF.out HG.out).2 fun h => hm h.1)
          have hm' : mayB 3 0 ⟨#[]⟩ false = false := by simpa using hm
          refine (reftext_no 3 0 ⟨#[]⟩ false x hm').mono ?_
          rintro e y ⟨rfl, hb2⟩
          obtain ⟨⟨a0, a1, a2, a3⟩, ⟨b0, b1, b2, b3⟩, ⟨f0, f1, f2, f3⟩, _, hL, _⟩ := hpf.later hb2
          clear hm hm' hpf
          go_wp2_with fail
          exact bodyPost_ret (v := .tuple #[val 0 0 ⟨#[]⟩ false, .int .i64 5]) (by simp [results, Tryz.results17, go_sem, a0, a1, a2, a3]) rfl ⟨_, rfl, HM.out, below_put4 hL (Nat.le_refl _)⟩
      | false =>
        have hno1 : ∀ k n' t b, IsTxt s k n' t b → ∃ xs, s.data.toList = 34 :: (escAll xs ++ [34]) := by
          intro k n' t b h
          rcases txt_kind h.1 with ⟨_, _, _, h4⟩ | ⟨_, _, _, h4, _⟩ | ⟨_, _, _, h4⟩
          · have := (HK.out.2 n' h.2.1 (h.2.2.symm.trans h4)).1
            cases this
          · exact ⟨_, h.2.2.symm.trans h4⟩
          · have h5 := h.2.2.symm.trans h4
            rw [← toList_data] at h5
            cases b
            · rw [formatBool_false] at h5; rw [h5] at h2; exact absurd h2 (by decide)
            · rw [formatBool_true] at h5; rw [h5] at h1; exact absurd h1 (by decide)
        have HN1 := Lib.hid hno1
        clear hno1
        by_cases hz : 2 ≤ s.size
        · have hzI : (2 : Int) ≤ (s.size : Int) := by omega
          have hz0 : 0 < s.size := by omega
          have hz0I : (0 : Int) < (s.size : Int) := by omega
          by_cases h0 : (s[0]'hz0).toNat = 34
          · have e0 : (((s[0]'hz0).toNat : Int) == 34) = true := by rw [beq_iff_eq]; omega
            have H34 : Hid (∃ r, s.data.toList = 34 :: r) := Lib.hid (by
              have := list_at s 0 hz0
              rw [List.drop_zero] at this
              exact ⟨_, by rw [this, UInt8.toNat_inj.1 (show (s[0]'hz0).toNat = (34 : UInt8).toNat from h0)]⟩)
            have H2 := Lib.hid hz
            clear h0
            go_wp2_with (go_at_call 36; refine (refword_any s H2.out HS.out _).mono ?_; rintro e w2 ⟨out, rfl, hlen, hout, hb2⟩; have hpw := (pf_new w 0 0 ⟨#[]⟩ false).later hb2; have HO := Lib.hid hout; clear hout; obtain ⟨⟨a0, a1, a2, a3⟩, ⟨b0, b1, b2, b3⟩, ⟨f0, f1, f2, f3⟩, ⟨g0, g1, g2, g3⟩, hL, hS⟩ := hpw; have hpw := (pf_new w 0 0 ⟨#[]⟩ false).later hb2)
            have HF : Hid (Fits 0) := Lib.hid ⟨by decide, by decide⟩
            have HG := Lib.hid (by obtain ⟨r, hr⟩ := H34.out; exact guess_of_str (s := s) (out := out) HO.out hr)
            clear a0 a1 a2 a3 b0 b1 b2 b3 f0 f1 f2 f3 g0 g1 g2 g3 hL hS
            refine calls_abs (fun x => PF w x 2 0 ⟨out.toArray⟩ false) (hpw.put 2 0 ⟨out.toArray⟩ false) ?_
            intro x hpf
            by_cases hm : mayB 2 0 ⟨out.toArray⟩ false = true
            · by_cases ht : txt 2 0 ⟨out.toArray⟩ false = s.data.toList
              · have HM : Hid (ParseRes s (.tuple #[val 2 0 ⟨out.toArray⟩ false, .int .i64 0])) := Lib.hid ((res_of_guess HF.out HG.out).1 ⟨hm, HF.out, ht⟩)
                have he : (txt 2 0 ⟨out.toArray⟩ false == s.toList) = true := by rw [toList_data, beq_iff_eq]; exact ht
                refine (reftext_yes 2 0 ⟨out.toArray⟩ false x HF.out hm).mono ?_
                rintro e y ⟨rfl, hb2⟩
                obtain ⟨⟨a0, a1, a2, a3⟩, ⟨b0, b1, b2, b3⟩, ⟨f0, f1, f2, f3⟩, _, hL, _⟩ := hpf.later hb2
                clear hm ht hpf
                go_wp2_with fail
                exact bodyPost_ret (v := .tuple #[val 2 0 ⟨out.toArray⟩ false, .int .i64 0]) (by simp [results, Tryz.results17, go_sem, a0, a1, a2, a3]) rfl ⟨_, rfl, HM.out, below_put4 hL (Nat.le_refl _)⟩
              · have HM : Hid (ParseRes s (.tuple #[val 0 0 ⟨#[]⟩ false, .int .i64 5])) := Lib.hid ((res_of_guess HF.out HG.out).2 fun h => ht h.2.2)
                have he : (txt 2 0 ⟨out.toArray⟩ false == s.toList) = false := by rw [toList_data, beq_eq_false_iff_ne]; exact ht
                refine (reftext_yes 2 0 ⟨out.toArray⟩ false x HF.out hm).mono ?_
                rintro e y ⟨rfl, hb2⟩
                obtain ⟨⟨a0, a1, a2, a3⟩, ⟨b0, b1, b2, b3⟩, ⟨f0, f1, f2, f3⟩, _, hL, _⟩ := hpf.later hb2
                clear hm ht hpf
                go_wp2_with fail
                exact bodyPost_ret (v := .tuple #[val 0 0 ⟨#[]⟩ false, .int .i64 5]) (by simp [results, Tryz.results17, go_sem, a0, a1, a2, a3]) rfl ⟨_, rfl, HM.out, below_put4 hL (Nat.le_refl _)⟩
            · have HM : Hid (ParseRes s (.tuple #[val 0 0 ⟨#[]⟩ false, .int .i64 5])) := Lib.hid ((res_of_guess HF.out HG.out).2 fun h => hm h.1)
              have hm' : mayB 2 0 ⟨out.toArray⟩ false = false := by simpa using hm
              refine (reftext_no 2 0 ⟨out.toArray⟩ false x hm').mono ?_
              rintro e y ⟨rfl, hb2⟩
              obtain ⟨⟨a0, a1, a2, a3⟩, ⟨b0, b1, b2, b3⟩, ⟨f0, f1, f2, f3⟩, _, hL, _⟩ := hpf.later hb2
              clear hm hm' hpf
              go_wp2_with fail
              exact bodyPost_ret (v := .tuple #[val 0 0 ⟨#[]⟩ false, .int .i64 5]) (by simp [results, Tryz.results17, go_sem, a0, a1, a2, a3]) rfl ⟨_, rfl, HM.out, below_put4 hL (Nat.le_refl _)⟩
          · have e0 : (((s[0]'hz0).toNat : Int) == 34) = false := by rw [beq_eq_false_iff_ne]; omega
            have hno : Hid (∀ k n t b, ¬ IsTxt s k n t b) := Lib.hid (fun k n t b h => by
              obtain ⟨xs, hx⟩ := HN1.out k n t b h
              have := list_at s 0 hz0
              rw [List.drop_zero, hx, List.cons.injEq] at this
              exact h0 (by rw [← this.1]; rfl))
            clear h0
            have HM : Hid (ParseRes s (.tuple #[val 0 0 ⟨#[]⟩ false, .int .i64 5])) := Lib.hid (.inr ⟨hno.out, rfl⟩)
            have hm' : mayB 0 0 ⟨#[]⟩ false = false := by simp [mayB]
            go_wp2_with fail
            refine calls_abs (fun x => PF w x 0 0 ⟨#[]⟩ false) (pf_new w 0 0 ⟨#[]⟩ false) ?_
            intro x hpf
            refine (reftext_no 0 0 ⟨#[]⟩ false x hm').mono ?_
            rintro e y ⟨rfl, hb2⟩
            obtain ⟨⟨a0, a1, a2, a3⟩, ⟨b0, b1, b2, b3⟩, ⟨f0, f1, f2, f3⟩, _, hL, _⟩ := hpf.later hb2
            clear hm' hpf
            go_wp2_with fail
            exact bodyPost_ret (v := .tuple #[val 0 0 ⟨#[]⟩ false, .int .i64 5]) (by simp [results, Tryz.results17, go_sem, a0, a1, a2, a3]) rfl ⟨_, rfl, HM.out, below_put4 hL (Nat.le_refl _)⟩
        · have hzI : ¬ (2 : Int) ≤ (s.size : Int) := by omega
          have hno : Hid (∀ k n t b, ¬ IsTxt s k n t b) := Lib.hid (fun k n t b h => by
            obtain ⟨xs, hx⟩ := HN1.out k n t b h
            have h3 := Lib.size_eq s
            rw [hx] at h3
            simp only [List.length_cons, List.length_append, List.length_nil] at h3
            omega)
          have HM : Hid (ParseRes s (.tuple #[val 0 0 ⟨#[]⟩ false, .int .i64 5])) := Lib.hid (.inr ⟨hno.out, rfl⟩)
          have hm' : mayB 0 0 ⟨#[]⟩ false = false := by simp [mayB]
          go_wp2_with fail
          refine calls_abs (fun x => PF w x 0 0 ⟨#[]⟩ false) (pf_new w 0 0 ⟨#[]⟩ false) ?_
          intro x hpf
          refine (reftext_no 0 0 ⟨#[]⟩ false x hm').mono ?_
          rintro e y ⟨rfl, hb2⟩
          obtain ⟨⟨a0, a1, a2, a3⟩, ⟨b0, b1, b2, b3⟩, ⟨f0, f1, f2, f3⟩, _, hL, _⟩ := hpf.later hb2
          clear hm' hpf
          go_wp2_with fail
          exact bodyPost_ret (v := .tuple #[val 0 0 ⟨#[]⟩ false, .int .i64 5]) (by simp [results, Tryz.results17, go_sem, a0, a1, a2, a3]) rfl ⟨_, rfl, HM.out, below_put4 hL (Nat.le_refl _)⟩
  · have HF : Hid (Fits n) := Lib.hid (HK.out.1 rfl).1
    have HG : Hid (∀ k' n' t' b', IsTxt s k' n' t' b' → (1 : Int) = k' ∧ n = n' ∧ (⟨#[]⟩ : ByteArray) = t' ∧ false = b') := Lib.hid (by
      obtain ⟨_, c, r, hc, hc2⟩ := HK.out.1 rfl
      refine guess_of_int (fun n' hf he => (HK.out.2 n' hf he).2) (fun r' hr => ?_) (fun b hb => ?_)
      · rw [hc] at hr
        simp only [List.cons.injEq] at hr
        obtain ⟨rfl, _⟩ := hr
        rcases hc2 with h | h
        · exact absurd h (by decide)
        · exact absurd h.1 (by decide)
      · cases b
        · rw [hc, formatBool_false] at hb
          simp only [List.cons.injEq] at hb
          obtain ⟨rfl, _⟩ := hb
          rcases hc2 with h | h
          · exact absurd h (by decide)
          · exact absurd h.2 (by decide)
        · rw [hc, formatBool_true] at hb
          simp only [List.cons.injEq] at hb
          obtain ⟨rfl, _⟩ := hb
          rcases hc2 with h | h
          · exact absurd h (by decide)
          · exact absurd h.2 (by decide))
    go_wp2_with fail
    refine calls_abs (fun x => PF w x 1 n ⟨#[]⟩ false) (pf_new w 1 n ⟨#[]⟩ false) ?_
    intro x hpf
    by_cases hm : mayB 1 n ⟨#[]⟩ false = true
    · by_cases ht : txt 1 n ⟨#[]⟩ false = s.data.toList
      · have HM : Hid (ParseRes s (.tuple #[val 1 n ⟨#[]⟩ false, .int .i64 0])) := Lib.hid ((res_of_guess HF.out HG.out).1 ⟨hm, HF.out, ht⟩)
        have he : (txt 1 n ⟨#[]⟩ false == s.toList) = true := by rw [toList_data, beq_iff_eq]; exact ht
        refine (reftext_yes 1 n ⟨#[]⟩ false x HF.out hm).mono ?_
        rintro e y ⟨rfl, hb2⟩
        obtain ⟨⟨a0, a1, a2, a3⟩, ⟨b0, b1, b2, b3⟩, ⟨f0, f1, f2, f3⟩, _, hL, _⟩ := hpf.later hb2
        clear hm ht hpf
        go_wp2_with fail
        exact bodyPost_ret (v := .tuple #[val 1 n ⟨#[]⟩ false, .int .i64 0]) (by simp [results, Tryz.results17, go_sem, a0, a1, a2, a3]) rfl ⟨_, rfl, HM.out, below_put4 hL (Nat.le_refl _)⟩
      · have HM : Hid (ParseRes s (.tuple #[val 0 0 ⟨#[]⟩ false, .int .i64 5])) := Lib.hid ((res_of_guess HF.out HG.out).2 fun h => ht h.2.2)
        have he : (txt 1 n ⟨#[]⟩ false == s.toList) = false := by rw [toList_data, beq_eq_false_iff_ne]; exact ht
        refine (reftext_yes 1 n ⟨#[]⟩ false x HF.out hm).mono ?_
        rintro e y ⟨rfl, hb2⟩
        obtain ⟨⟨a0, a1, a2, a3⟩, ⟨b0, b1, b2, b3⟩, ⟨f0, f1, f2, f3⟩, _, hL, _⟩ := hpf.later hb2
        clear hm ht hpf
        go_wp2_with fail
        exact bodyPost_ret (v := .tuple #[val 0 0 ⟨#[]⟩ false, .int .i64 5]) (by simp [results, Tryz.results17, go_sem, a0, a1, a2, a3]) rfl ⟨_, rfl, HM.out, below_put4 hL (Nat.le_refl _)⟩
    · have HM : Hid (ParseRes s (.tuple #[val 0 0 ⟨#[]⟩ false, .int .i64 5])) := Lib.hid ((res_of_guess HF.out HG.out).2 fun h => hm h.1)
      have hm' : mayB 1 n ⟨#[]⟩ false = false := by simpa using hm
      refine (reftext_no 1 n ⟨#[]⟩ false x hm').mono ?_
      rintro e y ⟨rfl, hb2⟩
      obtain ⟨⟨a0, a1, a2, a3⟩, ⟨b0, b1, b2, b3⟩, ⟨f0, f1, f2, f3⟩, _, hL, _⟩ := hpf.later hb2
      clear hm hm' hpf
      go_wp2_with fail
      exact bodyPost_ret (v := .tuple #[val 0 0 ⟨#[]⟩ false, .int .i64 5]) (by simp [results, Tryz.results17, go_sem, a0, a1, a2, a3]) rfl ⟨_, rfl, HM.out, below_put4 hL (Nat.le_refl _)⟩
end Go.Proofs.YtgjniopcaahgfaaGreatDoor
