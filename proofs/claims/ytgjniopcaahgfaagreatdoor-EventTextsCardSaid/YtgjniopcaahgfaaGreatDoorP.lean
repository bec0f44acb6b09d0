/- The contract of package value's Parse. -/
import Derived.Test.YtgjniopcaahgfaaGreatDoorG
set_option linter.unusedSimpArgs false
set_option linter.unusedVariables false
namespace Go.Proofs.YtgjniopcaahgfaaGreatDoor
open Go.RowKit

/-- What a reading of s answers: the value whose text s is; else no value, and ErrForm. -/
def ParseRes (s : ByteArray) (v : Value) : Prop :=
  (∃ (k n : Int) (t : ByteArray) (b : Bool), IsTxt s k n t b ∧ v = .tuple #[val k n t b, .int .i64 0]) ∨ ((∀ k n t b, ¬ IsTxt s k n t b) ∧ v = .tuple #[val 0 0 ⟨#[]⟩ false, .int .i64 5])
def Parsed (s : ByteArray) (w : World) (e : Ending) (w' : World) : Prop := ∃ v, e = .returned v ∧ ParseRes s v ∧ Below w.heap.size w w'

theorem esc_unique {x y : UInt8} {r r' : List UInt8} (h : escB x ++ r = escB y ++ r') : x = y ∧ r = r' := by
  by_cases h1 : x.toNat = 34 ∨ x.toNat = 92
  · have e : escB x = [92, x] := by unfold escB; rw [if_pos h1]
    rw [e] at h
    obtain ⟨a, b⟩ := step_marked (l := [92, x] ++ r) rfl rfl (.inr (by omega)) y r' h
    exact ⟨a, b⟩
  by_cases h2 : x.toNat < 32 ∨ 126 < x.toNat
  · have e : escB x = [92, 120, hexd (hi4 x), hexd (lo4 x)] := by unfold escB; rw [if_neg h1, if_pos h2]
    rw [e] at h
    obtain ⟨a, b⟩ := step_hex (l := [92, 120, hexd (hi4 x), hexd (lo4 x)] ++ r) rfl rfl rfl (v := x.toNat) (fun v hv => by rw [fold16_hex] at hv; cases hv; rfl) y r' h
    exact ⟨by rw [← a]; simp, b⟩
  · have e : escB x = [x] := by unfold escB; rw [if_neg h1, if_neg h2]
    rw [e] at h
    obtain ⟨a, b⟩ := step_plain (l := [x] ++ r) rfl (.inr (by omega)) y r' h
    exact ⟨a, b⟩
theorem escAll_inj : ∀ (xs ys : List UInt8), escAll xs = escAll ys → xs = ys
  | [], ys, h => (escAll_nil h.symm).symm
  | x :: xs, [], h => absurd (escAll_nil h) (by simp)
  | x :: xs, y :: ys, h => by
    rw [escAll_cons, escAll_cons] at h
    obtain ⟨rfl, h2⟩ := esc_unique h
    rw [escAll_inj xs ys h2]

theorem isTxt_unique {s : ByteArray} {k n : Int} {t : ByteArray} {b : Bool} {k' n' : Int} {t' : ByteArray} {b' : Bool} (h : IsTxt s k n t b) (h' : IsTxt s k' n' t' b') : k = k' ∧ n = n' ∧ t = t' ∧ b = b' := by
  rcases txt_kind h.1 with ⟨rfl, rfl, rfl, h4⟩ | ⟨rfl, rfl, rfl, h4, _⟩ | ⟨rfl, rfl, rfl, h4⟩
  · refine guess_of_int (s := s) (n := n) (fun m hm hs => itoa_inj n m h.2.1.1 h.2.1.2 hm.1 hm.2 ((h4.symm.trans h.2.2).trans hs)) ?_ ?_ k' n' t' b' h'
    · intro r hr
      obtain ⟨c, r', hc, hc'⟩ := itoa_head n
      rw [← h.2.2, h4, hc] at hr
      simp only [List.cons.injEq] at hr
      obtain ⟨rfl, _⟩ := hr
      rcases hc' with hc' | hc'
      · exact absurd hc' (by decide)
      · exact absurd hc'.1 (by decide)
    · intro b hb
      obtain ⟨c, r', hc, hc'⟩ := itoa_head n
      rw [← h.2.2, h4, hc] at hb
      cases b
      · rw [formatBool_false] at hb; simp only [List.cons.injEq] at hb; obtain ⟨rfl, _⟩ := hb
        rcases hc' with hc' | hc'
        · exact absurd hc' (by decide)
        · exact absurd hc'.2 (by decide)
      · rw [formatBool_true] at hb; simp only [List.cons.injEq] at hb; obtain ⟨rfl, _⟩ := hb
        rcases hc' with hc' | hc'
        · exact absurd hc' (by decide)
        · exact absurd hc'.2 (by decide)
  · have hs : s.data.toList = 34 :: (escAll t.data.toList ++ [34]) := h.2.2.symm.trans h4
    have := guess_of_str (s := s) (out := t.data.toList) (fun xs hx => by
      rw [hs] at hx
      simp only [List.cons.injEq, true_and] at hx
      exact escAll_inj _ _ (List.append_cancel_right hx)) hs k' n' t' b' h'
    refine ⟨this.1, this.2.1, ?_, this.2.2.2⟩
    rw [← this.2.2.1]
  · exact guess_of_bool (s := s) (b := b) (h.2.2.symm.trans h4) k' n' t' b' h'

theorem parseRes_unique {s : ByteArray} {v v' : Value} (h : ParseRes s v) (h' : ParseRes s v') : v = v' := by
  rcases h with ⟨k, n, t, b, h1, rfl⟩ | ⟨h1, rfl⟩ <;> rcases h' with ⟨k', n', t', b', h2, rfl⟩ | ⟨h2, rfl⟩
  · obtain ⟨rfl, rfl, rfl, rfl⟩ := isTxt_unique h1 h2; rfl
  · exact absurd h1 (h2 k n t b)
  · exact absurd h2 (h1 k' n' t' b')
  · rfl
/-- What a guess comes to. -/
theorem res_of_guess {s : ByteArray} {k n : Int} {t : ByteArray} {b : Bool} (hf : Fits n) (hg : ∀ k' n' t' b', IsTxt s k' n' t' b' → k = k' ∧ n = n' ∧ t = t' ∧ b = b') :
    (IsTxt s k n t b → ParseRes s (.tuple #[val k n t b, .int .i64 0])) ∧ (¬ IsTxt s k n t b → ParseRes s (.tuple #[val 0 0 ⟨#[]⟩ false, .int .i64 5])) := by
  refine ⟨fun h => .inl ⟨k, n, t, b, h, rfl⟩, fun h => .inr ⟨fun k' n' t' b' h' => h ?_, rfl⟩⟩
  obtain ⟨rfl, rfl, rfl, rfl⟩ := hg k' n' t' b' h'
  exact h'

set_option maxHeartbeats 1000000 in
set_option maxRecDepth 20000 in
theorem parse_any (s : ByteArray) (hs : s.size ≤ 140737488351232) (w : World) (hE : Env w) : Calls Tryz.prog 33 #[.string s] w (Parsed s w) := by
  have HS := Lib.hid hs
  clear hs
  go_enter Tryz.func33, Tryz.ntmps33
  go_wp2_with (go_at_call 47; refine (guess_any s HS.out _ (hE.alloc _)).mono ?_; rintro e w1 ⟨k, n, t, b, rfl, hf, hg, hb1⟩; have HF := Lib.hid hf; have HG := Lib.hid hg; clear hf hg; have hE1 := (hE.alloc _).below hb1; have hO1 := (At4.new w 0 0 ⟨#[]⟩ false).below hb1; have hF1 := free4_new hb1; have hz1 : w.heap.size < w1.heap.size := Nat.lt_of_lt_of_le (by simp) hb1.size)
  by_cases hm : mayB k n t b = true
  · by_cases ht : txt k n t b = s.data.toList
    · have HM : Hid (ParseRes s (.tuple #[val k n t b, .int .i64 0])) := Lib.hid ((res_of_guess HF.out HG.out).1 ⟨hm, HF.out, ht⟩)
      have he : (txt k n t b == s.toList) = true := by rw [toList_data, beq_iff_eq]; exact ht
      refine (text_yes k n t b _ HF.out.1 HF.out.2 (hE1.alloc _) hm).mono ?_
      rintro e w2 ⟨rfl, hb2⟩
      have hbb := below_new hb2
      obtain ⟨c0, c1, c2, c3⟩ := hO1.below hbb
      obtain ⟨f0, f1, f2, f3⟩ := hF1.below hz1 hbb
      obtain ⟨v0, v1, v2, v3⟩ := (At4.new w1 k n t b).below hb2
      clear hm ht
      go_wp2_with fail
      exact bodyPost_ret (v := .tuple #[val k n t b, .int .i64 0]) (by simp [results, Tryz.results33, go_sem, c0, c1, c2, c3]) rfl ⟨_, rfl, HM.out, below_put4 ((below_new hb1).trans (hbb.mono (by omega))) (Nat.le_refl _)⟩
    · have HM : Hid (ParseRes s (.tuple #[val 0 0 ⟨#[]⟩ false, .int .i64 5])) := Lib.hid ((res_of_guess HF.out HG.out).2 fun h => ht h.2.2)
      have he : (txt k n t b == s.toList) = false := by rw [toList_data, beq_eq_false_iff_ne]; exact ht
      refine (text_yes k n t b _ HF.out.1 HF.out.2 (hE1.alloc _) hm).mono ?_
      rintro e w2 ⟨rfl, hb2⟩
      have hbb := below_new hb2
      obtain ⟨c0, c1, c2, c3⟩ := hO1.below hbb
      obtain ⟨f0, f1, f2, f3⟩ := hF1.below hz1 hbb
      clear hm ht
      go_wp2_with fail
      exact bodyPost_ret (v := .tuple #[val 0 0 ⟨#[]⟩ false, .int .i64 5]) (by simp [results, Tryz.results33, go_sem, c0, c1, c2, c3]) rfl ⟨_, rfl, HM.out, below_put4 ((below_new hb1).trans (hbb.mono (by omega))) (Nat.le_refl _)⟩
  · have HM : Hid (ParseRes s (.tuple #[val 0 0 ⟨#[]⟩ false, .int .i64 5])) := Lib.hid ((res_of_guess HF.out HG.out).2 fun h => hm h.1)
    have hm' : mayB k n t b = false := by simpa using hm
    refine (text_no k n t b _ hm').mono ?_
    rintro e w2 ⟨rfl, hb2⟩
    have hbb := below_new hb2
    obtain ⟨c0, c1, c2, c3⟩ := hO1.below hbb
    obtain ⟨f0, f1, f2, f3⟩ := hF1.below hz1 hbb
    clear hm hm'
    go_wp2_with fail
    exact bodyPost_ret (v := .tuple #[val 0 0 ⟨#[]⟩ false, .int .i64 5]) (by simp [results, Tryz.results33, go_sem, c0, c1, c2, c3]) rfl ⟨_, rfl, HM.out, below_put4 ((below_new hb1).trans (hbb.mono (by omega))) (Nat.le_refl _)⟩
end Go.Proofs.YtgjniopcaahgfaaGreatDoor
