/- Numbers' forms: groups of seven bits, the lowest first. Plain facts. -/
import Derived.Lib.Strings
set_option linter.unusedSimpArgs false
set_option linter.unusedVariables false
namespace Go.Proofs.YtmbfhmjcphoddaaGreatDoor

/-- A number's form. -/
def formN (n : Nat) : List UInt8 := if h : n < 128 then [UInt8.ofNat n] else UInt8.ofNat (128 + n % 128) :: formN (n / 128)
termination_by n
decreasing_by omega
theorem formN_lt {n : Nat} (h : n < 128) : formN n = [UInt8.ofNat n] := by rw [formN, dif_pos h]
theorem formN_ge {n : Nat} (h : 128 ≤ n) : formN n = UInt8.ofNat (128 + n % 128) :: formN (n / 128) := by rw [formN, dif_neg (by omega)]
/-- What groups say. -/
def valG : List UInt8 → Nat
  | [] => 0
  | c :: r => c.toNat % 128 + 128 * valG r
/-- How many bytes go ahead of the last one of a form. -/
def leadN (L : List UInt8) : Nat := (L.takeWhile (fun c => decide (128 ≤ c.toNat))).length
/-- What a reading of a number answers: the number and how many bytes it took, or an error. -/
inductive RN where
  | ok (n k : Nat)
  | err (e : Nat)
def readN (L : List UInt8) (most : Nat) : RN :=
  if 10 ≤ leadN L then .err 5
  else if leadN L = L.length then .err 4
  else if leadN L = 9 ∧ 1 < (L.getD 9 0).toNat % 128 then .err 5
  else if 0 < leadN L ∧ (L.getD (leadN L) 0).toNat = 0 then .err 5
  else if most < valG (L.take (leadN L + 1)) then .err 3
  else .ok (valG (L.take (leadN L + 1))) (leadN L + 1)

theorem leadN_le (L : List UInt8) : leadN L ≤ L.length := (List.takeWhile_sublist _).length_le
theorem lead_app {g : List UInt8} {r : List UInt8} (hg : ∀ x ∈ g, 128 ≤ x.toNat) (hr : r = [] ∨ ∃ c r', r = c :: r' ∧ c.toNat < 128) : leadN (g ++ r) = g.length := by
  unfold leadN
  rw [List.takeWhile_append_of_pos (by simpa using hg)]
  rcases hr with rfl | ⟨c, r', rfl, hc⟩
  · simp
  · rw [List.takeWhile_cons_of_neg (by simpa using hc)]; simp
/-- What stands ahead of the last byte, and that one. -/
theorem lead_split (L : List UInt8) : (∀ x ∈ L.take (leadN L), 128 ≤ x.toNat) ∧ (leadN L < L.length → (L.getD (leadN L) 0).toNat < 128 ∧ L.take (leadN L + 1) = L.take (leadN L) ++ [L.getD (leadN L) 0]) := by
  have e := List.takeWhile_append_dropWhile (p := fun c : UInt8 => decide (128 ≤ c.toNat)) (l := L)
  have ht : L.take (leadN L) = L.takeWhile (fun c => decide (128 ≤ c.toNat)) := by
    have h := List.take_left (l₁ := L.takeWhile (fun c => decide (128 ≤ c.toNat))) (l₂ := L.dropWhile (fun c => decide (128 ≤ c.toNat)))
    rw [e] at h
    exact h
  constructor
  · intro x hx
    rw [ht] at hx
    have := List.all_takeWhile (p := fun c : UInt8 => decide (128 ≤ c.toNat)) (l := L)
    rw [List.all_eq_true] at this
    simpa using this x hx
  · intro hl
    have hd : L.drop (leadN L) = L.dropWhile (fun c => decide (128 ≤ c.toNat)) := by
      have h := List.drop_left (l₁ := L.takeWhile (fun c => decide (128 ≤ c.toNat))) (l₂ := L.dropWhile (fun c => decide (128 ≤ c.toNat)))
      rw [e] at h
      exact h
    have hc := List.drop_eq_getElem_cons hl
    have h5 := List.head?_dropWhile_not (p := fun c : UInt8 => decide (128 ≤ c.toNat)) (l := L)
    rw [← hd, hc] at h5
    simp only [List.head?_cons] at h5
    have hg : L.getD (leadN L) 0 = L[leadN L] := by rw [List.getD_eq_getElem?_getD, List.getElem?_eq_getElem hl]; rfl
    refine ⟨by rw [hg]; simpa using h5, ?_⟩
    rw [hg, List.take_succ_eq_append_getElem hl]

theorem valG_app (g : List UInt8) (r : List UInt8) : valG (g ++ r) = valG g + 128 ^ g.length * valG r := by
  induction g with
  | nil => simp [valG]
  | cons c g ih =>
    simp only [List.cons_append, valG, ih, List.length_cons, Nat.pow_succ, Nat.mul_add]
    rw [Nat.add_assoc]
    congr 2
    rw [← Nat.mul_assoc, Nat.mul_comm 128 (128 ^ g.length)]
theorem valG_lt (g : List UInt8) : valG g < 128 ^ g.length := by
  induction g with
  | nil => simp [valG]
  | cons c g ih =>
    simp only [valG, List.length_cons, Nat.pow_succ]
    omega
/-- The parts of a form. -/
theorem form_parts : ∀ (m v : Nat), v ≤ m → ∃ (g : List UInt8) (c : UInt8), formN v = g ++ [c] ∧ (∀ x ∈ g, 128 ≤ x.toNat) ∧ c.toNat < 128 ∧ (g ≠ [] → c.toNat ≠ 0) ∧ valG (formN v) = v ∧ (g = [] ∨ 128 ^ g.length ≤ v)
  | m, v, h => by
    by_cases hv : v < 128
    · have ht : (UInt8.ofNat v).toNat = v := by rw [UInt8.toNat_ofNat']; omega
      refine ⟨[], UInt8.ofNat v, formN_lt hv, by simp, by omega, fun h => absurd rfl h, ?_, .inl rfl⟩
      rw [formN_lt hv]
      simp only [valG, ht]
      omega
    · cases m with
      | zero => omega
      | succ m =>
        obtain ⟨g, c, h1, h2, h3, h4, h5, h6⟩ := form_parts m (v / 128) (by omega)
        have ht : (UInt8.ofNat (128 + v % 128)).toNat = 128 + v % 128 := by rw [UInt8.toNat_ofNat']; omega
        refine ⟨UInt8.ofNat (128 + v % 128) :: g, c, by rw [formN_ge (by omega), h1]; rfl, ?_, h3, ?_, ?_, .inr ?_⟩
        · intro x hx
          rcases List.mem_cons.1 hx with rfl | hx
          · omega
          · exact h2 x hx
        · intro _
          by_cases hg : g = []
          · subst hg
            intro h0
            have h7 : valG (formN (v / 128)) = 0 := by rw [h1]; simp [valG, h0]
            rw [h5] at h7
            omega
          · exact h4 hg
        · rw [formN_ge (by omega)]
          simp only [valG, ht, h5]
          omega
        · rw [List.length_cons, Nat.pow_succ]
          rcases h6 with rfl | h6
          · simp; omega
          · have := Nat.mul_le_mul_right 128 h6
            omega
theorem p9 : (128 : Nat) ^ 9 = 9223372036854775808 := by decide
theorem p10 : (128 : Nat) ^ 10 = 1180591620717411303424 := by decide
/-- Of a number of 64 bits: at most ten bytes, the tenth at most 1. -/
theorem form_64 {v : Nat} (hv : v < 18446744073709551616) : ∃ (g : List UInt8) (c : UInt8), formN v = g ++ [c] ∧ (∀ x ∈ g, 128 ≤ x.toNat) ∧ c.toNat < 128 ∧ (g ≠ [] → c.toNat ≠ 0) ∧ valG (formN v) = v ∧ g.length ≤ 9 ∧ (g.length = 9 → c.toNat ≤ 1) := by
  obtain ⟨g, c, h1, h2, h3, h4, h5, h6⟩ := form_parts v v (Nat.le_refl _)
  refine ⟨g, c, h1, h2, h3, h4, h5, ?_, ?_⟩
  · rcases h6 with rfl | h6
    · simp
    · by_cases h : g.length ≤ 9
      · exact h
      · have := Nat.pow_le_pow_right (n := 128) (by decide) (show 10 ≤ g.length by omega)
        rw [p10] at this
        omega
  · intro hg
    rw [h1, valG_app, hg, p9] at h5
    simp only [valG] at h5
    omega
theorem formN_length {v : Nat} (hv : v < 18446744073709551616) : 1 ≤ (formN v).length ∧ (formN v).length ≤ 10 := by
  obtain ⟨g, c, h1, _, _, _, _, h6, _⟩ := form_64 hv
  rw [h1, List.length_append, List.length_singleton]; omega
/-- A form is read as its number, whatever stands behind. -/
theorem read_form {v : Nat} (hv : v < 18446744073709551616) (r : List UInt8) (most : Nat) : readN (formN v ++ r) most = if most < v then .err 3 else .ok v (formN v).length := by
  obtain ⟨g, c, h1, h2, h3, h4, h5, h6, h7⟩ := form_64 hv
  have hl : leadN (formN v ++ r) = g.length := by
    rw [h1, List.append_assoc]
    exact lead_app h2 (.inr ⟨c, r, rfl, h3⟩)
  have hc : (formN v ++ r).getD g.length 0 = c := by
    rw [h1, List.append_assoc, List.getD_eq_getElem?_getD, List.getElem?_append_right (Nat.le_refl _)]
    simp
  have ht : (formN v ++ r).take (g.length + 1) = formN v := by
    have : (formN v).length = g.length + 1 := by rw [h1]; simp
    rw [← this, List.take_left]
  unfold readN
  rw [hl, if_neg (by omega), if_neg (by rw [h1]; simp), if_neg, if_neg, ht, h5]
  · rw [show (formN v).length = g.length + 1 by rw [h1]; simp]
  · rintro ⟨ha, hb⟩
    rw [hc] at hb
    exact h4 (by rintro rfl; simp at ha) hb
  · rintro ⟨ha, hb⟩
    rw [ha] at hc
    rw [hc] at hb
    have := h7 ha
    omega
/-- A beginning of a form, and not all of it, is too short. -/
theorem read_cut {v : Nat} (hv : v < 18446744073709551616) (j : Nat) (hj : j < (formN v).length) (most : Nat) : readN ((formN v).take j) most = .err 4 := by
  obtain ⟨g, c, h1, h2, h3, h4, h5, h6, h7⟩ := form_64 hv
  have hlen : (formN v).length = g.length + 1 := by rw [h1]; simp
  have ht : (formN v).take j = g.take j := by rw [h1, List.take_append_of_le_length (by omega)]
  have hl : leadN (g.take j) = (g.take j).length := by
    have := lead_app (g := g.take j) (r := []) (fun x hx => h2 x (List.mem_of_mem_take hx)) (.inl rfl)
    rwa [List.append_nil] at this
  rw [ht]
  unfold readN
  have hk : (g.take j).length ≤ 9 := by rw [List.length_take]; omega
  rw [hl, if_neg (by omega), if_pos rfl]
theorem form_of_groups : ∀ (g : List UInt8) (c : UInt8), (∀ x ∈ g, 128 ≤ x.toNat) → c.toNat < 128 → (g ≠ [] → c.toNat ≠ 0) → formN (valG (g ++ [c])) = g ++ [c] ∧ (c.toNat ≠ 0 → 0 < valG (g ++ [c]))
  | [], c, _, hc, _ => by
    simp only [List.nil_append, valG, Nat.mul_zero, Nat.add_zero]
    rw [Nat.mod_eq_of_lt hc, formN_lt hc]
    exact ⟨by rw [UInt8.ofNat_toNat], fun h => by omega⟩
  | x :: g, c, hg, hc, hn => by
    have hx := hg x (by simp)
    have hx2 := x.toNat_lt
    have hc0 : c.toNat ≠ 0 := hn (by simp)
    obtain ⟨ih1, ih2⟩ := form_of_groups g c (fun y hy => hg y (by simp [hy])) hc (fun _ => hc0)
    have hp := ih2 hc0
    simp only [List.cons_append, valG]
    generalize valG (g ++ [c]) = V at *
    refine ⟨?_, fun _ => by omega⟩
    rw [formN_ge (by omega), show (x.toNat % 128 + 128 * V) / 128 = V by omega, ih1, show 128 + (x.toNat % 128 + 128 * V) % 128 = x.toNat by omega, UInt8.ofNat_toNat]
/-- What is read, laid again, is the bytes that went. -/
theorem read_ok {L : List UInt8} {most v k : Nat} (h : readN L most = .ok v k) : v < 18446744073709551616 ∧ v ≤ most ∧ 1 ≤ k ∧ k ≤ L.length ∧ L.take k = formN v := by
  unfold readN at h
  obtain ⟨hs1, hs2⟩ := lead_split L
  have hle := leadN_le L
  by_cases c1 : 10 ≤ leadN L
  · rw [if_pos c1] at h; cases h
  rw [if_neg c1] at h
  by_cases c2 : leadN L = L.length
  · rw [if_pos c2] at h; cases h
  rw [if_neg c2] at h
  by_cases c3 : leadN L = 9 ∧ 1 < (L.getD 9 0).toNat % 128
  · rw [if_pos c3] at h; cases h
  rw [if_neg c3] at h
  by_cases c4 : 0 < leadN L ∧ (L.getD (leadN L) 0).toNat = 0
  · rw [if_pos c4] at h; cases h
  rw [if_neg c4] at h
  by_cases c5 : most < valG (L.take (leadN L + 1))
  · rw [if_pos c5] at h; cases h
  rw [if_neg c5] at h
  simp only [RN.ok.injEq] at h
  obtain ⟨rfl, rfl⟩ := h
  obtain ⟨hc, ht⟩ := hs2 (by omega)
  have hlen : (L.take (leadN L)).length = leadN L := by rw [List.length_take]; omega
  refine ⟨?_, by omega, by omega, by omega, ?_⟩
  · rw [ht, valG_app, hlen]
    have hv := valG_lt (L.take (leadN L))
    rw [hlen] at hv
    simp only [valG, Nat.mul_zero, Nat.add_zero]
    by_cases h9 : leadN L = 9
    · have : (L.getD 9 0).toNat % 128 ≤ 1 := by
        by_cases hh : 1 < (L.getD 9 0).toNat % 128
        · exact absurd ⟨h9, hh⟩ c3
        · omega
      rw [h9, p9] at hv ⊢
      omega
    · have hp := Nat.pow_le_pow_right (n := 128) (by decide) (show leadN L + 1 ≤ 9 by omega)
      rw [p9, Nat.pow_succ] at hp
      have hm : (L.getD (leadN L) 0).toNat % 128 ≤ 127 := by omega
      have := Nat.mul_le_mul_left (128 ^ leadN L) hm
      omega
  · rw [ht]
    exact (form_of_groups _ _ hs1 hc (fun hne h0 => c4 ⟨by
      rcases Nat.eq_zero_or_pos (leadN L) with h | h
      · rw [h] at hne; simp at hne
      · exact h, h0⟩)).1.symm
/-- What is above most could be read with more; the errors else do not hang on most. -/
theorem read_most {L : List UInt8} {most most' : Nat} : (∀ e, readN L most = .err e → e ≠ 3 → readN L most' = .err e) ∧ (readN L most = .err 3 → ∀ v k, readN L most' = .ok v k → most < v) ∧ (∀ v k, readN L most = .ok v k → v ≤ most' → readN L most' = .ok v k) := by
  unfold readN
  by_cases c1 : 10 ≤ leadN L
  · simp only [if_pos c1]; simp
  by_cases c2 : leadN L = L.length
  · simp only [if_neg c1, if_pos c2]; simp
  by_cases c3 : leadN L = 9 ∧ 1 < (L.getD 9 0).toNat % 128
  · simp only [if_neg c1, if_neg c2, if_pos c3]; simp
  by_cases c4 : 0 < leadN L ∧ (L.getD (leadN L) 0).toNat = 0
  · simp only [if_neg c1, if_neg c2, if_neg c3, if_pos c4]; simp
  simp only [if_neg c1, if_neg c2, if_neg c3, if_neg c4]
  generalize valG (L.take (leadN L + 1)) = V
  refine ⟨fun e h hne => ?_, fun h v k h' => ?_, fun v k h h' => ?_⟩
  · split at h
    · simp only [RN.err.injEq] at h; exact absurd h.symm hne
    · cases h
  · split at h
    · split at h'
      · cases h'
      · simp only [RN.ok.injEq] at h'; omega
    · cases h
  · split at h
    · cases h
    · simp only [RN.ok.injEq] at h
      obtain ⟨rfl, rfl⟩ := h
      rw [if_neg (by omega)]

theorem read_10 {L : List UInt8} {most : Nat} (h : 10 ≤ leadN L) : readN L most = .err 5 := by unfold readN; rw [if_pos h]
theorem read_short {L : List UInt8} {most : Nat} (h1 : ¬ 10 ≤ leadN L) (h : leadN L = L.length) : readN L most = .err 4 := by unfold readN; rw [if_neg h1, if_pos h]
theorem read_big {L : List UInt8} {most : Nat} (h1 : ¬ 10 ≤ leadN L) (h2 : ¬ leadN L = L.length) (h : leadN L = 9 ∧ 1 < (L.getD 9 0).toNat % 128) : readN L most = .err 5 := by unfold readN; rw [if_neg h1, if_neg h2, if_pos h]
theorem read_zero {L : List UInt8} {most : Nat} (h1 : ¬ 10 ≤ leadN L) (h2 : ¬ leadN L = L.length) (h3 : ¬ (leadN L = 9 ∧ 1 < (L.getD 9 0).toNat % 128)) (h : 0 < leadN L ∧ (L.getD (leadN L) 0).toNat = 0) : readN L most = .err 5 := by unfold readN; rw [if_neg h1, if_neg h2, if_neg h3, if_pos h]
theorem read_last {L : List UInt8} {most : Nat} (h1 : ¬ 10 ≤ leadN L) (h2 : ¬ leadN L = L.length) (h3 : ¬ (leadN L = 9 ∧ 1 < (L.getD 9 0).toNat % 128)) (h4 : ¬ (0 < leadN L ∧ (L.getD (leadN L) 0).toNat = 0)) : readN L most = if most < valG (L.take (leadN L + 1)) then .err 3 else .ok (valG (L.take (leadN L + 1))) (leadN L + 1) := by unfold readN; rw [if_neg h1, if_neg h2, if_neg h3, if_neg h4]
theorem lead_at {L : List UInt8} {k : Nat} (hk : k ≤ L.length) (h : ∀ i, i < k → 128 ≤ (L.getD i 0).toNat) (he : k < L.length → (L.getD k 0).toNat < 128) : leadN L = k := by
  have e : L = L.take k ++ L.drop k := (List.take_append_drop k L).symm
  have h1 : leadN (L.take k ++ L.drop k) = (L.take k).length := by
    refine lead_app (fun x hx => ?_) ?_
    · obtain ⟨i, hi, rfl⟩ := List.mem_iff_getElem.1 hx
      rw [List.length_take] at hi
      have := h i (by omega)
      rw [List.getD_eq_getElem?_getD, List.getElem?_eq_getElem (by omega)] at this
      rw [List.getElem_take]; exact this
    · rcases Nat.lt_or_ge k L.length with hl | hl
      · right
        refine ⟨L[k], L.drop (k + 1), List.drop_eq_getElem_cons hl, ?_⟩
        have := he hl
        rwa [List.getD_eq_getElem?_getD, List.getElem?_eq_getElem hl] at this
      · left; exact List.drop_eq_nil_of_le hl
  rw [← e] at h1
  rw [h1, List.length_take]; omega
theorem valG_drop_le (M : List UInt8) (j : Nat) : valG (M.drop j) ≤ valG M := by
  have h := valG_app (M.take j) (M.drop j)
  rw [List.take_append_drop] at h
  have := Nat.le_mul_of_pos_left (valG (M.drop j)) (Nat.pow_pos (n := (M.take j).length) (show 0 < 128 by decide))
  omega
theorem valG_drop_at {M : List UInt8} {j : Nat} (h : j < M.length) : valG (M.drop j) = (M.getD j 0).toNat % 128 + 128 * valG (M.drop (j + 1)) := by
  rw [List.drop_eq_getElem_cons h, valG, List.getD_eq_getElem?_getD, List.getElem?_eq_getElem h]; rfl
/-- What the groups of a form say is of 64 bits. -/
theorem valG_64 {L : List UInt8} (h1 : ¬ 10 ≤ leadN L) (h2 : ¬ leadN L = L.length) (h3 : ¬ (leadN L = 9 ∧ 1 < (L.getD 9 0).toNat % 128)) : valG (L.take (leadN L + 1)) < 18446744073709551616 := by
  obtain ⟨_, hs2⟩ := lead_split L
  have hle := leadN_le L
  obtain ⟨hc, ht⟩ := hs2 (by omega)
  have hlen : (L.take (leadN L)).length = leadN L := by rw [List.length_take]; omega
  rw [ht, valG_app, hlen]
  have hv := valG_lt (L.take (leadN L))
  rw [hlen] at hv
  simp only [valG, Nat.mul_zero, Nat.add_zero]
  by_cases h9 : leadN L = 9
  · have : (L.getD 9 0).toNat % 128 ≤ 1 := by
      by_cases hh : 1 < (L.getD 9 0).toNat % 128
      · exact absurd ⟨h9, hh⟩ h3
      · omega
    rw [h9, p9] at hv ⊢
    omega
  · have hp := Nat.pow_le_pow_right (n := 128) (by decide) (show leadN L + 1 ≤ 9 by omega)
    rw [p9, Nat.pow_succ] at hp
    have hm : (L.getD (leadN L) 0).toNat % 128 ≤ 127 := by omega
    have := Nat.mul_le_mul_left (128 ^ leadN L) hm
    omega
/-- A signed number as one that is not, and back. -/
def foldI (n : Int) : Nat := if 0 ≤ n then 2 * n.toNat else 2 * (-(n + 1)).toNat + 1
def unfoldI (n : Nat) : Int := if n % 2 = 0 then ((n / 2 : Nat) : Int) else -((n / 2 : Nat) : Int) - 1
theorem unfold_fold (n : Int) : unfoldI (foldI n) = n := by unfold foldI unfoldI; split <;> split <;> omega
theorem fold_unfold (n : Nat) : foldI (unfoldI n) = n := by unfold foldI unfoldI; split <;> split <;> omega
theorem fold_lt {n : Int} (h1 : -9223372036854775808 ≤ n) (h2 : n ≤ 9223372036854775807) : foldI n < 18446744073709551616 := by unfold foldI; split <;> omega
theorem unfold_fits {n : Nat} (h : n < 18446744073709551616) : -9223372036854775808 ≤ unfoldI n ∧ unfoldI n ≤ 9223372036854775807 := by unfold unfoldI; split <;> omega
end Go.Proofs.YtmbfhmjcphoddaaGreatDoor
