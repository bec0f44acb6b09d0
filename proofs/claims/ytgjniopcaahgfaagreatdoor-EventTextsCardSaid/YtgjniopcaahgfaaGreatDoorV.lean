/- The contract of unquote's closure: it takes one byte of what is left. -/
import Derived.Test.YtgjniopcaahgfaaGreatDoorU
import Derived.Deep.QuietTactic
import Derived.BigQuiet
set_option linter.unusedSimpArgs false
set_option linter.unusedVariables false
namespace Go.Proofs.YtgjniopcaahgfaaGreatDoor
open Go.RowKit

/-- What strconv.ParseUint(t, 16, 8) leaves at two bytes. -/
def PU (t : ByteArray) (w : World) (e : Ending) (w' : World) : Prop :=
  ∃ (v : Nat) (er : Value), e = .returned (.tuple #[.int .u64 (v : Int), er]) ∧ v < 256 ∧ (∀ x, fold16 0 t.data.toList = some x → v = x) ∧ Below w.heap.size w w'

theorem fold16_lt (t : ByteArray) (h2 : t.size = 2) (v : Nat) (h : fold16 0 t.data.toList = some v) : v < 256 := by
  have hl : t.data.toList.length = 2 := (Lib.size_eq t).trans h2 |> fun h => by simpa using h
  match hd : t.data.toList, hl with
  | [a, b], _ =>
    rw [hd] at h
    simp only [fold16] at h
    cases ha : dig16 a with
    | none => rw [ha] at h; cases h
    | some x =>
      rw [ha] at h
      cases hb : dig16 b with
      | none => rw [hb] at h; cases h
      | some y =>
        rw [hb] at h
        have := dig16_lt a x ha
        have := dig16_lt b y hb
        simp only [Option.some.injEq] at h
        omega

set_option maxHeartbeats 1000000 in
set_option maxRecDepth 100000 in
theorem pu_ok (t : ByteArray) (h2 : t.size = 2) (v : Nat) (hv : fold16 0 t.data.toList = some v) (w : World) : Calls Tryz.prog 77 #[.string t, .int .i64 16, .int .i64 8] w (PU t w) := by
  have hlt := fold16_lt t h2 v hv
  have H : Hid (PU t w (.returned (.tuple #[.int .u64 (v : Int), .nilIface])) (Lib.bytesWorld w 5 t)) := Lib.hid ⟨v, _, rfl, hlt, fun x hx => by rw [hv] at hx; cases hx; rfl, below_bytes w 5 t⟩
  have H2 := Lib.hid h2
  have HV := Lib.hid hv
  clear h2 hv hlt
  go_enter Tryz.func77, Tryz.ntmps77
  go_wp2_with (go_at_call 88; refine (inner16_any t H2.out _).mono ?_; rw [HV.out]; rintro e w1 ⟨rfl, rfl⟩; unfold tuple16)
  go_ret2
  exact H.out

set_option maxHeartbeats 1000000 in
set_option maxRecDepth 100000 in
theorem pu_bad (t : ByteArray) (h2 : t.size = 2) (hv : fold16 0 t.data.toList = none) (w : World) (hE : Env w) : Calls Tryz.prog 77 #[.string t, .int .i64 16, .int .i64 8] w (PU t w) := by
  have H2 := Lib.hid h2
  have HV := Lib.hid hv
  obtain ⟨_, ⟨tp, p, hs⟩, _⟩ := hE.below (below_bytes w 5 t)
  have hc : (Lib.bytesWorld w 5 t).cell? ⟨4, 0, none⟩ = some (.iface tp p) := by
    have := World.var?_cell gSyntax hs 0
    simpa using this
  have HC := Lib.hid hc
  have HP : Hid (∀ w2 N, Below (Lib.bytesWorld w 5 t).heap.size (Lib.bytesWorld w 5 t) w2 → PU t w (.returned (.tuple #[.int .u64 0, .iface 122 (.pointer (some ⟨N, 0, none⟩))])) w2) :=
    Lib.hid fun w2 N hb2 => ⟨0, _, rfl, by decide, (fun x hx => by rw [hv] at hx; cases hx), (below_bytes w 5 t).trans (hb2.mono (below_bytes w 5 t).size)⟩
  clear h2 hv hc hs
  go_enter Tryz.func77, Tryz.ntmps77
  go_wp2_with (first | (go_at_call 88; refine (inner16_any t H2.out _).mono ?_; rw [HV.out]; rintro e w1 ⟨rfl, rfl⟩; unfold tuple16) | (go_at_call 79; refine (Tryz.strconv_toError_syntax _ t 16 8 (.iface tp p) _ (by have := H2.out; omega) HC.out (.inr ⟨tp, p, rfl⟩)).mono ?_; rintro e w2 ⟨N, rfl, hN, hN2, hb2⟩))
  go_ret2
  exact HP.out _ _ hb2

theorem pu_any (t : ByteArray) (h2 : t.size = 2) (w : World) (hE : Env w) : Calls Tryz.prog 77 #[.string t, .int .i64 16, .int .i64 8] w (PU t w) := by
  cases hv : fold16 0 t.data.toList with
  | none => exact pu_bad t h2 hv w hE
  | some v => exact pu_ok t h2 v hv w

/-- What the closure leaves at a rest s: one byte, and a shorter rest in its box; nothing else that was there has changed; of what quote lays it takes just what one byte was laid as. -/
def Take (B : Nat) (s : ByteArray) (w : World) (e : Ending) (w' : World) : Prop :=
  ∃ (c : UInt8) (m : Nat), e = .returned (bval c) ∧ 1 ≤ m ∧ m ≤ s.size ∧ Box w' B 9 (.string (s.extract m s.size)) ∧ w.grownBy w' (some B) ∧
    ∀ x xs, s.data.toList = escB x ++ xs → c = x ∧ s.data.toList.drop m = xs

/-- The box is stored into behind whatever lays new blocks alone. -/
theorem take_world {B : Nat} {s u : ByteArray} {w w1 : World} (hB : Box w B 9 (.string s)) (hb : Below w.heap.size w w1) :
    Box w1 B 9 (.string s) ∧ Box (w1.setCell ⟨B, 0, none⟩ (.string u)) B 9 (.string u) ∧ w.grownBy (w1.setCell ⟨B, 0, none⟩ (.string u)) (some B) := by
  have h1 : Box w1 B 9 (.string s) := hB.below hb hB.lt
  refine ⟨h1, h1.set _, ⟨hb.os, hb.tape, hb.output, ?_, fun k hk hne => ?_⟩⟩
  · have := hb.size; simpa using this
  · rw [Below.heap_setCell _ _ _ _ (by intro h; exact hne (by rw [h]))]; exact hb.block k hk

theorem step_plain {l r : List UInt8} {a : UInt8} (hl : l = a :: r) (h : l.length < 2 ∨ ¬ a.toNat = 92) : ∀ x xs, l = escB x ++ xs → a = x ∧ l.drop 1 = xs := by
  intro x xs hx
  subst hl
  unfold escB at hx
  split at hx
  · simp only [List.cons_append, List.nil_append, List.cons.injEq] at hx
    obtain ⟨rfl, rfl⟩ := hx
    rcases h with h | h
    · simp only [List.length_cons] at h; omega
    · exact absurd rfl h
  · split at hx
    · simp only [List.cons_append, List.nil_append, List.cons.injEq] at hx
      obtain ⟨rfl, rfl⟩ := hx
      rcases h with h | h
      · simp only [List.length_cons] at h; omega
      · exact absurd rfl h
    · simp only [List.cons_append, List.nil_append, List.cons.injEq] at hx
      obtain ⟨rfl, rfl⟩ := hx
      exact ⟨rfl, rfl⟩
theorem step_marked {l r : List UInt8} {a b : UInt8} (hl : l = a :: b :: r) (ha : a.toNat = 92) (hb : l.length < 4 ∨ ¬ b.toNat = 120) : ∀ x xs, l = escB x ++ xs → b = x ∧ l.drop 2 = xs := by
  intro x xs hx
  subst hl
  unfold escB at hx
  split at hx
  · simp only [List.cons_append, List.nil_append, List.cons.injEq] at hx
    obtain ⟨rfl, rfl, rfl⟩ := hx
    exact ⟨rfl, rfl⟩
  · split at hx
    · simp only [List.cons_append, List.nil_append, List.cons.injEq] at hx
      obtain ⟨rfl, rfl, rfl⟩ := hx
      rcases hb with hb | hb
      · simp only [List.length_cons] at hb; omega
      · exact absurd rfl hb
    · simp only [List.cons_append, List.nil_append, List.cons.injEq] at hx
      obtain ⟨rfl, rfl⟩ := hx
      omega
theorem fold16_hex (x : UInt8) : fold16 0 [hexd (hi4 x), hexd (lo4 x)] = some x.toNat := by
  simp only [fold16, dig16_hexd _ (hi4_lt x), dig16_hexd _ (lo4_lt x)]
  congr 1
  unfold hi4 lo4
  omega
theorem step_hex {l r : List UInt8} {a b c d : UInt8} (hl : l = a :: b :: c :: d :: r) (ha : a.toNat = 92) (hb : b.toNat = 120) {v : Nat} (hv : ∀ x, fold16 0 [c, d] = some x → v = x) :
    ∀ x xs, l = escB x ++ xs → UInt8.ofNat v = x ∧ l.drop 4 = xs := by
  intro x xs hx
  subst hl
  unfold escB at hx
  split at hx
  · rename_i h
    simp only [List.cons_append, List.nil_append, List.cons.injEq] at hx
    obtain ⟨rfl, rfl, _⟩ := hx
    omega
  · split at hx
    · simp only [List.cons_append, List.nil_append, List.cons.injEq] at hx
      obtain ⟨rfl, rfl, rfl, rfl, rfl⟩ := hx
      have := hv _ (fold16_hex x)
      subst this
      exact ⟨by simp, rfl⟩
    · rename_i h1 h2
      simp only [List.cons_append, List.nil_append, List.cons.injEq] at hx
      obtain ⟨rfl, rfl⟩ := hx
      omega
theorem list_at (s : ByteArray) (k : Nat) (h : k < s.size) : s.data.toList.drop k = s[k] :: s.data.toList.drop (k + 1) := by
  have hk : k < s.data.toList.length := by simpa using h
  rw [List.drop_eq_getElem_cons hk]
  rfl
theorem toList_data (s : ByteArray) : s.toList = s.data.toList := ByteArray.toList_eq s

theorem ext2 (s : ByteArray) (h : 2 ≤ s.size) : (s.extract 0 2).toList = [s[0]'(by omega), s[1]'(by omega)] := by
  rw [toList_data, Lib.extract_data]
  have h0 := list_at s 0 (by omega)
  have h1 := list_at s 1 (by omega)
  simp only [List.drop_zero] at h0
  rw [h0, h1]
  rfl
theorem ext24 (s : ByteArray) (h : 4 ≤ s.size) : (s.extract 2 4).data.toList = [s[2]'(by omega), s[3]'(by omega)] := by
  rw [Lib.extract_data]
  have h2 := list_at s 2 (by omega)
  have h3 := list_at s 3 (by omega)
  rw [h2, h3]
  rfl

set_option maxHeartbeats 1000000 in
set_option maxRecDepth 20000 in
theorem take_short (B : Nat) (s : ByteArray) (w : World) (hB : Box w B 9 (.string s)) (h0 : 0 < s.size) (h2 : s.size < 2) : Calls Tryz.prog 76 #[.pointer (some ⟨B, 0, none⟩)] w (Take B s w) := by
  have hi0 : (0 : Int) < (s.size : Int) := by omega
  have hcB := hB.cell
  have hfB := hB.free
  go_enter Tryz.func76, Tryz.ntmps76
  go_wp2
  go_quiet (fail)
  go_wp2_with fail
  go_ret
  obtain ⟨_, hB2, hg⟩ := take_world (u := s.extract 1 s.size) hB (below_drewN (Below.refl w.heap.size w) nq)
  exact ⟨s[0], 1, rfl, Nat.le_refl _, h0, hB2, hg, step_plain (list_at s 0 h0) (.inl (by have := Lib.size_eq s; omega))⟩

set_option maxHeartbeats 1000000 in
set_option maxRecDepth 20000 in
theorem take_plain (B : Nat) (s : ByteArray) (w : World) (hB : Box w B 9 (.string s)) (h2 : 2 ≤ s.size) (hne : ¬ (s[0]'(by omega)).toNat = 92) : Calls Tryz.prog 76 #[.pointer (some ⟨B, 0, none⟩)] w (Take B s w) := by
  have h0 : 0 < s.size := by omega
  have hi0 : (0 : Int) < (s.size : Int) := by omega
  have hcB := hB.cell
  have hfB := hB.free
  have he : ((s.extract 0 2).toList == [92, 120]) = false := by
    rw [ext2 s h2]
    simp only [beq_eq_false_iff_ne, ne_eq, List.cons.injEq, not_and]
    intro h
    exact absurd (by rw [h]; rfl) hne
  have h92 : (((s[0]'h0).toNat : Int) == 92) = false := by simp; omega
  have HE : Hid (∀ x xs, s.data.toList = escB x ++ xs → s[0]'h0 = x ∧ s.data.toList.drop 1 = xs) := Lib.hid (step_plain (list_at s 0 h0) (.inr hne))
  clear hne
  by_cases h4 : 4 ≤ s.size
  all_goals
    go_enter Tryz.func76, Tryz.ntmps76
    go_wp2
    go_quiet (fail)
    go_wp2_with fail
    go_ret
    obtain ⟨_, hB2, hg⟩ := take_world (u := s.extract 1 s.size) hB (below_drewN (Below.refl w.heap.size w) nq)
    exact ⟨s[0]'h0, 1, rfl, Nat.le_refl _, h0, hB2, hg, HE.out⟩

set_option maxHeartbeats 1000000 in
set_option maxRecDepth 20000 in
theorem take_marked (B : Nat) (s : ByteArray) (w : World) (hB : Box w B 9 (.string s)) (h2 : 2 ≤ s.size) (ha : (s[0]'(by omega)).toNat = 92) (hb : s.size < 4 ∨ ¬ (s[1]'(by omega)).toNat = 120) : Calls Tryz.prog 76 #[.pointer (some ⟨B, 0, none⟩)] w (Take B s w) := by
  have h0 : 0 < s.size := by omega
  have h1 : 1 < s.size := by omega
  have hi0 : (0 : Int) < (s.size : Int) := by omega
  have hi1 : (1 : Int) < (s.size : Int) := by omega
  have hcB := hB.cell
  have hfB := hB.free
  have h92 : (((s[0]'h0).toNat : Int) == 92) = true := by simp; omega
  have HE : Hid (∀ x xs, s.data.toList = escB x ++ xs → s[1]'h1 = x ∧ s.data.toList.drop 2 = xs) := Lib.hid (step_marked ((list_at s 0 h0).trans (congrArg (s[0]'h0 :: ·) (list_at s 1 h1))) ha (hb.imp (fun hb => by have := Lib.size_eq s; omega) id))
  have fin : ∀ nq, Hid (Take B s w (.returned (bval (s[1]'h1))) ((w.drewN nq).setCell ⟨B, 0, none⟩ (.string (s.extract 2 s.size)))) := fun nq => by
    obtain ⟨_, hB2, hg⟩ := take_world (u := s.extract 2 s.size) hB (below_drewN (Below.refl w.heap.size w) nq)
    exact Lib.hid ⟨s[1]'h1, 2, rfl, by omega, h2, hB2, hg, HE.out⟩
  by_cases h4 : 4 ≤ s.size
  · have he : ((s.extract 0 2).toList == [92, 120]) = false := by
      rw [ext2 s h2]
      simp only [beq_eq_false_iff_ne, ne_eq, List.cons.injEq, not_and]
      intro h h'
      rcases hb with hb | hb
      · omega
      · exact absurd (by rw [h']; rfl) hb
    clear ha hb
    go_enter Tryz.func76, Tryz.ntmps76
    go_wp2
    go_quiet (fail)
    go_wp2_with fail
    go_quiet (fail)
    go_wp2_with fail
    go_ret
    exact (fin _).out
  · clear ha hb
    go_enter Tryz.func76, Tryz.ntmps76
    go_wp2
    go_quiet (fail)
    go_wp2_with fail
    go_quiet (fail)
    go_wp2_with fail
    go_ret
    exact (fin _).out

set_option maxHeartbeats 1000000 in
set_option maxRecDepth 20000 in
theorem take_hex (B : Nat) (s : ByteArray) (w : World) (hE : Env w) (hB : Box w B 9 (.string s)) (h4 : 4 ≤ s.size) (ha : (s[0]'(by omega)).toNat = 92) (hb : (s[1]'(by omega)).toNat = 120) : Calls Tryz.prog 76 #[.pointer (some ⟨B, 0, none⟩)] w (Take B s w) := by
  have h0 : 0 < s.size := by omega
  have hi0 : (0 : Int) < (s.size : Int) := by omega
  have hcB := hB.cell
  have hfB := hB.free
  have he : ((s.extract 0 2).toList == [92, 120]) = true := by
    rw [ext2 s (by omega)]
    simp only [beq_iff_eq, List.cons.injEq, and_true]
    exact ⟨UInt8.toNat_inj.1 ha, UInt8.toNat_inj.1 hb⟩
  have h24 : (s.extract 2 4).size = 2 := by
    have := congrArg List.length (ext24 s h4)
    have h5 := Lib.size_eq (s.extract 2 4)
    simp only [List.length_cons, List.length_nil] at this
    omega
  have H24 := Lib.hid h24
  have HE : Hid (∀ v : Nat, (∀ x, fold16 0 (s.extract 2 4).data.toList = some x → v = x) → ∀ x xs, s.data.toList = escB x ++ xs → UInt8.ofNat v = x ∧ s.data.toList.drop 4 = xs) := Lib.hid fun v hv => by
    rw [ext24 s h4] at hv
    refine step_hex (a := s[0]'h0) (b := s[1]'(by omega)) (c := s[2]'(by omega)) (d := s[3]'(by omega)) (r := s.data.toList.drop 4) ?_ ha hb hv
    rw [← list_at s 3 (by omega), ← list_at s 2 (by omega), ← list_at s 1 (by omega), ← list_at s 0 (by omega)]
    rfl
  have fin : ∀ nq (v : Nat) (w1 : World), v < 256 → (∀ x, fold16 0 (s.extract 2 4).data.toList = some x → v = x) → Below (w.drewN nq).heap.size (w.drewN nq) w1 → Hid (Box w1 B 9 (.string s) ∧ Take B s w (.returned (.int .u8 (v : Int))) (w1.setCell ⟨B, 0, none⟩ (.string (s.extract 4 s.size)))) := fun nq v w1 hv hx hb1 => by
    obtain ⟨hb0, hB2, hg⟩ := take_world (u := s.extract 4 s.size) hB ((below_drewN (Below.refl w.heap.size w) nq).trans hb1)
    refine Lib.hid ⟨hb0, UInt8.ofNat v, 4, ?_, by omega, h4, hB2, hg, HE.out v hx⟩
    have : (UInt8.ofNat v).toNat = v := by simp; omega
    unfold bval
    rw [this]
  clear ha hb h24
  go_enter Tryz.func76, Tryz.ntmps76
  go_wp2
  go_quiet (fail)
  go_wp2_with fail
  have hE1 := hE.below (below_drewN (Below.refl w.heap.size w) nq)
  refine (pu_any (s.extract 2 4) H24.out (w.drewN nq) hE1).mono ?_
  rintro e w1 ⟨v, er, rfl, hv, hx, hb1⟩
  have HF := fin _ v w1 hv hx hb1
  have q1 := HF.out.1.cell
  have q2 := HF.out.1.free
  have v0 : (0 : Int) ≤ (v : Int) := by omega
  have v1 : (v : Int) < 256 := by omega
  clear hx fin
  go_wp2_with fail
  go_ret
  exact HF.out.2

theorem take_any (B : Nat) (s : ByteArray) (w : World) (hE : Env w) (hB : Box w B 9 (.string s)) (h0 : 0 < s.size) : Calls Tryz.prog 76 #[.pointer (some ⟨B, 0, none⟩)] w (Take B s w) := by
  by_cases h2 : s.size < 2
  · exact take_short B s w hB h0 h2
  by_cases ha : (s[0]'h0).toNat = 92
  · by_cases h4 : s.size < 4
    · exact take_marked B s w hB (by omega) ha (.inl h4)
    · by_cases hb : (s[1]'(by omega)).toNat = 120
      · exact take_hex B s w hE hB (by omega) ha hb
      · exact take_marked B s w hB (by omega) ha (.inr hb)
  · exact take_plain B s w hB (by omega) ha
end Go.Proofs.YtgjniopcaahgfaaGreatDoor
