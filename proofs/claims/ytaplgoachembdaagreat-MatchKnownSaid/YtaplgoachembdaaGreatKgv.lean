/- The contract of slices.CompareFunc at values: one by one, the shorter one first. -/
import Derived.Test.YtaplgoachembdaaGreatA
import Derived.Test.YtaplgoachembdaaGreatKap
import Derived.Test.YtaplgoachembdaaGreatShelf
import Derived.Test.YtaplgoachembdaaGreatGm
import Derived.Test.YtaplgoachembdaaGreatKw
/- The contract of package value's Compare. -/
set_option linter.unusedSimpArgs false
set_option linter.unusedVariables false
namespace Go.Proofs.YtaplgoachembdaaGreat
open Go.RowKit
attribute [local go_sem] ask_hit_int ask_hit_str ask_hit_bool ask_str_int ask_bool_int ask_bool_str ask_int_str ask_int_bool ask_str_bool ask_nil_int ask_nil_str ask_nil_bool


set_option maxHeartbeats 400000 in
set_option maxRecDepth 20000 in
theorem cmpInt_any (x y : Int) (w : World) : Calls Tryz.prog 93 #[.int .i64 x, .int .i64 y] w (Gives (.int .i64 (cmpI x y)) w) := by
  rcases Int.lt_trichotomy x y with h | h | h
  · go_enter Tryz.func93, Tryz.ntmps93
    go_wp2
    go_ret
    exact ⟨ret_i64 (by simp [cmpI, h]), Below.refl _ _⟩
  · subst h
    go_enter Tryz.func93, Tryz.ntmps93
    go_wp2
    go_ret
    exact ⟨ret_i64 (by simp [cmpI]), Below.refl _ _⟩
  · go_enter Tryz.func93, Tryz.ntmps93
    go_wp2
    go_ret
    exact ⟨ret_i64 (by simp [cmpI, h]; omega), Below.refl _ _⟩

set_option maxHeartbeats 400000 in
set_option maxRecDepth 20000 in
theorem cmpInt64_any (x y : Int) (w : World) : Calls Tryz.prog 120 #[.int .i64 x, .int .i64 y] w (Gives (.int .i64 (cmpI x y)) w) := by
  rcases Int.lt_trichotomy x y with h | h | h
  · go_enter Tryz.func120, Tryz.ntmps120
    go_wp2
    go_ret
    exact ⟨ret_i64 (by simp [cmpI, h]), Below.refl _ _⟩
  · subst h
    go_enter Tryz.func120, Tryz.ntmps120
    go_wp2
    go_ret
    exact ⟨ret_i64 (by simp [cmpI]), Below.refl _ _⟩
  · go_enter Tryz.func120, Tryz.ntmps120
    go_wp2
    go_ret
    exact ⟨ret_i64 (by simp [cmpI, h]; omega), Below.refl _ _⟩

set_option maxHeartbeats 400000 in
theorem cmpTruths_any (a b : Bool) (w : World) : Calls Tryz.prog 125 #[.bool a, .bool b] w (Gives (.int .i64 (cmpB a b)) w) := by
  cases a <;> cases b <;>
  · go_enter Tryz.func125, Tryz.ntmps125
    go_wp2
    go_ret
    exact ⟨ret_i64 (by simp [cmpB]), Below.refl _ _⟩

theorem cmpStr_any (a b : ByteArray) (w : World) : Calls Tryz.prog 92 #[.string a, .string b] w (Gives (.int .i64 (Lib.compareBytes a.data.toList b.data.toList)) w) :=
  (Tryz.strings_Compare a b w).mono fun e w' ⟨he, hw⟩ => ⟨he, hw ▸ Below.refl _ _⟩

set_option maxHeartbeats 400000 in
set_option maxRecDepth 20000 in
theorem compare_apart (k n : Int) (s : ByteArray) (b : Bool) (k' n' : Int) (s' : ByteArray) (b' : Bool) (w : World) (h : (k == k') = false) : Calls Tryz.prog 107 #[val k n s b, val k' n' s' b'] w (Gives (.int .i64 (cmpI k k')) w) := by
  go_enter Tryz.func107, Tryz.ntmps107
  go_wp2_with (go_at_call 93; refine (cmpInt_any k k' _).mono ?_; rintro e w1 ⟨rfl, hb1⟩)
  go_ret
  exact ⟨rfl, (((Below.refl _ _).alloc (Nat.le_refl _) _).alloc (by simp) _).trans (hb1.mono (by simp; omega))⟩

set_option maxHeartbeats 400000 in
set_option maxRecDepth 20000 in
theorem compare_int (n : Int) (s : ByteArray) (b : Bool) (n' : Int) (s' : ByteArray) (b' : Bool) (w : World) : Calls Tryz.prog 107 #[val 1 n s b, val 1 n' s' b'] w (Gives (.int .i64 (cmpI n n')) w) := by
  go_enter Tryz.func107, Tryz.ntmps107
  go_wp2_with (first | (go_at_call 97; refine (content_int n s b _).mono ?_; rintro e w1 ⟨rfl, hb1⟩; have hO := (two_new w 1 n s b 1 n' s' b').below hb1; have q1 := hO.2.1) | (go_at_call 120; refine (cmpInt64_any n n' _).mono ?_; rintro e w2 ⟨rfl, hb2⟩))
  go_ret
  exact ⟨rfl, (((Below.refl _ _).alloc (Nat.le_refl _) _).alloc (by simp) _).trans ((hb1.trans (hb2.mono hb1.size)).mono (by simp; omega))⟩

set_option maxHeartbeats 400000 in
set_option maxRecDepth 20000 in
theorem compare_str (n : Int) (s : ByteArray) (b : Bool) (n' : Int) (s' : ByteArray) (b' : Bool) (w : World) : Calls Tryz.prog 107 #[val 2 n s b, val 2 n' s' b'] w (Gives (.int .i64 (Lib.compareBytes s.data.toList s'.data.toList)) w) := by
  go_enter Tryz.func107, Tryz.ntmps107
  go_wp2_with (first | (go_at_call 97; refine (content_str n s b _).mono ?_; rintro e w1 ⟨rfl, hb1⟩; have hO := (two_new w 2 n s b 2 n' s' b').below hb1; have q1 := hO.2.2.1) | (go_at_call 92; refine (cmpStr_any s s' _).mono ?_; rintro e w2 ⟨rfl, hb2⟩))
  go_ret
  exact ⟨rfl, (((Below.refl _ _).alloc (Nat.le_refl _) _).alloc (by simp) _).trans ((hb1.trans (hb2.mono hb1.size)).mono (by simp; omega))⟩

set_option maxHeartbeats 400000 in
set_option maxRecDepth 20000 in
theorem compare_bool (n : Int) (s : ByteArray) (b : Bool) (n' : Int) (s' : ByteArray) (b' : Bool) (w : World) : Calls Tryz.prog 107 #[val 3 n s b, val 3 n' s' b'] w (Gives (.int .i64 (cmpB b b')) w) := by
  go_enter Tryz.func107, Tryz.ntmps107
  go_wp2_with (first | (go_at_call 97; refine (content_bool n s b _).mono ?_; rintro e w1 ⟨rfl, hb1⟩; have hO := (two_new w 3 n s b 3 n' s' b').below hb1; have q1 := hO.2.2.2) | (go_at_call 125; refine (cmpTruths_any b b' _).mono ?_; rintro e w2 ⟨rfl, hb2⟩))
  go_ret
  exact ⟨rfl, (((Below.refl _ _).alloc (Nat.le_refl _) _).alloc (by simp) _).trans ((hb1.trans (hb2.mono hb1.size)).mono (by simp; omega))⟩

set_option maxHeartbeats 400000 in
set_option maxRecDepth 20000 in
theorem compare_other (k n : Int) (s : ByteArray) (b : Bool) (n' : Int) (s' : ByteArray) (b' : Bool) (w : World) (h1 : (k == 1) = false) (h2 : (k == 2) = false) (h3 : (k == 3) = false) : Calls Tryz.prog 107 #[val k n s b, val k n' s' b'] w (Gives (.int .i64 0) w) := by
  go_enter Tryz.func107, Tryz.ntmps107
  go_wp2_with (go_at_call 97; refine (content_none k n s b _ h1 h2 h3).mono ?_; rintro e w1 ⟨rfl, hb1⟩)
  go_ret
  exact ⟨rfl, (((Below.refl _ _).alloc (Nat.le_refl _) _).alloc (by simp) _).trans (hb1.mono (by simp; omega))⟩

theorem compare_any (k n : Int) (s : ByteArray) (b : Bool) (k' n' : Int) (s' : ByteArray) (b' : Bool) (w : World) : Calls Tryz.prog 107 #[val k n s b, val k' n' s' b'] w (Gives (.int .i64 (cmpV k n s b k' n' s' b')) w) := by
  by_cases hk : k = k'
  · subst hk
    by_cases h1 : k = 1
    · subst h1; simpa [cmpV] using compare_int n s b n' s' b' w
    by_cases h2 : k = 2
    · subst h2; simpa [cmpV] using compare_str n s b n' s' b' w
    by_cases h3 : k = 3
    · subst h3; simpa [cmpV] using compare_bool n s b n' s' b' w
    · simpa [cmpV, h1, h2, h3] using compare_other k n s b n' s' b' w (by simpa using h1) (by simpa using h2) (by simpa using h3)
  · simpa [cmpV, hk] using compare_apart k n s b k' n' s' b' w (by simpa using hk)
end Go.Proofs.YtaplgoachembdaaGreat
/- The contracts of cmp.Or and of package pred's compareValues. -/
/- The place of element i, in the two slice types of package pred's own. -/
set_option linter.unusedSimpArgs false
set_option linter.unusedVariables false
namespace Go.Proofs.YtaplgoachembdaaGreat.Gm
open Go Go.RowKit

theorem idx_v2 (p : Option Addr) (b o n cap k : Nat) (hp : p = some ⟨b, o, none⟩) (hk : k < n) (W : World) : (Instr.indexAt 113 (.slice p n cap) (.int .i64 (k : Int))).run Tryz.prog W = .ok (.pointer (some ⟨b, o + k * 4, none⟩)) W := by subst hp; go_simp
theorem idx_c2 (p : Option Addr) (b o n cap k : Nat) (hp : p = some ⟨b, o, none⟩) (hk : k < n) (W : World) : (Instr.indexAt 95 (.slice p n cap) (.int .i64 (k : Int))).run Tryz.prog W = .ok (.pointer (some ⟨b, o + k * 7, none⟩)) W := by subst hp; go_simp
end Go.Proofs.YtaplgoachembdaaGreat.Gm
set_option linter.unusedSimpArgs false
set_option linter.unusedVariables false
namespace Go.Proofs.YtaplgoachembdaaGreat.Gm
open Go Go.RowKit
attribute [local go_sem ↓] Go.wp_at_zero Go.wp_at_succ

theorem idx_int (p : Option Addr) (b o n cap k : Nat) (hp : p = some ⟨b, o, none⟩) (hk : k < n) (W : World) : (Instr.indexAt 49 (.slice p n cap) (.int .i64 (k : Int))).run Tryz.prog W = .ok (.pointer (some ⟨b, o + k, none⟩)) W := by subst hp; go_simp
theorem or_step {l : List Int} {k : Nat} (hk : k < l.length) : orL (l.drop k) = if l.getD k 0 = 0 then orL (l.drop (k + 1)) else l.getD k 0 := by
  rw [List.drop_eq_getElem_cons hk, orL, List.getD_eq_getElem?_getD, List.getElem?_eq_getElem hk]
  rfl
set_option maxHeartbeats 2000000 in
set_option maxRecDepth 20000 in
/-- cmp.Or of a row of numbers in memory: the first that is not 0. -/
theorem cor_any (g o cap : Nat) (l : List Int) (w : World) (hlen : l.length ≤ 4611686018427387904) (hc : ∀ i, i < l.length → w.cell? ⟨g, o + i, none⟩ = some (.int .i64 (l.getD i 0))) :
    Calls Tryz.prog 91 #[.slice (some ⟨g, o, none⟩) l.length cap] w (Quits (.int .i64 (orL l)) w) := by
  have HC := Lib.hid hc
  clear hc
  go_enter Tryz.func91, Tryz.ntmps91
  go_wp2
  go_loopw [8] (fun i wr => ∃ k : Nat, k ≤ l.length ∧ i = .int .i64 k ∧ orL (l.drop k) = orL l ∧ wr = w) (fun i _ => l.length - (intOf i).toNat)
  case atStart => exact ⟨0, Nat.zero_le _, rfl, rfl, rfl⟩
  case round =>
    obtain ⟨k, hk, rfl, hor, rfl⟩ := hrel
    have HO := Lib.hid hor
    clear hor
    by_cases hkl : k < l.length
    · have hidx := idx_int (some ⟨g, o, none⟩) g o l.length cap k rfl hkl
      have hcell := HC.out k hkl
      have HS := Lib.hid (or_step hkl)
      obtain ⟨x, hx⟩ : ∃ x, l.getD k 0 = x := ⟨_, rfl⟩
      rw [hx] at hcell HS
      clear hx
      by_cases hx0 : x = 0
      · subst hx0
        have HE : Hid (orL (l.drop (k + 1)) = orL l) := Lib.hid (by rw [← HO.out, HS.out, if_pos rfl])
        go_wp2
        go_roundw
        case rel => exact ⟨k + 1, by omega, by simp, HE.out, trivial⟩
        case measure => simp [intOf]; omega
      · have HE : Hid (orL l = x) := Lib.hid (by rw [← HO.out, HS.out, if_neg hx0])
        have e1 : (x != 0) = true := by simpa using hx0
        clear hx0
        go_wp2
        go_ret
        exact ⟨ret_int HE.out.symm, rfl⟩
    · have hke : k = l.length := by omega
      subst hke
      have HE : Hid (orL l = 0) := Lib.hid (by rw [← HO.out, List.drop_length]; rfl)
      go_wp2
      go_ret
      exact ⟨ret_int HE.out.symm, rfl⟩
theorem or4_any (g a b c d) (w : World) (h0 : w.cell? ⟨g, 0, none⟩ = some (.int .i64 a)) (h1 : w.cell? ⟨g, 1, none⟩ = some (.int .i64 b)) (h2 : w.cell? ⟨g, 2, none⟩ = some (.int .i64 c)) (h3 : w.cell? ⟨g, 3, none⟩ = some (.int .i64 d)) :
    Calls Tryz.prog 91 #[.slice (some ⟨g, 0, none⟩) 4 4] w (Quits (.int .i64 (orL [a, b, c, d])) w) := by
  refine cor_any g 0 4 [a, b, c, d] w (by simp) (fun i hi => ?_)
  match i, hi with
  | 0, _ => exact h0
  | 1, _ => exact h1
  | 2, _ => exact h2
  | 3, _ => exact h3

set_option maxHeartbeats 8000000 in
set_option maxRecDepth 100000 in
theorem cmpvals_raw (k n : Int) (s : ByteArray) (x : Bool) (k' n' : Int) (s' : ByteArray) (x' : Bool) (w : World) : Calls Tryz.prog 94 #[val k n s x, val k' n' s' x'] w (Gives (.int .i64 (orL [cmpV k n s x k' n' s' x', cmpI n n', Lib.compareBytes s.data.toList s'.data.toList, cmpB x x'])) w) := by
  have HC := Lib.hid (fun W => compare_any k n s x k' n' s' x' W)
  have HB := Lib.hid (fun W => compare_any 3 0 ⟨#[]⟩ x 3 0 ⟨#[]⟩ x' W)
  have hb3 : cmpV 3 0 ⟨#[]⟩ x 3 0 ⟨#[]⟩ x' = cmpB x x' := by simp [cmpV]
  rw [hb3] at HB
  clear hb3
  have HI := Lib.hid (fun W => cmpInt64_any n n' W)
  have HS := Lib.hid (fun W => cmpStr_any s s' W)
  generalize cmpV k n s x k' n' s' x' = r1 at HC ⊢
  generalize cmpI n n' = r2 at HI ⊢
  generalize Lib.compareBytes s.data.toList s'.data.toList = r3 at HS ⊢
  generalize cmpB x x' = r4 at HB ⊢
  obtain ⟨R, hR⟩ : ∃ R, orL [r1, r2, r3, r4] = R := ⟨_, rfl⟩
  have HO := Lib.hid (fun g W h0 h1 h2 h3 => or4_any g r1 r2 r3 r4 W h0 h1 h2 h3)
  rw [hR] at HO ⊢
  clear hR
  go_enter Tryz.func94, Tryz.ntmps94
  go_wp2_with fail
  go_region_held3 (fun w' => w'.cell? ⟨w.heap.size, 0, none⟩ = some (.int .i64 k) ∧ w'.cell? ⟨w.heap.size, 1, none⟩ = some (.int .i64 n) ∧ w'.cell? ⟨w.heap.size, 2, none⟩ = some (.string s) ∧ w'.cell? ⟨w.heap.size, 3, none⟩ = some (.bool x) ∧
      w'.cell? ⟨w.heap.size + 1, 0, none⟩ = some (.int .i64 k') ∧ w'.cell? ⟨w.heap.size + 1, 1, none⟩ = some (.int .i64 n') ∧ w'.cell? ⟨w.heap.size + 1, 2, none⟩ = some (.string s') ∧ w'.cell? ⟨w.heap.size + 1, 3, none⟩ = some (.bool x'))
    (first | go_keep | (repeat' apply And.intro) <;> (refine cell_later (by assumption) ?_; first | assumption | go_keep))
    (first | (go_at_call 100; first | ((with_reducible refine (truth_any x _).mono ?_); rintro e w6 ⟨rfl, b6⟩) | ((with_reducible refine (truth_any x' _).mono ?_); rintro e w7 ⟨rfl, b7⟩)) | (go_at_call 120; (with_reducible refine (HI.out _).mono ?_); rintro e w8 ⟨rfl, b8⟩) | (go_at_call 92; (with_reducible refine (HS.out _).mono ?_); rintro e w9 ⟨rfl, b9⟩) | (go_at_call 107; first | ((with_reducible refine (HC.out _).mono ?_); rintro e w10 ⟨rfl, b10⟩) | ((with_reducible refine (HB.out _).mono ?_); rintro e w11 ⟨rfl, b11⟩)) | (go_at_call 91; (with_reducible refine (HO.out _ _ (by simp) (by simp) (by simp) (by simp)).mono ?_); rintro e w12 ⟨rfl, rfl⟩))
  go_wp2
  go_ret
  have B := then_ (then_ (then_ (then_ (then_ (then_ (((Below.refl _ w).alloc (Nat.le_refl _) _).alloc (by simp) _).drew b10) b8) b9) b6) b7) b11
  exact ⟨rfl, B.alloc B.size _⟩
/-- The contract of compareValues: the order of values, in all that they have. -/
theorem cmpvals_any (a b : Vl) (w : World) : Calls Tryz.prog 94 #[vv a, vv b] w (Gives (.int .i64 (cmpW a b)) w) := cmpvals_raw a.k a.n a.s a.b b.k b.n b.s b.b w
end Go.Proofs.YtaplgoachembdaaGreat.Gm
set_option linter.unusedSimpArgs false
set_option linter.unusedVariables false
namespace Go.Proofs.YtaplgoachembdaaGreat.Gm
open Go Go.RowKit
attribute [local go_sem ↓] Go.wp_at_zero Go.wp_at_succ

theorem s22_call {w W W' : World} {p : Prop} (h : Below w.heap.size w W ∧ p) (b : Below W.heap.size W W') : Below w.heap.size w W' := then_ h.1 b
theorem s22_alloc {w W : World} {p : Prop} (h : Below w.heap.size w W ∧ p) (o : Obj) : Below w.heap.size w (W.alloc o) := h.1.alloc h.1.size o
set_option maxHeartbeats 4000000 in
set_option maxRecDepth 20000 in
theorem cmpf_v (va vb : Value) (a b : List Vl) (w : World) (hA : Vs w va a) (hB : Vs w vb b) :
    Calls Tryz.prog 95 #[va, vb, .func (.func 94) #[] #[]] w (Gives (.int .i64 (cmpL cmpW a b)) w) := by
  obtain ⟨p, cap, rfl⟩ := hA.1.form
  obtain ⟨p', cap', rfl⟩ := hB.1.form
  have hla : a.length ≤ 3518437208883 := by have := hA.2; omega
  have hlb : b.length ≤ 3518437208883 := by have := hB.2; omega
  have HA := Lib.hid hA
  have HB := Lib.hid hB
  clear hA hB
  go_enter Tryz.func95, Tryz.ntmps95
  go_wp2
  go_loopw [13] (fun i wr => ∃ k : Nat, k ≤ a.length ∧ k ≤ b.length ∧ i = .int .i64 k ∧ cmpL cmpW (a.drop k) (b.drop k) = cmpL cmpW a b ∧ Below w.heap.size w wr) (fun i _ => a.length - (intOf i).toNat)
  case atStart => exact ⟨0, Nat.zero_le _, Nat.zero_le _, rfl, rfl, Below.refl _ _⟩
  case round =>
    obtain ⟨k, hk, hk', rfl, hor, hbel⟩ := hrel
    have HO := Lib.hid hor
    have HBel := Lib.hid hbel
    clear hor hbel
    by_cases hka : k < a.length
    · obtain ⟨p1, cap1, ba, oa, hv, hpa, hba, h4⟩ := four_at HA.out.1 hka
      simp only [Value.slice.injEq] at hv
      obtain ⟨rfl, _, rfl⟩ := hv
      have hidx := idx_v1 p ba oa a.length cap k hpa hka
      clear hpa
      obtain ⟨c0, c1, c2, c3⟩ := h4.later HBel.out
      by_cases hkb : k < b.length
      · obtain ⟨p2, cap2, bb, ob, hv, hpb, hbb, h5⟩ := four_at HB.out.1 hkb
        simp only [Value.slice.injEq] at hv
        obtain ⟨rfl, _, rfl⟩ := hv
        have hidx' := idx_v1 p' bb ob b.length cap' k hpb hkb
        clear hpb
        obtain ⟨d0, d1, d2, d3⟩ := h5.later HBel.out
        have HS := Lib.hid (cmpL_step (f := cmpW) hka hkb)

        obtain ⟨x, hx⟩ : ∃ x, a.getD k default = x := ⟨_, rfl⟩
        obtain ⟨y, hy⟩ : ∃ y, b.getD k default = y := ⟨_, rfl⟩
        rw [hx] at c0 c1 c2 c3 HS 
        rw [hy] at d0 d1 d2 d3 HS 

        have HBa := Lib.hid hba
        have HBb := Lib.hid hbb
        have hsz := HBel.out.size
        have hba' : ba < wr.heap.size := by omega
        have hbb' : bb < wr.heap.size := by omega
        clear hx hy h4 h5 hba hbb
        go_wp2_with fail
        refine (cmpvals_any x y _ ).mono ?_
        rintro e w1 ⟨rfl, b1⟩
        have hB1 : Below w.heap.size w w1 := then_ ((HBel.out.alloc HBel.out.size _).alloc (by simp; omega) _) b1
        have HB1 := Lib.hid hB1
        clear b1 hB1
        by_cases hz : cmpW x y = 0
        · have HE : Hid (cmpL cmpW (a.drop (k + 1)) (b.drop (k + 1)) = cmpL cmpW a b) := Lib.hid (by rw [← HO.out, HS.out, if_pos hz])
          have e1 : (cmpW x y != 0) = false := by simp [hz]
          clear hz
          go_wp2_with fail
          go_roundw
          case rel => exact ⟨k + 1, by omega, by omega, by simp, HE.out, HB1.out⟩
          case measure => simp [intOf]; omega
        · have HE : Hid (cmpL cmpW a b = cmpW x y) := Lib.hid (by rw [← HO.out, HS.out, if_neg hz])
          have e1 : (cmpW x y != 0) = true := by simpa using hz
          clear hz
          go_wp2_with fail
          go_ret
          exact ⟨ret_int HE.out.symm, HB1.out⟩
      · have HE : Hid (cmpL cmpW a b = 1) := Lib.hid (by rw [← HO.out, cmpL_over hka (by omega)])
        have hge : b.length ≤ k := by omega
        obtain ⟨x, hx⟩ : ∃ x, a.getD k default = x := ⟨_, rfl⟩
        rw [hx] at c0 c1 c2 c3
        clear hx h4 hkb
        go_wp2_with fail
        go_ret
        exact ⟨ret_int HE.out.symm, HBel.out.alloc HBel.out.size _⟩
    · have hke : k = a.length := by omega
      have HD := Lib.hid (cmpL_done (f := cmpW) (a := a) (b := b) (k := k) (by omega))
      subst hke
      by_cases hlt : a.length < b.length
      · have HE : Hid (cmpL cmpW a b = -1) := Lib.hid (by rw [← HO.out, HD.out, if_pos hlt])
        go_wp2
        go_ret
        exact ⟨ret_int HE.out.symm, HBel.out⟩
      · have HE : Hid (cmpL cmpW a b = 0) := Lib.hid (by rw [← HO.out, HD.out, if_neg hlt])
        have hd : decide (a.length < b.length) = false := by simpa using hlt
        go_wp2
        go_ret
        exact ⟨ret_int HE.out.symm, HBel.out⟩
end Go.Proofs.YtaplgoachembdaaGreat.Gm
