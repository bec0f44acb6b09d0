/- The contracts of cmp.Or and of package pred's compareValues. -/
import Derived.Test.YtpdlgkneeilclaaKw
set_option linter.unusedSimpArgs false
set_option linter.unusedVariables false
namespace Go.Proofs.Ytpdlgkneeilclaa.Gm
open Go Go.RowKit
attribute [local go_sem ↓] Go.wp_at_zero Go.wp_at_succ

theorem idx_int (p : Option Addr) (b o n cap k : Nat) (hp : p = some ⟨b, o, none⟩) (hk : k < n) (W : World) : (Instr.indexAt 90 (.slice p n cap) (.int .i64 (k : Int))).run Try.prog W = .ok (.pointer (some ⟨b, o + k, none⟩)) W := by subst hp; go_simp
theorem or_step {l : List Int} {k : Nat} (hk : k < l.length) : orL (l.drop k) = if l.getD k 0 = 0 then orL (l.drop (k + 1)) else l.getD k 0 := by
  rw [List.drop_eq_getElem_cons hk, orL, List.getD_eq_getElem?_getD, List.getElem?_eq_getElem hk]
  rfl
set_option maxHeartbeats 2000000 in
set_option maxRecDepth 20000 in
/-- cmp.Or of a row of numbers in memory: the first that is not 0. -/
theorem or_any (g o cap : Nat) (l : List Int) (w : World) (hlen : l.length ≤ 4611686018427387904) (hc : ∀ i, i < l.length → w.cell? ⟨g, o + i, none⟩ = some (.int .i64 (l.getD i 0))) :
    Calls Try.prog 54 #[.slice (some ⟨g, o, none⟩) l.length cap] w (Quits (.int .i64 (orL l)) w) := by
  have HC := Lib.hid hc
  clear hc
  go_enter Try.func54, Try.ntmps54
  go_wp2
  go_loopw [8] (fun i wr => ∃ k : Nat, k ≤ l.length ∧ i = .int .i64 k ∧ orL (l.drop k) = orL l ∧ wr = w) (fun i _ => l.length - (intOf i).toNat)
  case atStart => exact ⟨0, Nat.zero_le _, rfl, rfl, rfl⟩
  case round =>
    obtain ⟨k, hk, rfl, hor, rfl⟩ := hrel
    have HO := Lib.hid hor
    clear hor
    by_cases hkl : k < l.length
    · have hidx := idx_int (some ⟨g, o, none⟩) g o l.length cap k rfl hkl
      have hcell := HC.out k hkl
      have HS := Lib.hid (or_step hkl)
      obtain ⟨x, hx⟩ : ∃ x, l.getD k 0 = x := ⟨_, rfl⟩
      rw [hx] at hcell HS
      clear hx
      by_cases hx0 : x = 0
      · subst hx0
        have HE : Hid (orL (l.drop (k + 1)) = orL l) := Lib.hid (by rw [← HO.out, HS.out, if_pos rfl])
        go_wp2
        go_roundw
        case rel => exact ⟨k + 1, by omega, by simp, HE.out, trivial⟩
        case measure => simp [intOf]; omega
      · have HE : Hid (orL l = x) := Lib.hid (by rw [← HO.out, HS.out, if_neg hx0])
        have e1 : (x != 0) = true := by simpa using hx0
        clear hx0
        go_wp2
        go_ret
        exact ⟨ret_int HE.out.symm, rfl⟩
    · have hke : k = l.length := by omega
      subst hke
      have HE : Hid (orL l = 0) := Lib.hid (by rw [← HO.out, List.drop_length]; rfl)
      go_wp2
      go_ret
      exact ⟨ret_int HE.out.symm, rfl⟩
theorem or4_any (g a b c d) (w : World) (h0 : w.cell? ⟨g, 0, none⟩ = some (.int .i64 a)) (h1 : w.cell? ⟨g, 1, none⟩ = some (.int .i64 b)) (h2 : w.cell? ⟨g, 2, none⟩ = some (.int .i64 c)) (h3 : w.cell? ⟨g, 3, none⟩ = some (.int .i64 d)) :
    Calls Try.prog 54 #[.slice (some ⟨g, 0, none⟩) 4 4] w (Quits (.int .i64 (orL [a, b, c, d])) w) := by
  refine or_any g 0 4 [a, b, c, d] w (by simp) (fun i hi => ?_)
  match i, hi with
  | 0, _ => exact h0
  | 1, _ => exact h1
  | 2, _ => exact h2
  | 3, _ => exact h3

set_option maxHeartbeats 8000000 in
set_option maxRecDepth 100000 in
theorem cmpvals_raw (k n : Int) (s : ByteArray) (x : Bool) (k' n' : Int) (s' : ByteArray) (x' : Bool) (w : World) : Calls Try.prog 55 #[val k n s x, val k' n' s' x'] w (Gives (.int .i64 (orL [cmpV k n s x k' n' s' x', cmpI n n', Lib.compareBytes s.data.toList s'.data.toList, cmpB x x'])) w) := by
  have HC := Lib.hid (fun W => compare_any k n s x k' n' s' x' W)
  have HB := Lib.hid (fun W => compare_any 3 0 ⟨#[]⟩ x 3 0 ⟨#[]⟩ x' W)
  have hb3 : cmpV 3 0 ⟨#[]⟩ x 3 0 ⟨#[]⟩ x' = cmpB x x' := by simp [cmpV]
  rw [hb3] at HB
  clear hb3
  have HI := Lib.hid (fun W => cmpInt64_any n n' W)
  have HS := Lib.hid (fun W => cmpStr_any s s' W)
  generalize cmpV k n s x k' n' s' x' = r1 at HC ⊢
  generalize cmpI n n' = r2 at HI ⊢
  generalize Lib.compareBytes s.data.toList s'.data.toList = r3 at HS ⊢
  generalize cmpB x x' = r4 at HB ⊢
  obtain ⟨R, hR⟩ : ∃ R, orL [r1, r2, r3, r4] = R := ⟨_, rfl⟩
  have HO := Lib.hid (fun g W h0 h1 h2 h3 => or4_any g r1 r2 r3 r4 W h0 h1 h2 h3)
  rw [hR] at HO ⊢
  clear hR
  go_enter Try.func55, Try.ntmps55
  go_wp2_with fail
  go_region_held3 (fun w' => w'.cell? ⟨w.heap.size, 0, none⟩ = some (.int .i64 k) ∧ w'.cell? ⟨w.heap.size, 1, none⟩ = some (.int .i64 n) ∧ w'.cell? ⟨w.heap.size, 2, none⟩ = some (.string s) ∧ w'.cell? ⟨w.heap.size, 3, none⟩ = some (.bool x) ∧
      w'.cell? ⟨w.heap.size + 1, 0, none⟩ = some (.int .i64 k') ∧ w'.cell? ⟨w.heap.size + 1, 1, none⟩ = some (.int .i64 n') ∧ w'.cell? ⟨w.heap.size + 1, 2, none⟩ = some (.string s') ∧ w'.cell? ⟨w.heap.size + 1, 3, none⟩ = some (.bool x'))
    (first | go_keep | (repeat' apply And.intro) <;> (refine cell_later (by assumption) ?_; first | assumption | go_keep))
    (first | (go_at_call 59; first | ((with_reducible refine (truth_any x _).mono ?_); rintro e w6 ⟨rfl, b6⟩) | ((with_reducible refine (truth_any x' _).mono ?_); rintro e w7 ⟨rfl, b7⟩)) | (go_at_call 48; (with_reducible refine (HI.out _).mono ?_); rintro e w8 ⟨rfl, b8⟩) | (go_at_call 49; (with_reducible refine (HS.out _).mono ?_); rintro e w9 ⟨rfl, b9⟩) | (go_at_call 27; first | ((with_reducible refine (HC.out _).mono ?_); rintro e w10 ⟨rfl, b10⟩) | ((with_reducible refine (HB.out _).mono ?_); rintro e w11 ⟨rfl, b11⟩)) | (go_at_call 54; (with_reducible refine (HO.out _ _ (by simp) (by simp) (by simp) (by simp)).mono ?_); rintro e w12 ⟨rfl, rfl⟩))
  go_wp2
  go_ret
  have B := then_ (then_ (then_ (then_ (then_ (then_ (((Below.refl _ w).alloc (Nat.le_refl _) _).alloc (by simp) _).drew b10) b8) b9) b6) b7) b11
  exact ⟨rfl, B.alloc B.size _⟩
/-- The contract of compareValues: the order of values, in all that they have. -/
theorem cmpvals_any (a b : Vl) (w : World) : Calls Try.prog 55 #[vv a, vv b] w (Gives (.int .i64 (cmpW a b)) w) := cmpvals_raw a.k a.n a.s a.b b.k b.n b.s b.b w
end Go.Proofs.Ytpdlgkneeilclaa.Gm
