/- Texts in memory; the contracts of slices.Contains and slices.ContainsFunc over them, of package cover's matchesNothing, withinEach, Covers. -/
import Derived.Test.YtggcboejdihdiaaCq
set_option linter.unusedSimpArgs false
set_option linter.unusedVariables false
namespace Go.Proofs.Ytggcboejdihdiaa.Gm
open Go Go.RowKit
attribute [local go_sem ↓] Go.wp_at_zero Go.wp_at_succ

def encT (l : List UInt8) : List Value := [.string ⟨l.toArray⟩]
theorem encT_length (l : List UInt8) : (encT l).length = 1 := rfl
theorem flat_encT (l : List (List UInt8)) : l.map Proofs.encStr = l.flatMap encT := by
  induction l with
  | nil => rfl
  | cons a l ih => simp only [List.map_cons, List.flatMap_cons, ih]; rfl
/-- Texts in memory. -/
def Ts (w : World) (v : Value) (l : List (List UInt8)) : Prop := RowIn encT 1 w v l ∧ l.length ≤ 1000000
theorem Ts.later {w w' : World} {v : Value} {l : List (List UInt8)} (h : Ts w v l) (hb : Below w.heap.size w w') : Ts w' v l := ⟨h.1.later hb, h.2⟩
theorem OwnT.ts {w : World} {base : Nat} {v : Value} {l : List (List UInt8)} (h : OwnT w base v l) (hl : l.length ≤ 1000000) : Ts w v l := by
  refine ⟨?_, hl⟩
  unfold OwnT at h
  rw [flat_encT] at h
  exact row_of_own encT_length h
theorem one_at {w : World} {v : Value} {l : List (List UInt8)} (h : RowIn encT 1 w v l) {i : Nat} (hi : i < l.length) : ∃ p cap b o, v = .slice p l.length cap ∧ p = some ⟨b, o, none⟩ ∧ b < w.heap.size ∧ w.cell? ⟨b, o + i, none⟩ = some (.string ⟨(l.getD i default).toArray⟩) := by
  obtain ⟨p, cap, b, o, h1, _, h3, _, h5⟩ := h
  have hl : l ≠ [] := by rintro rfl; simp at hi
  have := h5 i hi 0 _ rfl
  rw [Nat.mul_one, Nat.add_zero] at this
  exact ⟨p, cap, b, o, h1, (h3 hl).1, (h3 hl).2, this⟩
theorem idx_t (p : Option Addr) (b o n cap k : Nat) (hp : p = some ⟨b, o, none⟩) (hk : k < n) (W : World) : (Instr.indexAt 66 (.slice p n cap) (.int .i64 (k : Int))).run Try.prog W = .ok (.pointer (some ⟨b, o + k, none⟩)) W := by subst hp; go_simp
theorem mk_list (l : List UInt8) : (⟨l.toArray⟩ : ByteArray).data.toList = l := by simp
theorem contains_mk (l : List (List UInt8)) (x : ByteArray) : Lib.containsS ((l.map fun t => (⟨t.toArray⟩ : ByteArray)).take l.length) x = l.contains x.data.toList := by
  rw [List.take_of_length_le (by simp), Bool.eq_iff_iff, Lib.containsS_iff, List.contains_iff_mem, List.mem_map]
  constructor
  · rintro ⟨t, ht, rfl⟩; rw [mk_list]; exact ht
  · intro h; exact ⟨_, h, by apply bytes_eq; rw [mk_list]⟩
theorem contains_any (v : Value) (l : List (List UInt8)) (x : ByteArray) (w : World) (hA : Ts w v l) : Calls Try.prog 34 #[v, .string x] w (Gives (.bool (l.contains x.data.toList)) w) := by
  obtain ⟨⟨p, cap, b, o, rfl, hc, h3, _, h5⟩, hl⟩ := hA
  by_cases h0 : l = []
  · subst h0
    exact (Try.slices_Contains_string_empty p cap x w).mono fun e w' ⟨he, hw⟩ => ⟨he, hw ▸ Below.refl _ _⟩
  · obtain ⟨rfl, hb⟩ := h3 h0
    refine (Try.slices_Contains_string b o l.length cap (l.map fun t => ⟨t.toArray⟩) x w (by simp) (by omega) (fun j hj => ?_)).mono fun e w' ⟨he, hw⟩ => ⟨by rw [he, contains_mk], hw ▸ Below.refl _ _⟩
    have hj' : j < l.length := by simpa using hj
    have := h5 j hj' 0 _ rfl
    rw [Nat.mul_one, Nat.add_zero] at this
    rw [this]
    simp [List.getD_eq_getElem?_getD, hj']
set_option maxHeartbeats 4000000 in
set_option maxRecDepth 100000 in
theorem ix_no (v : Value) (l : List (List UInt8)) (f : List UInt8 → Bool) (g : Nat) (w : World) (hA : Ts w v l) (hF : ∀ (x : ByteArray) (W : World), Below w.heap.size w W → Calls Try.prog 32 #[.string x, .pointer (some ⟨g, 0, none⟩)] W (Gives (.bool (f x.data.toList)) W)) : Calls Try.prog 45 #[v, .func (.func 32) #[] #[.pointer (some ⟨g, 0, none⟩)]] w (Finds (l.any f) w) := by
  obtain ⟨p, cap, rfl⟩ := hA.1.form
  have HA := Lib.hid hA
  have HL := Lib.hid hA.2
  have HC := Lib.hid hF
  clear hA hF
  go_enter Try.func45, Try.ntmps45
  go_wp2
  go_loopw [8] (fun i wr => ∃ (k : Nat), k ≤ l.length ∧ i = .int .i64 k ∧ Hid (∀ j, j < k → f (l.getD j default) = false) ∧ Hid (Below w.heap.size w wr)) (fun i _ => l.length - (intOf i).toNat)
  case atStart => exact ⟨0, Nat.zero_le _, rfl, Lib.hid (fun j hj => by omega), Lib.hid (Below.refl _ _)⟩
  case round =>
    obtain ⟨k, hk, rfl, HN, HBel⟩ := hrel
    by_cases hkl : k < l.length
    · obtain ⟨p1, cap1, b, o, hv, hp, hb, h4⟩ := one_at (HA.out.later HBel.out).1 hkl
      simp only [Value.slice.injEq] at hv
      obtain ⟨rfl, _, rfl⟩ := hv
      have hidx := idx_t p b o l.length cap k hp hkl
      obtain ⟨y, hy⟩ : ∃ y : ByteArray, (⟨(l.getD k default).toArray⟩ : ByteArray) = y := ⟨_, rfl⟩
      rw [hy] at h4
      have HY : Hid (l.getD k default = y.data.toList) := Lib.hid (by rw [← hy])
      have hl := HL.out
      clear hy hp hb
      have HCy := Lib.hid (HC.out y wr HBel.out)
      have HLen : Hid (k < l.length) := Lib.hid hkl
      cases hr : f y.data.toList
      · have HR := Lib.hid hr
        rw [hr] at HCy
        clear hr
        go_wp2_with fail
        refine HCy.out.mono ?_
        rintro e w1 ⟨rfl, b1⟩
        have HB1 := Lib.hid (then_ HBel.out b1)
        clear b1
        go_wp2_with fail
        go_roundw
        case rel => exact ⟨k + 1, by omega, by go_num, Lib.hid (fun j hj => by
          by_cases e : j = k
          · rw [e, HY.out]; exact HR.out
          · exact HN.out j (by omega)), HB1⟩
        case measure => simp [intOf]; omega
      · have HR := Lib.hid hr
        rw [hr] at HCy
        clear hr
        go_wp2_with fail
        refine HCy.out.mono ?_
        rintro e w1 ⟨rfl, b1⟩
        have HB1 := Lib.hid (then_ HBel.out b1)
        clear b1
        go_wp2_with fail
        go_ret
        exact ⟨k, rfl, by rw [any_at HLen.out (by rw [HY.out]; exact HR.out)]; simp, HB1.out⟩
    · have hke : k = l.length := by omega
      subst hke
      go_wp2_with fail
      go_ret
      exact ⟨-1, rfl, by rw [any_none HN.out]; rfl, HBel.out⟩
set_option maxHeartbeats 4000000 in
set_option maxRecDepth 100000 in
theorem cf_no (v : Value) (l : List (List UInt8)) (f : List UInt8 → Bool) (g : Nat) (w : World) (hA : Ts w v l) (hF : ∀ (x : ByteArray) (W : World), Below w.heap.size w W → Calls Try.prog 32 #[.string x, .pointer (some ⟨g, 0, none⟩)] W (Gives (.bool (f x.data.toList)) W)) : Calls Try.prog 30 #[v, .func (.func 32) #[] #[.pointer (some ⟨g, 0, none⟩)]] w (Gives (.bool (l.any f)) w) := by
  have HC := Lib.hid (ix_no v l f g w hA hF)
  obtain ⟨p, cap, rfl⟩ := hA.1.form
  clear hA hF
  generalize l.any f = r at HC ⊢
  go_enter Try.func30, Try.ntmps30
  go_wp2_with fail
  refine HC.out.mono ?_
  rintro e w1 ⟨i, rfl, hi, b1⟩
  have HI := Lib.hid hi
  have HB1 := Lib.hid b1
  clear hi b1
  go_wp2_with fail
  go_ret
  exact ⟨ret_bool HI.out, HB1.out⟩
set_option maxHeartbeats 4000000 in
set_option maxRecDepth 100000 in
theorem ix_ea (v : Value) (l : List (List UInt8)) (f : List UInt8 → Bool) (g1 g2 g3 : Nat) (w : World) (hA : Ts w v l) (hF : ∀ (x : ByteArray) (W : World), Below w.heap.size w W → Calls Try.prog 33 #[.string x, .pointer (some ⟨g1, 0, none⟩), .pointer (some ⟨g2, 0, none⟩), .pointer (some ⟨g3, 0, none⟩)] W (Gives (.bool (f x.data.toList)) W)) : Calls Try.prog 45 #[v, .func (.func 33) #[] #[.pointer (some ⟨g1, 0, none⟩), .pointer (some ⟨g2, 0, none⟩), .pointer (some ⟨g3, 0, none⟩)]] w (Finds (l.any f) w) := by
  obtain ⟨p, cap, rfl⟩ := hA.1.form
  have HA := Lib.hid hA
  have HL := Lib.hid hA.2
  have HC := Lib.hid hF
  clear hA hF
  go_enter Try.func45, Try.ntmps45
  go_wp2
  go_loopw [8] (fun i wr => ∃ (k : Nat), k ≤ l.length ∧ i = .int .i64 k ∧ Hid (∀ j, j < k → f (l.getD j default) = false) ∧ Hid (Below w.heap.size w wr)) (fun i _ => l.length - (intOf i).toNat)
  case atStart => exact ⟨0, Nat.zero_le _, rfl, Lib.hid (fun j hj => by omega), Lib.hid (Below.refl _ _)⟩
  case round =>
    obtain ⟨k, hk, rfl, HN, HBel⟩ := hrel
    by_cases hkl : k < l.length
    · obtain ⟨p1, cap1, b, o, hv, hp, hb, h4⟩ := one_at (HA.out.later HBel.out).1 hkl
      simp only [Value.slice.injEq] at hv
      obtain ⟨rfl, _, rfl⟩ := hv
      have hidx := idx_t p b o l.length cap k hp hkl
      obtain ⟨y, hy⟩ : ∃ y : ByteArray, (⟨(l.getD k default).toArray⟩ : ByteArray) = y := ⟨_, rfl⟩
      rw [hy] at h4
      have HY : Hid (l.getD k default = y.data.toList) := Lib.hid (by rw [← hy])
      have hl := HL.out
      clear hy hp hb
      have HCy := Lib.hid (HC.out y wr HBel.out)
      have HLen : Hid (k < l.length) := Lib.hid hkl
      cases hr : f y.data.toList
      · have HR := Lib.hid hr
        rw [hr] at HCy
        clear hr
        go_wp2_with fail
        refine HCy.out.mono ?_
        rintro e w1 ⟨rfl, b1⟩
        have HB1 := Lib.hid (then_ HBel.out b1)
        clear b1
        go_wp2_with fail
        go_roundw
        case rel => exact ⟨k + 1, by omega, by go_num, Lib.hid (fun j hj => by
          by_cases e : j = k
          · rw [e, HY.out]; exact HR.out
          · exact HN.out j (by omega)), HB1⟩
        case measure => simp [intOf]; omega
      · have HR := Lib.hid hr
        rw [hr] at HCy
        clear hr
        go_wp2_with fail
        refine HCy.out.mono ?_
        rintro e w1 ⟨rfl, b1⟩
        have HB1 := Lib.hid (then_ HBel.out b1)
        clear b1
        go_wp2_with fail
        go_ret
        exact ⟨k, rfl, by rw [any_at HLen.out (by rw [HY.out]; exact HR.out)]; simp, HB1.out⟩
    · have hke : k = l.length := by omega
      subst hke
      go_wp2_with fail
      go_ret
      exact ⟨-1, rfl, by rw [any_none HN.out]; rfl, HBel.out⟩
set_option maxHeartbeats 4000000 in
set_option maxRecDepth 100000 in
theorem cf_ea (v : Value) (l : List (List UInt8)) (f : List UInt8 → Bool) (g1 g2 g3 : Nat) (w : World) (hA : Ts w v l) (hF : ∀ (x : ByteArray) (W : World), Below w.heap.size w W → Calls Try.prog 33 #[.string x, .pointer (some ⟨g1, 0, none⟩), .pointer (some ⟨g2, 0, none⟩), .pointer (some ⟨g3, 0, none⟩)] W (Gives (.bool (f x.data.toList)) W)) : Calls Try.prog 30 #[v, .func (.func 33) #[] #[.pointer (some ⟨g1, 0, none⟩), .pointer (some ⟨g2, 0, none⟩), .pointer (some ⟨g3, 0, none⟩)]] w (Gives (.bool (l.any f)) w) := by
  have HC := Lib.hid (ix_ea v l f g1 g2 g3 w hA hF)
  obtain ⟨p, cap, rfl⟩ := hA.1.form
  clear hA hF
  generalize l.any f = r at HC ⊢
  go_enter Try.func30, Try.ntmps30
  go_wp2_with fail
  refine HC.out.mono ?_
  rintro e w1 ⟨i, rfl, hi, b1⟩
  have HI := Lib.hid hi
  have HB1 := Lib.hid b1
  clear hi b1
  go_wp2_with fail
  go_ret
  exact ⟨ret_bool HI.out, HB1.out⟩
end Go.Proofs.Ytggcboejdihdiaa.Gm
