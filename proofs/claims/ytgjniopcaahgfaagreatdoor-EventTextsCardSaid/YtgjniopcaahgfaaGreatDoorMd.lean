/- '==' of two attributes; the contracts of Same, of package event and of the document. -/
import Derived.Test.YtgjniopcaahgfaaGreatDoorMc
set_option linter.unusedSimpArgs false
set_option linter.unusedVariables false
namespace Go.Proofs.YtgjniopcaahgfaaGreatDoor
open Go.RowKit
attribute [local go_sem ↓] Go.wp_at_zero Go.wp_at_succ

abbrev attr (a : Attr) : Value := .agg #[.string a.nm, .int .i64 a.k, .int .i64 a.n, .string a.s, .bool a.b]
def eqA (x y : Attr) : Bool := x.nm.toList == y.nm.toList && (x.k == y.k && (x.n == y.n && (x.s.toList == y.s.toList && x.b == y.b)))
theorem eqA_iff (x y : Attr) : eqA x y = true ↔ x = y := by
  obtain ⟨nm, k, n, s, b⟩ := x; obtain ⟨nm', k', n', s', b'⟩ := y
  simp only [eqA, toList_data, Bool.and_eq_true, beq_iff_eq, Attr.mk.injEq]
  constructor
  · rintro ⟨h1, h2, h3, h4, h5⟩; exact ⟨bytes_eq h1, h2, h3, bytes_eq h4, h5⟩
  · rintro ⟨rfl, rfl, rfl, rfl, rfl⟩; exact ⟨rfl, rfl, rfl, rfl, rfl⟩
theorem fieldsA : Tryz.prog.fieldsOf 43 = #[⟨"Name", 9, 0, false, "", "", 0⟩, ⟨"Value", 40, 1, false, "", "", 16⟩] := by kernel_rfl
set_option maxRecDepth 20000 in
theorem run_neq_attr (nm : ByteArray) (k n : Int) (s : ByteArray) (b : Bool) (nm' : ByteArray) (k' n' : Int) (s' : ByteArray) (b' : Bool) (w : World) :
    (binOp .neq 43 (.agg #[.string nm, .int .i64 k, .int .i64 n, .string s, .bool b]) (.agg #[.string nm', .int .i64 k', .int .i64 n', .string s', .bool b'])).run Tryz.prog w = .ok (.bool (!eqA ⟨nm, k, n, s, b⟩ ⟨nm', k', n', s', b'⟩)) w := by
  rw [run_neq_struct, run_equalIn_agg _ _ _ _ _ (by kernel_rfl) (by kernel_rfl), fieldsA]
  simp [go_sem, Op.eqFields, Tryz.underlying9]
  by_cases h0 : nm.toList = nm'.toList <;> by_cases h1 : k = k' <;> by_cases h2 : n = n' <;> by_cases h3 : s.toList = s'.toList <;> by_cases h4 : b = b' <;> simp [h0, h1, h2, h3, h4, eqA]
theorem run_guard_attr (nm : ByteArray) (k n : Int) (s : ByteArray) (b : Bool) (nm' : ByteArray) (k' n' : Int) (s' : ByteArray) (b' : Bool) (x y : Operand) (w : World) :
    (eqGuard .neq 43 x y (.agg #[.string nm, .int .i64 k, .int .i64 n, .string s, .bool b]) (.agg #[.string nm', .int .i64 k', .int .i64 n', .string s', .bool b'])).run Tryz.prog w = .ok () w := run_eqGuard_agg _ _ _ _ _ _ _ (by kernel_rfl)
attribute [local go_sem ↓] run_neq_attr run_guard_attr

/-- Whether two rows of attributes are one. -/
def eqL (l l' : List Attr) : Bool := decide (l.length = l'.length) && (List.range l.length).all fun i => eqA (l.getD i default) (l'.getD i default)
theorem eqL_iff (l l' : List Attr) : eqL l l' = true ↔ l = l' := by
  simp only [eqL, Bool.and_eq_true, decide_eq_true_eq, List.all_eq_true, List.mem_range, eqA_iff]
  constructor
  · rintro ⟨h1, h2⟩
    refine List.ext_getElem h1 fun i a b => ?_
    have := h2 i a
    simpa [List.getD_eq_getElem?_getD, List.getElem?_eq_getElem a, List.getElem?_eq_getElem b] using this
  · rintro rfl; exact ⟨rfl, fun _ _ => rfl⟩
theorem eqUp {l l' : List Attr} {k : Nat} : ((List.range (k + 1)).all fun i => eqA (l.getD i default) (l'.getD i default)) = (((List.range k).all fun i => eqA (l.getD i default) (l'.getD i default)) && eqA (l.getD k default) (l'.getD k default)) := by
  rw [List.range_succ, List.all_append]; simp
theorem eqL_false_at {l l' : List Attr} {k : Nat} (hk : k < l.length) (h : eqA (l.getD k default) (l'.getD k default) = false) : eqL l l' = false := by
  have : ((List.range l.length).all fun i => eqA (l.getD i default) (l'.getD i default)) = false := by
    rw [List.all_eq_false]; exact ⟨k, by simpa using hk, by show ¬ eqA (l.getD k default) (l'.getD k default) = true; rw [h]; decide⟩
  unfold eqL; rw [this, Bool.and_false]
def sameB (key : ByteArray) (l : List Attr) (key' : ByteArray) (l' : List Attr) : Bool := key.toList == key'.toList && eqL l l'
theorem sameB_iff (key : ByteArray) (l : List Attr) (key' : ByteArray) (l' : List Attr) : sameB key l key' l' = true ↔ key = key' ∧ l = l' := by
  simp only [sameB, Bool.and_eq_true, eqL_iff, toList_data, beq_iff_eq]
  exact ⟨fun ⟨a, b⟩ => ⟨bytes_eq a, b⟩, fun ⟨a, b⟩ => ⟨by rw [a], b⟩⟩

set_option maxHeartbeats 2000000 in
set_option maxRecDepth 20000 in
theorem equal_any (v v' : Value) (l l' : List Attr) (w : World) (hS : Sl w v l) (hS' : Sl w v' l') : Calls Tryz.prog 41 #[v, v'] w (Gives (.bool (eqL l l')) w) := by
  obtain ⟨p, cap, b, o, rfl, hp, hC, hbig⟩ := hS
  obtain ⟨p', cap', b', o', rfl, hp', hC', hbig'⟩ := hS'
  have HP := Lib.hid hp
  have HC := Lib.hid hC
  have HP' := Lib.hid hp'
  have HC' := Lib.hid hC'
  clear hp hC hp' hC'
  by_cases hlen : l.length = l'.length
  · have HLen := Lib.hid hlen
    have e1 : ((l.length : Int) != (l'.length : Int)) = false := by simp [hlen]
    clear hlen
    go_enter Tryz.func41, Tryz.ntmps41
    go_wp2
    go_loopw [13] (fun i wr => ∃ k n : Nat, k ≤ l.length ∧ i = .int .i64 k ∧ ((List.range k).all fun i => eqA (l.getD i default) (l'.getD i default)) = true ∧ wr = w.drewN n) (fun i _ => l.length - (intOf i).toNat)
    case atStart => exact ⟨0, 0, Nat.zero_le _, rfl, rfl, rfl⟩
    case round =>
      obtain ⟨k, n, hk, rfl, hall, rfl⟩ := hrel
      have HA := Lib.hid hall
      clear hall
      by_cases hkl : k < l.length
      · have hkl' : k < l'.length := by have := HLen.out; omega
        have hne : l ≠ [] := by rintro rfl; simp at hkl
        have hne' : l' ≠ [] := by rintro rfl; simp at hkl'
        obtain ⟨hq, _⟩ := HP.out hne
        obtain ⟨hq', _⟩ := HP'.out hne'
        have hidx := index_attr p b o l.length cap k hq hkl
        have hidx' := index_attr p' b' o' l'.length cap' k hq' hkl'
        clear hq hq' hne hne'
        obtain ⟨c0, c1, c2, c3, c4⟩ := five HC.out hkl
        obtain ⟨d0, d1, d2, d3, d4⟩ := five HC'.out hkl'
        have HT := Lib.hid (eqUp (l := l) (l' := l') (k := k))
        have HF := Lib.hid (fun h => eqL_false_at (l := l) (l' := l') hkl h)
        obtain ⟨x, hx⟩ : ∃ x, l.getD k default = x := ⟨_, rfl⟩
        obtain ⟨y, hy⟩ : ∃ y, l'.getD k default = y := ⟨_, rfl⟩
        rw [hx] at c0 c1 c2 c3 c4 HT HF
        rw [hy] at d0 d1 d2 d3 d4 HT HF
        clear hx hy hkl'
        cases hxy : eqA x y with
        | true =>
          have hxy' : eqA ⟨x.nm, x.k, x.n, x.s, x.b⟩ ⟨y.nm, y.k, y.n, y.s, y.b⟩ = true := hxy
          go_wp2_with fail
          go_quiet (fail)
          go_wp2
          go_roundw
          case rel => exact ⟨k + 1, n + nq, by omega, by simp, by rw [HT.out, HA.out, hxy]; rfl, rfl⟩
          case measure => simp [intOf]; omega
        | false =>
          have hxy' : eqA ⟨x.nm, x.k, x.n, x.s, x.b⟩ ⟨y.nm, y.k, y.n, y.s, y.b⟩ = false := hxy
          go_wp2_with fail
          go_quiet (fail)
          go_wp2
          go_ret
          exact ⟨ret_bool (HF.out hxy).symm, below_drewN (below_drewN (Below.refl _ _) _) _⟩
      · have hke : k = l.length := by omega
        subst hke
        have HM : Hid (eqL l l' = true) := Lib.hid (by simp only [eqL, HA.out, Bool.and_true, decide_eq_true_eq]; exact HLen.out)
        go_wp2
        go_ret
        exact ⟨ret_bool HM.out.symm, below_drewN (Below.refl _ _) _⟩
  · have HM : Hid (eqL l l' = false) := Lib.hid (by simp [eqL, hlen])
    have e1 : ((l.length : Int) != (l'.length : Int)) = true := by simp; omega
    clear hlen
    go_enter Tryz.func41, Tryz.ntmps41
    go_wp2
    go_ret
    exact ⟨ret_bool HM.out.symm, Below.refl _ _⟩

set_option maxHeartbeats 2000000 in
set_option maxRecDepth 20000 in
theorem esame_any (key key' : ByteArray) (v v' : Value) (l l' : List Attr) (w : World) (hS : Sl w v l) (hS' : Sl w v' l') : Calls Tryz.prog 22 #[.agg #[.string key, v], .agg #[.string key', v']] w (Gives (.bool (sameB key l key' l')) w) := by
  have B2 : Below w.heap.size w ((w.alloc (.cells #[.string key, v] 24)).alloc (.cells #[.string key', v'] 24)) := ((Below.refl _ w).alloc (Nat.le_refl _) _).alloc (by simp) _
  have hE := equal_any v v' l l' _ (hS.below B2) (hS'.below B2)
  have HE := Lib.hid hE
  have HB := Lib.hid B2
  clear hE B2
  cases hk : (key.toList == key'.toList) with
  | true =>
    have HM : Hid (sameB key l key' l' = eqL l l') := Lib.hid (by unfold sameB; rw [hk, Bool.true_and])
    obtain ⟨p, cap, b, o, rfl, hp, hC, hbig⟩ := hS
    obtain ⟨p', cap', b', o', rfl, hp', hC', hbig'⟩ := hS'
    clear hp hp' hC hC'
    go_enter Tryz.func22, Tryz.ntmps22
    go_wp2_with (go_at_call 41; refine (HE.out).mono ?_; rintro e w1 ⟨rfl, hb1⟩)
    go_ret
    exact ⟨ret_bool HM.out.symm, then_ HB.out hb1⟩
  | false =>
    have HM : Hid (sameB key l key' l' = false) := Lib.hid (by unfold sameB; rw [hk, Bool.false_and])
    obtain ⟨p, cap, b, o, rfl, hp, hC, hbig⟩ := hS
    obtain ⟨p', cap', b', o', rfl, hp', hC', hbig'⟩ := hS'
    clear hp hp' hC hC'
    go_enter Tryz.func22, Tryz.ntmps22
    go_wp2
    go_ret
    exact ⟨ret_bool HM.out.symm, HB.out⟩
end Go.Proofs.YtgjniopcaahgfaaGreatDoor
