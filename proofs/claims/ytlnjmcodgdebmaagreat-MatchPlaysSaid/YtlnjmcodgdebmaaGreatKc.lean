/- Plain facts on the order of values: turned round it is the other one; it is one behind two. -/
import Derived.Test.YtlnjmcodgdebmaaGreatA
import Derived.Lib.Small
import Derived.Lib.Bytealg
import Derived.Laws.IdiomStrings
import Derived.Test.YtlnjmcodgdebmaaGreatKa
/- The contracts of the document's own answers: which values may be; their order. -/
/- Plain facts on the order of texts, byte by byte: two ways to say it; it is one. -/
set_option linter.unusedSimpArgs false
set_option linter.unusedVariables false
namespace Go.Proofs.YtlnjmcodgdebmaaGreat
open Go.RowKit

/-! ### The order of texts: two ways to say it -/
theorem same_of {a b : UInt8} (h : ¬ a < b) (h2 : ¬ b < a) : a = b := by
  have h3 : ¬ a.toNat < b.toNat := fun e => h (UInt8.lt_iff_toNat_lt.2 e)
  have h4 : ¬ b.toNat < a.toNat := fun e => h2 (UInt8.lt_iff_toNat_lt.2 e)
  exact UInt8.toNat_inj.1 (by omega)
theorem less_iff : ∀ (x y : List UInt8), Op.bytesLess x y = (Lib.compareBytes x y == -1)
  | [], [] => rfl
  | [], _ :: _ => rfl
  | _ :: _, [] => rfl
  | a :: x, b :: y => by
    simp only [Op.bytesLess, Lib.compareBytes]
    rw [less_iff x y]
    by_cases h : a < b
    · simp [h]
    · by_cases h2 : b < a
      · have : ¬ a = b := fun e => h (e ▸ (e ▸ h2 : a < a))
        simp [h, h2, this]
      · have : a = b := same_of h h2
        subst this
        simp [h]
theorem compareBytes_neg : ∀ (x y : List UInt8), Lib.compareBytes y x = - Lib.compareBytes x y
  | [], [] => rfl
  | [], _ :: _ => rfl
  | _ :: _, [] => rfl
  | a :: x, b :: y => by
    simp only [Lib.compareBytes]
    by_cases h : a < b
    · have h2 : ¬ b < a := by have := UInt8.lt_iff_toNat_lt.1 h; intro h2; have := UInt8.lt_iff_toNat_lt.1 h2; omega
      simp [h, h2]
    · by_cases h2 : b < a
      · simp [h, h2]
      · simp [h, h2, compareBytes_neg x y]
theorem compareBytes_three : ∀ (x y : List UInt8), Lib.compareBytes x y = -1 ∨ (Lib.compareBytes x y = 0 ∧ x = y) ∨ Lib.compareBytes x y = 1
  | [], [] => .inr (.inl ⟨rfl, rfl⟩)
  | [], _ :: _ => .inl rfl
  | _ :: _, [] => .inr (.inr rfl)
  | a :: x, b :: y => by
    simp only [Lib.compareBytes]
    by_cases h : a < b
    · simp [h]
    · by_cases h2 : b < a
      · simp [h, h2]
      · have e : a = b := same_of h h2
        subst e
        simp only [h, if_false, List.cons.injEq, true_and]
        exact compareBytes_three x y
theorem compareBytes_self (x : List UInt8) : Lib.compareBytes x x = 0 := by
  have := compareBytes_neg x x
  omega

theorem bytes_lt3 : ∀ (x y z : List UInt8), Lib.compareBytes x y = -1 → Lib.compareBytes y z = -1 → Lib.compareBytes x z = -1
  | x, [], z, h, h2 => by cases x <;> simp [Lib.compareBytes] at h
  | x, b :: y, [], h, h2 => by simp [Lib.compareBytes] at h2
  | [], b :: y, c :: z, h, h2 => rfl
  | a :: x, b :: y, c :: z, h, h2 => by
    simp only [Lib.compareBytes, UInt8.lt_iff_toNat_lt] at h h2 ⊢
    by_cases h3 : a.toNat < b.toNat
    · by_cases h4 : b.toNat < c.toNat
      · rw [if_pos (by omega)]
      · rw [if_neg h4] at h2
        by_cases h5 : c.toNat < b.toNat
        · rw [if_pos h5] at h2; omega
        · rw [if_pos (by omega)]
    · rw [if_neg h3] at h
      by_cases h4 : b.toNat < a.toNat
      · rw [if_pos h4] at h; omega
      · rw [if_neg h4] at h
        by_cases h5 : b.toNat < c.toNat
        · rw [if_pos (by omega)]
        · rw [if_neg h5] at h2
          by_cases h6 : c.toNat < b.toNat
          · rw [if_pos h6] at h2; omega
          · rw [if_neg h6] at h2
            rw [if_neg (by omega), if_neg (by omega)]
            exact bytes_lt3 x y z h h2
end Go.Proofs.YtlnjmcodgdebmaaGreat
/- Small facts on bytes and on which values may be. -/
set_option linter.unusedSimpArgs false
set_option linter.unusedVariables false
namespace Go.Proofs.YtlnjmcodgdebmaaGreat
open Go.RowKit

theorem toList_data (s : ByteArray) : s.toList = s.data.toList := ByteArray.toList_eq s
theorem bytes_eq {a b : ByteArray} (h : a.data.toList = b.data.toList) : a = b := by
  obtain ⟨⟨l⟩⟩ := a; obtain ⟨⟨m⟩⟩ := b
  simp only at h
  subst h; rfl
theorem mayB_1 (n : Int) (s : ByteArray) (b : Bool) : mayB 1 n s b = (s.toList.isEmpty && !b) := by simp [mayB]
theorem mayB_2 (n : Int) (s : ByteArray) (b : Bool) : mayB 2 n s b = (decide (s.size ≤ 32) && (n == 0 && !b)) := by simp [mayB]
theorem mayB_3 (n : Int) (s : ByteArray) (b : Bool) : mayB 3 n s b = (n == 0 && s.toList.isEmpty) := by simp [mayB]
end Go.Proofs.YtlnjmcodgdebmaaGreat
set_option linter.unusedSimpArgs false
set_option linter.unusedVariables false
namespace Go.Proofs.YtlnjmcodgdebmaaGreat
open Go.RowKit

set_option maxHeartbeats 1000000 in
set_option maxRecDepth 20000 in
theorem refmay_1 (n : Int) (s : ByteArray) (b : Bool) (w : World) : Calls Tryz.prog 104 #[val 1 n s b] w (Gives (.bool (mayB 1 n s b)) w) := by
  rw [mayB_1]
  cases he : s.toList.isEmpty <;> cases b
  all_goals
    go_enter Tryz.func104, Tryz.ntmps104
    go_wp2
    go_ret
    exact ⟨rfl, (Below.refl _ _).alloc (Nat.le_refl _) _⟩
set_option maxHeartbeats 1000000 in
set_option maxRecDepth 20000 in
theorem refmay_2 (n : Int) (s : ByteArray) (b : Bool) (w : World) : Calls Tryz.prog 104 #[val 2 n s b] w (Gives (.bool (mayB 2 n s b)) w) := by
  rw [mayB_2]
  by_cases h : s.size ≤ 32
  · rw [decide_eq_true h]
    have hd : decide ((s.size : Int) ≤ 32) = true := by simp; omega
    cases hn : (n == 0) <;> cases b
    all_goals
      go_enter Tryz.func104, Tryz.ntmps104
      go_wp2
      go_ret
      exact ⟨rfl, (Below.refl _ _).alloc (Nat.le_refl _) _⟩
  · rw [decide_eq_false h]
    have hd : decide ((s.size : Int) ≤ 32) = false := by simp; omega
    cases hn : (n == 0) <;> cases b
    all_goals
      go_enter Tryz.func104, Tryz.ntmps104
      go_wp2
      go_ret
      exact ⟨rfl, (Below.refl _ _).alloc (Nat.le_refl _) _⟩
set_option maxHeartbeats 1000000 in
set_option maxRecDepth 20000 in
theorem refmay_3 (n : Int) (s : ByteArray) (b : Bool) (w : World) : Calls Tryz.prog 104 #[val 3 n s b] w (Gives (.bool (mayB 3 n s b)) w) := by
  rw [mayB_3]
  cases he : s.toList.isEmpty <;> cases hn : (n == 0)
  all_goals
    go_enter Tryz.func104, Tryz.ntmps104
    go_wp2
    go_ret
    exact ⟨rfl, (Below.refl _ _).alloc (Nat.le_refl _) _⟩
set_option maxHeartbeats 1000000 in
set_option maxRecDepth 20000 in
theorem refmay_none (k n : Int) (s : ByteArray) (b : Bool) (w : World) (h1 : (k == 1) = false) (h2 : (k == 2) = false) (h3 : (k == 3) = false) : Calls Tryz.prog 104 #[val k n s b] w (Gives (.bool false) w) := by
  go_enter Tryz.func104, Tryz.ntmps104
  go_wp2
  go_ret
  exact ⟨rfl, (Below.refl _ _).alloc (Nat.le_refl _) _⟩
theorem refmay_any (k n : Int) (s : ByteArray) (b : Bool) (w : World) : Calls Tryz.prog 104 #[val k n s b] w (Gives (.bool (mayB k n s b)) w) := by
  by_cases h1 : k = 1
  · subst h1; exact refmay_1 n s b w
  by_cases h2 : k = 2
  · subst h2; exact refmay_2 n s b w
  by_cases h3 : k = 3
  · subst h3; exact refmay_3 n s b w
  · have := refmay_none k n s b w (by simpa using h1) (by simpa using h2) (by simpa using h3)
    rwa [show mayB k n s b = false by simp [mayB, h1, h2, h3]]
set_option maxHeartbeats 1000000 in
set_option maxRecDepth 20000 in
theorem refcmp_apart (k n : Int) (s : ByteArray) (b : Bool) (k' n' : Int) (s' : ByteArray) (b' : Bool) (w : World) (h : (k == k') = false) : Calls Tryz.prog 65 #[val k n s b, val k' n' s' b'] w (Gives (.int .i64 (cmpI k k')) w) := by
  by_cases hl : k < k'
  · rw [show cmpI k k' = -1 by simp [cmpI, hl]]
    go_enter Tryz.func65, Tryz.ntmps65
    go_wp2
    go_ret
    exact ⟨rfl, ((Below.refl _ _).alloc (Nat.le_refl _) _).alloc (by simp) _⟩
  · have hg : k' < k := by have : ¬ k = k' := by simpa using h
                           omega
    rw [show cmpI k k' = 1 by simp [cmpI, hl, hg]]
    clear hg
    go_enter Tryz.func65, Tryz.ntmps65
    go_wp2
    go_ret
    exact ⟨rfl, ((Below.refl _ _).alloc (Nat.le_refl _) _).alloc (by simp) _⟩
set_option maxHeartbeats 1000000 in
set_option maxRecDepth 20000 in
theorem refcmp_int (n : Int) (s : ByteArray) (b : Bool) (n' : Int) (s' : ByteArray) (b' : Bool) (w : World) : Calls Tryz.prog 65 #[val 1 n s b, val 1 n' s' b'] w (Gives (.int .i64 (cmpI n n')) w) := by
  rcases Int.lt_trichotomy n n' with h | h | h
  · rw [show cmpI n n' = -1 by simp [cmpI, h]]
    go_enter Tryz.func65, Tryz.ntmps65
    go_wp2
    go_ret
    exact ⟨rfl, ((Below.refl _ _).alloc (Nat.le_refl _) _).alloc (by simp) _⟩
  · subst h
    rw [show cmpI n n = 0 by simp [cmpI]]
    go_enter Tryz.func65, Tryz.ntmps65
    go_wp2
    go_ret
    exact ⟨rfl, ((Below.refl _ _).alloc (Nat.le_refl _) _).alloc (by simp) _⟩
  · rw [show cmpI n n' = 1 by simp [cmpI, h]; omega]
    go_enter Tryz.func65, Tryz.ntmps65
    go_wp2
    go_ret
    exact ⟨rfl, ((Below.refl _ _).alloc (Nat.le_refl _) _).alloc (by simp) _⟩
set_option maxHeartbeats 1000000 in
set_option maxRecDepth 20000 in
theorem refcmp_str (n : Int) (s : ByteArray) (b : Bool) (n' : Int) (s' : ByteArray) (b' : Bool) (w : World) : Calls Tryz.prog 65 #[val 2 n s b, val 2 n' s' b'] w (Gives (.int .i64 (Lib.compareBytes s.data.toList s'.data.toList)) w) := by
  have hl : Op.bytesLess s.toList s'.toList = (Lib.compareBytes s.data.toList s'.data.toList == -1) := by rw [less_iff, toList_data, toList_data]
  have he : (s.toList == s'.toList) = (Lib.compareBytes s.data.toList s'.data.toList == 0) := by
    rw [toList_data, toList_data]
    rcases compareBytes_three s.data.toList s'.data.toList with h | ⟨h, h'⟩ | h
    · rw [h]; simp only [beq_eq_false_iff_ne, ne_eq, show ((-1 : Int) == 0) = false from rfl]
      intro e; rw [e, compareBytes_self] at h; omega
    · rw [h, h']; simp
    · rw [h]; simp only [beq_eq_false_iff_ne, ne_eq, show ((1 : Int) == 0) = false from rfl]
      intro e; rw [e, compareBytes_self] at h; omega
  rcases compareBytes_three s.data.toList s'.data.toList with h | ⟨h, _⟩ | h
  all_goals
    rw [h] at hl he ⊢
    replace hl := hl.trans (by rfl : _ = (_ : Bool))
    simp only [show ((-1 : Int) == -1) = true from rfl, show ((0 : Int) == -1) = false from rfl, show ((1 : Int) == -1) = false from rfl, show ((-1 : Int) == 0) = false from rfl, show ((0 : Int) == 0) = true from rfl, show ((1 : Int) == 0) = false from rfl] at hl he
    clear h
    go_enter Tryz.func65, Tryz.ntmps65
    go_wp2
    go_ret
    exact ⟨rfl, ((Below.refl _ _).alloc (Nat.le_refl _) _).alloc (by simp) _⟩
set_option maxHeartbeats 1000000 in
set_option maxRecDepth 20000 in
theorem refcmp_bool (n : Int) (s : ByteArray) (b : Bool) (n' : Int) (s' : ByteArray) (b' : Bool) (w : World) : Calls Tryz.prog 65 #[val 3 n s b, val 3 n' s' b'] w (Gives (.int .i64 (cmpB b b')) w) := by
  cases b <;> cases b'
  all_goals
    go_enter Tryz.func65, Tryz.ntmps65
    go_wp2
    go_ret
    exact ⟨rfl, ((Below.refl _ _).alloc (Nat.le_refl _) _).alloc (by simp) _⟩
set_option maxHeartbeats 1000000 in
set_option maxRecDepth 20000 in
theorem refcmp_other (k n : Int) (s : ByteArray) (b : Bool) (n' : Int) (s' : ByteArray) (b' : Bool) (w : World) (h1 : (k == 1) = false) (h2 : (k == 2) = false) (h3 : (k == 3) = false) : Calls Tryz.prog 65 #[val k n s b, val k n' s' b'] w (Gives (.int .i64 0) w) := by
  go_enter Tryz.func65, Tryz.ntmps65
  go_wp2
  go_ret
  exact ⟨rfl, ((Below.refl _ _).alloc (Nat.le_refl _) _).alloc (by simp) _⟩

theorem refcmp_any (k n : Int) (s : ByteArray) (b : Bool) (k' n' : Int) (s' : ByteArray) (b' : Bool) (w : World) : Calls Tryz.prog 65 #[val k n s b, val k' n' s' b'] w (Gives (.int .i64 (cmpV k n s b k' n' s' b')) w) := by
  by_cases hk : k = k'
  · subst hk
    by_cases h1 : k = 1
    · subst h1; simpa [cmpV] using refcmp_int n s b n' s' b' w
    by_cases h2 : k = 2
    · subst h2; simpa [cmpV] using refcmp_str n s b n' s' b' w
    by_cases h3 : k = 3
    · subst h3; simpa [cmpV] using refcmp_bool n s b n' s' b' w
    · simpa [cmpV, h1, h2, h3] using refcmp_other k n s b n' s' b' w (by simpa using h1) (by simpa using h2) (by simpa using h3)
  · simpa [cmpV, hk] using refcmp_apart k n s b k' n' s' b' w (by simpa using hk)
end Go.Proofs.YtlnjmcodgdebmaaGreat
set_option linter.unusedSimpArgs false
set_option linter.unusedVariables false
namespace Go.Proofs.YtlnjmcodgdebmaaGreat
open Go


/-- A comparison of three answers: turned round it is the other one; it is one behind two. -/
def Fine {α : Type} (f : α → α → Int) : Prop :=
  (∀ x y, f x y = -1 ∨ (f x y = 0 ∧ x = y) ∨ f x y = 1) ∧ (∀ x y, f y x = - f x y) ∧ ∀ x y z, f x y = -1 → f y z = -1 → f x z = -1
theorem Fine.self {α : Type} {f : α → α → Int} (h : Fine f) (x : α) : f x x = 0 := by have := h.2.1 x x; omega
theorem fine_int : Fine cmpI := by
  refine ⟨fun x y => ?_, fun x y => ?_, fun x y z h1 h2 => ?_⟩
  · unfold cmpI
    by_cases h : x < y
    · simp [h]
    · by_cases h2 : y < x
      · simp [h, h2]
      · simp [h, h2]; omega
  · unfold cmpI
    by_cases h : x < y
    · have : ¬ y < x := by omega
      simp [h, this]
    · by_cases h2 : y < x <;> simp [h, h2]
  · unfold cmpI at *
    by_cases h : x < y
    · by_cases h' : y < z
      · rw [if_pos (by omega)]
      · rw [if_neg h'] at h2; split at h2 <;> omega
    · rw [if_neg h] at h1; split at h1 <;> omega
theorem fine_bool : Fine cmpB := by
  refine ⟨fun x y => ?_, fun x y => ?_, fun x y z => ?_⟩
  · cases x <;> cases y <;> simp [cmpB]
  · cases x <;> cases y <;> simp [cmpB]
  · cases x <;> cases y <;> cases z <;> simp [cmpB]
theorem fine_bytes : Fine Lib.compareBytes := ⟨compareBytes_three, compareBytes_neg, bytes_lt3⟩

/-- A value's parts. -/
abbrev Parts := Int × Int × ByteArray × Bool
def cmpP (a b : Parts) : Int := cmpV a.1 a.2.1 a.2.2.1 a.2.2.2 b.1 b.2.1 b.2.2.1 b.2.2.2

theorem cmpV_three (a b : Parts) : cmpP a b = -1 ∨ cmpP a b = 0 ∨ cmpP a b = 1 := by
  unfold cmpP cmpV
  split
  · split
    · rcases fine_int.1 a.2.1 b.2.1 with h | ⟨h, _⟩ | h <;> simp [h]
    · split
      · rcases fine_bytes.1 a.2.2.1.data.toList b.2.2.1.data.toList with h | ⟨h, _⟩ | h <;> simp [h]
      · split
        · rcases fine_bool.1 a.2.2.2 b.2.2.2 with h | ⟨h, _⟩ | h <;> simp [h]
        · simp
  · rcases fine_int.1 a.1 b.1 with h | ⟨h, _⟩ | h <;> simp [h]
theorem cmpV_neg (a b : Parts) : cmpP b a = - cmpP a b := by
  unfold cmpP cmpV
  by_cases hk : a.1 = b.1
  · rw [if_pos hk, if_pos hk.symm, ← hk]
    split
    · exact fine_int.2.1 _ _
    · split
      · exact fine_bytes.2.1 _ _
      · split
        · exact fine_bool.2.1 _ _
        · rfl
  · rw [if_neg hk, if_neg (Ne.symm hk)]; exact fine_int.2.1 _ _
theorem cmpV_self (a : Parts) : cmpP a a = 0 := by have := cmpV_neg a a; omega

theorem trans_of {α : Type} {f : α → α → Int} (h : Fine f) (x y z : α) (h1 : f x y ≤ 0) (h2 : f y z ≤ 0) : f x z = min (f x y) (f y z) := by
  rcases h.1 x y with e1 | ⟨e1, rfl⟩ | e1
  · rcases h.1 y z with e2 | ⟨e2, rfl⟩ | e2
    · rw [h.2.2 x y z e1 e2, e1, e2]; rfl
    · rw [e1, e2]; rfl
    · omega
  · rw [e1]; omega
  · omega
theorem cmpP_apart (a b : Parts) (h : ¬ a.1 = b.1) : cmpP a b = cmpI a.1 b.1 := by unfold cmpP cmpV; rw [if_neg h]
theorem cmpI_below {x y : Int} (h : ¬ x = y) (h2 : cmpI x y ≤ 0) : cmpI x y = -1 := by
  rcases fine_int.1 x y with e | ⟨_, e⟩ | e
  · exact e
  · exact absurd e h
  · omega
theorem cmpV_trans (a b c : Parts) (h1 : cmpP a b ≤ 0) (h2 : cmpP b c ≤ 0) : cmpP a c = min (cmpP a b) (cmpP b c) := by
  have t1 := cmpV_three a b
  have t2 := cmpV_three b c
  by_cases hk : a.1 = b.1
  · by_cases hk2 : b.1 = c.1
    · clear t1 t2
      unfold cmpP cmpV at *
      rw [if_pos hk] at h1 ⊢
      rw [if_pos hk2] at h2 ⊢
      rw [if_pos (hk.trans hk2)]
      rw [hk] at h1 ⊢
      split
      · rename_i h; rw [if_pos h] at h1 h2; exact trans_of fine_int _ _ _ h1 h2
      · rename_i h; rw [if_neg h] at h1 h2
        split
        · rename_i h'; rw [if_pos h'] at h1 h2; exact trans_of fine_bytes _ _ _ h1 h2
        · rename_i h'; rw [if_neg h'] at h1 h2
          split
          · rename_i h''; rw [if_pos h''] at h1 h2; exact trans_of fine_bool _ _ _ h1 h2
          · rfl
    · have hk3 : ¬ a.1 = c.1 := by rw [hk]; exact hk2
      rw [cmpP_apart b c hk2] at h2 t2 ⊢
      have e2 := cmpI_below hk2 h2
      rw [cmpP_apart a c hk3, hk, e2]
      omega
  · rw [cmpP_apart a b hk] at h1 t1 ⊢
    have e1 := cmpI_below hk h1
    by_cases hk2 : b.1 = c.1
    · have hk3 : ¬ a.1 = c.1 := by rw [← hk2]; exact hk
      rw [cmpP_apart a c hk3, ← hk2, e1]
      omega
    · rw [cmpP_apart b c hk2] at h2 t2 ⊢
      have e2 := cmpI_below hk2 h2
      have e3 := fine_int.2.2 _ _ _ e1 e2
      have hk3 : ¬ a.1 = c.1 := fun e => by rw [e, fine_int.self] at e3; omega
      rw [cmpP_apart a c hk3, e1, e2, e3]; rfl

theorem isEmpty_eq {t : ByteArray} (h : t.toList.isEmpty = true) : t = ⟨#[]⟩ := by
  have h1 : t.toList = [] := by simpa [List.isEmpty_iff] using h
  rw [toList_data] at h1
  obtain ⟨⟨l⟩⟩ := t
  simp only at h1
  subst h1; rfl
theorem may_kind {k n : Int} {t : ByteArray} {b : Bool} (h : mayB k n t b = true) : (k = 1 ∧ t = ⟨#[]⟩ ∧ b = false ∧ True) ∨ (k = 2 ∧ n = 0 ∧ b = false ∧ True ∧ t.size ≤ 32) ∨ (k = 3 ∧ n = 0 ∧ t = ⟨#[]⟩ ∧ True) := by
  by_cases h1 : k = 1
  · subst h1
    simp only [mayB, if_true, Bool.and_eq_true, Bool.not_eq_true'] at h
    exact .inl ⟨rfl, isEmpty_eq h.1, h.2, trivial⟩
  by_cases h2 : k = 2
  · subst h2
    simp [mayB] at h
    exact .inr (.inl ⟨rfl, h.2.1, h.2.2, trivial, h.1⟩)
  by_cases h3 : k = 3
  · subst h3
    have h' : n = 0 ∧ t.toList.isEmpty = true := by simpa [mayB] using h
    exact .inr (.inr ⟨rfl, h'.1, isEmpty_eq h'.2, trivial⟩)
  · simp [mayB, h1, h2, h3] at h
/-- Two values that may be are the same just if the comparison tells 0. -/
theorem cmpV_zero (a b : Parts) (ha : mayB a.1 a.2.1 a.2.2.1 a.2.2.2 = true) (hb : mayB b.1 b.2.1 b.2.2.1 b.2.2.2 = true) :
    (cmpP a b == 0) = eqlVal a.1 a.2.1 a.2.2.1 a.2.2.2 b.1 b.2.1 b.2.2.1 b.2.2.2 := by
  obtain ⟨k, n, s, x⟩ := a
  obtain ⟨k', n', s', x'⟩ := b
  simp only at ha hb
  by_cases hk : k = k'
  · subst hk
    unfold cmpP cmpV eqlVal
    simp only [if_true, beq_self_eq_true, Bool.true_and]
    rcases may_kind ha with ⟨rfl, rfl, rfl, _⟩ | ⟨rfl, rfl, rfl, _, _⟩ | ⟨rfl, rfl, rfl, _⟩
    · rcases may_kind hb with ⟨_, rfl, rfl, _⟩ | ⟨h, _⟩ | ⟨h, _⟩
      · simp only [if_true, beq_self_eq_true, Bool.and_true]
        rcases fine_int.1 n n' with e | ⟨e, e'⟩ | e
        · have : ¬ n = n' := fun h => by rw [h, fine_int.self] at e; omega
          rw [e, beq_eq_false_iff_ne.2 this]; rfl
        · rw [e, e']; simp
        · have : ¬ n = n' := fun h => by rw [h, fine_int.self] at e; omega
          rw [e, beq_eq_false_iff_ne.2 this]; rfl
      · omega
      · omega
    · rcases may_kind hb with ⟨h, _⟩ | ⟨_, rfl, rfl, _, _⟩ | ⟨h, _⟩
      · omega
      · simp only [beq_self_eq_true, Bool.and_true, Bool.true_and, show ((2 : Int) = 1) = False by simp, if_false, if_true, toList_data]
        rcases compareBytes_three s.data.toList s'.data.toList with e | ⟨e, e'⟩ | e
        · have : ¬ s.data.toList = s'.data.toList := fun h => by rw [h, compareBytes_self] at e; omega
          rw [e, beq_eq_false_iff_ne.2 this]; rfl
        · rw [e, e']; simp
        · have : ¬ s.data.toList = s'.data.toList := fun h => by rw [h, compareBytes_self] at e; omega
          rw [e, beq_eq_false_iff_ne.2 this]; rfl
      · omega
    · rcases may_kind hb with ⟨h, _⟩ | ⟨h, _⟩ | ⟨_, rfl, rfl, _⟩
      · omega
      · omega
      · cases x <;> cases x' <;> simp [cmpB]
  · have : (cmpP (k, n, s, x) (k', n', s', x') == 0) = false := by
      rw [cmpP_apart _ _ hk, beq_eq_false_iff_ne]
      rcases fine_int.1 k k' with e | ⟨_, e⟩ | e
      · rw [e]; decide
      · exact absurd e hk
      · rw [e]; decide
    rw [this]
    unfold eqlVal
    rw [beq_eq_false_iff_ne.2 hk]; rfl
end Go.Proofs.YtlnjmcodgdebmaaGreat
