/- The contracts of the document's Compare and Same of predicates. -/
import Derived.Test.YtmbfhmjcphoddaaGreatDoorA
import Derived.Lib.Small
import Derived.Lib.Bytealg
import Derived.Laws.IdiomStrings
import Derived.Test.YtmbfhmjcphoddaaGreatDoorGm
import Derived.Test.YtmbfhmjcphoddaaGreatDoorKb0
import Derived.Test.YtmbfhmjcphoddaaGreatDoorKr
import Derived.Test.YtmbfhmjcphoddaaGreatDoorVl
import Derived.Test.YtmbfhmjcphoddaaGreatDoorKw0
import Derived.Test.YtmbfhmjcphoddaaGreatDoorKp0
import Derived.Test.YtmbfhmjcphoddaaGreatDoorKL
/- Plain facts on the order of texts, byte by byte: two ways to say it; it is one. -/
set_option linter.unusedSimpArgs false
set_option linter.unusedVariables false
namespace Go.Proofs.YtmbfhmjcphoddaaGreatDoor
open Go.RowKit

/-! ### The order of texts: two ways to say it -/
theorem same_of {a b : UInt8} (h : ¬ a < b) (h2 : ¬ b < a) : a = b := by
  have h3 : ¬ a.toNat < b.toNat := fun e => h (UInt8.lt_iff_toNat_lt.2 e)
  have h4 : ¬ b.toNat < a.toNat := fun e => h2 (UInt8.lt_iff_toNat_lt.2 e)
  exact UInt8.toNat_inj.1 (by omega)
theorem less_iff : ∀ (x y : List UInt8), Op.bytesLess x y = (Lib.compareBytes x y == -1)
  | [], [] => rfl
  | [], _ :: _ => rfl
  | _ :: _, [] => rfl
  | a :: x, b :: y => by
    simp only [Op.bytesLess, Lib.compareBytes]
    rw [less_iff x y]
    by_cases h : a < b
    · simp [h]
    · by_cases h2 : b < a
      · have : ¬ a = b := fun e => h (e ▸ (e ▸ h2 : a < a))
        simp [h, h2, this]
      · have : a = b := same_of h h2
        subst this
        simp [h]
theorem compareBytes_neg : ∀ (x y : List UInt8), Lib.compareBytes y x = - Lib.compareBytes x y
  | [], [] => rfl
  | [], _ :: _ => rfl
  | _ :: _, [] => rfl
  | a :: x, b :: y => by
    simp only [Lib.compareBytes]
    by_cases h : a < b
    · have h2 : ¬ b < a := by have := UInt8.lt_iff_toNat_lt.1 h; intro h2; have := UInt8.lt_iff_toNat_lt.1 h2; omega
      simp [h, h2]
    · by_cases h2 : b < a
      · simp [h, h2]
      · simp [h, h2, compareBytes_neg x y]
theorem compareBytes_three : ∀ (x y : List UInt8), Lib.compareBytes x y = -1 ∨ (Lib.compareBytes x y = 0 ∧ x = y) ∨ Lib.compareBytes x y = 1
  | [], [] => .inr (.inl ⟨rfl, rfl⟩)
  | [], _ :: _ => .inl rfl
  | _ :: _, [] => .inr (.inr rfl)
  | a :: x, b :: y => by
    simp only [Lib.compareBytes]
    by_cases h : a < b
    · simp [h]
    · by_cases h2 : b < a
      · simp [h, h2]
      · have e : a = b := same_of h h2
        subst e
        simp only [h, if_false, List.cons.injEq, true_and]
        exact compareBytes_three x y
theorem compareBytes_self (x : List UInt8) : Lib.compareBytes x x = 0 := by
  have := compareBytes_neg x x
  omega

theorem bytes_lt3 : ∀ (x y z : List UInt8), Lib.compareBytes x y = -1 → Lib.compareBytes y z = -1 → Lib.compareBytes x z = -1
  | x, [], z, h, h2 => by cases x <;> simp [Lib.compareBytes] at h
  | x, b :: y, [], h, h2 => by simp [Lib.compareBytes] at h2
  | [], b :: y, c :: z, h, h2 => rfl
  | a :: x, b :: y, c :: z, h, h2 => by
    simp only [Lib.compareBytes, UInt8.lt_iff_toNat_lt] at h h2 ⊢
    by_cases h3 : a.toNat < b.toNat
    · by_cases h4 : b.toNat < c.toNat
      · rw [if_pos (by omega)]
      · rw [if_neg h4] at h2
        by_cases h5 : c.toNat < b.toNat
        · rw [if_pos h5] at h2; omega
        · rw [if_pos (by omega)]
    · rw [if_neg h3] at h
      by_cases h4 : b.toNat < a.toNat
      · rw [if_pos h4] at h; omega
      · rw [if_neg h4] at h
        by_cases h5 : b.toNat < c.toNat
        · rw [if_pos (by omega)]
        · rw [if_neg h5] at h2
          by_cases h6 : c.toNat < b.toNat
          · rw [if_pos h6] at h2; omega
          · rw [if_neg h6] at h2
            rw [if_neg (by omega), if_neg (by omega)]
            exact bytes_lt3 x y z h h2
end Go.Proofs.YtmbfhmjcphoddaaGreatDoor
/- The order of values, as a plain function; a box of four cells. -/
set_option linter.unusedSimpArgs false
set_option linter.unusedVariables false
namespace Go.Proofs.YtmbfhmjcphoddaaGreatDoor
open Go.RowKit

/-- A value lies in memory from g on. -/
def At4 (w : World) (g : Nat) (k n : Int) (s : ByteArray) (b : Bool) : Prop := w.cell? ⟨g, 0, none⟩ = some (.int .i64 k) ∧ w.cell? ⟨g, 1, none⟩ = some (.int .i64 n) ∧ w.cell? ⟨g, 2, none⟩ = some (.string s) ∧ w.cell? ⟨g, 3, none⟩ = some (.bool b)
theorem At4.new (w : World) (k n : Int) (s : ByteArray) (b : Bool) : At4 (w.alloc (.cells #[.int .i64 k, .int .i64 n, .string s, .bool b] 98)) w.heap.size k n s b := by
  refine ⟨?_, ?_, ?_, ?_⟩ <;> simp
theorem At4.below {w w' : World} {g : Nat} {k n : Int} {s : ByteArray} {b : Bool} (h : At4 w g k n s b) (hb : Below w.heap.size w w') : At4 w' g k n s b :=
  ⟨cell_later hb h.1, cell_later hb h.2.1, cell_later hb h.2.2.1, cell_later hb h.2.2.2⟩
theorem At4.alloc {w : World} {g : Nat} {k n : Int} {s : ByteArray} {b : Bool} (h : At4 w g k n s b) (o : Obj) : At4 (w.alloc o) g k n s b := h.below ((Below.refl _ w).alloc (Nat.le_refl _) o)

def cmpI (x y : Int) : Int := if x < y then -1 else if y < x then 1 else 0
def cmpB (a b : Bool) : Int := if a = b then 0 else if b then -1 else 1
def cmpV (k n : Int) (s : ByteArray) (b : Bool) (k' n' : Int) (s' : ByteArray) (b' : Bool) : Int :=
  if k = k' then (if k = 1 then cmpI n n' else if k = 2 then Lib.compareBytes s.data.toList s'.data.toList else if k = 3 then cmpB b b' else 0) else cmpI k k'

theorem ret_i64 {a b : Int} (h : a = b) : Ending.returned (.int .i64 a) = .returned (.int .i64 b) := by rw [h]
theorem two_new (w : World) (k n : Int) (s : ByteArray) (b : Bool) (k' n' : Int) (s' : ByteArray) (b' : Bool) :
    At4 ((w.alloc (.cells #[.int .i64 k, .int .i64 n, .string s, .bool b] 98)).alloc (.cells #[.int .i64 k', .int .i64 n', .string s', .bool b'] 98)) (w.heap.size + 1) k' n' s' b' := by
  have := At4.new (w.alloc (.cells #[.int .i64 k, .int .i64 n, .string s, .bool b] 98)) k' n' s' b'
  simpa using this

end Go.Proofs.YtmbfhmjcphoddaaGreatDoor
/- Plain facts on the order of values: turned round it is the other one; it is one behind two. -/
set_option linter.unusedSimpArgs false
set_option linter.unusedVariables false
namespace Go.Proofs.YtmbfhmjcphoddaaGreatDoor
open Go


/-- A comparison of three answers: turned round it is the other one; it is one behind two. -/
def Fine {α : Type} (f : α → α → Int) : Prop :=
  (∀ x y, f x y = -1 ∨ (f x y = 0 ∧ x = y) ∨ f x y = 1) ∧ (∀ x y, f y x = - f x y) ∧ ∀ x y z, f x y = -1 → f y z = -1 → f x z = -1
theorem Fine.self {α : Type} {f : α → α → Int} (h : Fine f) (x : α) : f x x = 0 := by have := h.2.1 x x; omega
theorem fine_int : Fine cmpI := by
  refine ⟨fun x y => ?_, fun x y => ?_, fun x y z h1 h2 => ?_⟩
  · unfold cmpI
    by_cases h : x < y
    · simp [h]
    · by_cases h2 : y < x
      · simp [h, h2]
      · simp [h, h2]; omega
  · unfold cmpI
    by_cases h : x < y
    · have : ¬ y < x := by omega
      simp [h, this]
    · by_cases h2 : y < x <;> simp [h, h2]
  · unfold cmpI at *
    by_cases h : x < y
    · by_cases h' : y < z
      · rw [if_pos (by omega)]
      · rw [if_neg h'] at h2; split at h2 <;> omega
    · rw [if_neg h] at h1; split at h1 <;> omega
theorem fine_bool : Fine cmpB := by
  refine ⟨fun x y => ?_, fun x y => ?_, fun x y z => ?_⟩
  · cases x <;> cases y <;> simp [cmpB]
  · cases x <;> cases y <;> simp [cmpB]
  · cases x <;> cases y <;> cases z <;> simp [cmpB]
theorem fine_bytes : Fine Lib.compareBytes := ⟨compareBytes_three, compareBytes_neg, bytes_lt3⟩

/-- A value's parts. -/
abbrev Parts := Int × Int × ByteArray × Bool
def cmpP (a b : Parts) : Int := cmpV a.1 a.2.1 a.2.2.1 a.2.2.2 b.1 b.2.1 b.2.2.1 b.2.2.2

theorem cmpV_three (a b : Parts) : cmpP a b = -1 ∨ cmpP a b = 0 ∨ cmpP a b = 1 := by
  unfold cmpP cmpV
  split
  · split
    · rcases fine_int.1 a.2.1 b.2.1 with h | ⟨h, _⟩ | h <;> simp [h]
    · split
      · rcases fine_bytes.1 a.2.2.1.data.toList b.2.2.1.data.toList with h | ⟨h, _⟩ | h <;> simp [h]
      · split
        · rcases fine_bool.1 a.2.2.2 b.2.2.2 with h | ⟨h, _⟩ | h <;> simp [h]
        · simp
  · rcases fine_int.1 a.1 b.1 with h | ⟨h, _⟩ | h <;> simp [h]
theorem cmpV_neg (a b : Parts) : cmpP b a = - cmpP a b := by
  unfold cmpP cmpV
  by_cases hk : a.1 = b.1
  · rw [if_pos hk, if_pos hk.symm, ← hk]
    split
    · exact fine_int.2.1 _ _
    · split
      · exact fine_bytes.2.1 _ _
      · split
        · exact fine_bool.2.1 _ _
        · rfl
  · rw [if_neg hk, if_neg (Ne.symm hk)]; exact fine_int.2.1 _ _
theorem cmpV_self (a : Parts) : cmpP a a = 0 := by have := cmpV_neg a a; omega

theorem trans_of {α : Type} {f : α → α → Int} (h : Fine f) (x y z : α) (h1 : f x y ≤ 0) (h2 : f y z ≤ 0) : f x z = min (f x y) (f y z) := by
  rcases h.1 x y with e1 | ⟨e1, rfl⟩ | e1
  · rcases h.1 y z with e2 | ⟨e2, rfl⟩ | e2
    · rw [h.2.2 x y z e1 e2, e1, e2]; rfl
    · rw [e1, e2]; rfl
    · omega
  · rw [e1]; omega
  · omega
theorem cmpP_apart (a b : Parts) (h : ¬ a.1 = b.1) : cmpP a b = cmpI a.1 b.1 := by unfold cmpP cmpV; rw [if_neg h]
theorem cmpI_below {x y : Int} (h : ¬ x = y) (h2 : cmpI x y ≤ 0) : cmpI x y = -1 := by
  rcases fine_int.1 x y with e | ⟨_, e⟩ | e
  · exact e
  · exact absurd e h
  · omega
theorem cmpV_trans (a b c : Parts) (h1 : cmpP a b ≤ 0) (h2 : cmpP b c ≤ 0) : cmpP a c = min (cmpP a b) (cmpP b c) := by
  have t1 := cmpV_three a b
  have t2 := cmpV_three b c
  by_cases hk : a.1 = b.1
  · by_cases hk2 : b.1 = c.1
    · clear t1 t2
      unfold cmpP cmpV at *
      rw [if_pos hk] at h1 ⊢
      rw [if_pos hk2] at h2 ⊢
      rw [if_pos (hk.trans hk2)]
      rw [hk] at h1 ⊢
      split
      · rename_i h; rw [if_pos h] at h1 h2; exact trans_of fine_int _ _ _ h1 h2
      · rename_i h; rw [if_neg h] at h1 h2
        split
        · rename_i h'; rw [if_pos h'] at h1 h2; exact trans_of fine_bytes _ _ _ h1 h2
        · rename_i h'; rw [if_neg h'] at h1 h2
          split
          · rename_i h''; rw [if_pos h''] at h1 h2; exact trans_of fine_bool _ _ _ h1 h2
          · rfl
    · have hk3 : ¬ a.1 = c.1 := by rw [hk]; exact hk2
      rw [cmpP_apart b c hk2] at h2 t2 ⊢
      have e2 := cmpI_below hk2 h2
      rw [cmpP_apart a c hk3, hk, e2]
      omega
  · rw [cmpP_apart a b hk] at h1 t1 ⊢
    have e1 := cmpI_below hk h1
    by_cases hk2 : b.1 = c.1
    · have hk3 : ¬ a.1 = c.1 := by rw [← hk2]; exact hk
      rw [cmpP_apart a c hk3, ← hk2, e1]
      omega
    · rw [cmpP_apart b c hk2] at h2 t2 ⊢
      have e2 := cmpI_below hk2 h2
      have e3 := fine_int.2.2 _ _ _ e1 e2
      have hk3 : ¬ a.1 = c.1 := fun e => by rw [e, fine_int.self] at e3; omega
      rw [cmpP_apart a c hk3, e1, e2, e3]; rfl

theorem isEmpty_eq {t : ByteArray} (h : t.toList.isEmpty = true) : t = ⟨#[]⟩ := by
  have h1 : t.toList = [] := by simpa [List.isEmpty_iff] using h
  rw [toList_data] at h1
  obtain ⟨⟨l⟩⟩ := t
  simp only at h1
  subst h1; rfl
theorem may_kind {k n : Int} {t : ByteArray} {b : Bool} (h : mayB k n t b = true) : (k = 1 ∧ t = ⟨#[]⟩ ∧ b = false ∧ True) ∨ (k = 2 ∧ n = 0 ∧ b = false ∧ True ∧ t.size ≤ 32) ∨ (k = 3 ∧ n = 0 ∧ t = ⟨#[]⟩ ∧ True) := by
  by_cases h1 : k = 1
  · subst h1
    simp only [mayB, if_true, Bool.and_eq_true, Bool.not_eq_true'] at h
    exact .inl ⟨rfl, isEmpty_eq h.1, h.2, trivial⟩
  by_cases h2 : k = 2
  · subst h2
    simp [mayB] at h
    exact .inr (.inl ⟨rfl, h.2.1, h.2.2, trivial, h.1⟩)
  by_cases h3 : k = 3
  · subst h3
    have h' : n = 0 ∧ t.toList.isEmpty = true := by simpa [mayB] using h
    exact .inr (.inr ⟨rfl, h'.1, isEmpty_eq h'.2, trivial⟩)
  · simp [mayB, h1, h2, h3] at h
/-- Two values that may be are the same just if the comparison tells 0. -/
theorem cmpV_zero (a b : Parts) (ha : mayB a.1 a.2.1 a.2.2.1 a.2.2.2 = true) (hb : mayB b.1 b.2.1 b.2.2.1 b.2.2.2 = true) :
    (cmpP a b == 0) = eqlVal a.1 a.2.1 a.2.2.1 a.2.2.2 b.1 b.2.1 b.2.2.1 b.2.2.2 := by
  obtain ⟨k, n, s, x⟩ := a
  obtain ⟨k', n', s', x'⟩ := b
  simp only at ha hb
  by_cases hk : k = k'
  · subst hk
    unfold cmpP cmpV eqlVal
    simp only [if_true, beq_self_eq_true, Bool.true_and]
    rcases may_kind ha with ⟨rfl, rfl, rfl, _⟩ | ⟨rfl, rfl, rfl, _, _⟩ | ⟨rfl, rfl, rfl, _⟩
    · rcases may_kind hb with ⟨_, rfl, rfl, _⟩ | ⟨h, _⟩ | ⟨h, _⟩
      · simp only [if_true, beq_self_eq_true, Bool.and_true]
        rcases fine_int.1 n n' with e | ⟨e, e'⟩ | e
        · have : ¬ n = n' := fun h => by rw [h, fine_int.self] at e; omega
          rw [e, beq_eq_false_iff_ne.2 this]; rfl
        · rw [e, e']; simp
        · have : ¬ n = n' := fun h => by rw [h, fine_int.self] at e; omega
          rw [e, beq_eq_false_iff_ne.2 this]; rfl
      · omega
      · omega
    · rcases may_kind hb with ⟨h, _⟩ | ⟨_, rfl, rfl, _, _⟩ | ⟨h, _⟩
      · omega
      · simp only [beq_self_eq_true, Bool.and_true, Bool.true_and, show ((2 : Int) = 1) = False by simp, if_false, if_true, toList_data]
        rcases compareBytes_three s.data.toList s'.data.toList with e | ⟨e, e'⟩ | e
        · have : ¬ s.data.toList = s'.data.toList := fun h => by rw [h, compareBytes_self] at e; omega
          rw [e, beq_eq_false_iff_ne.2 this]; rfl
        · rw [e, e']; simp
        · have : ¬ s.data.toList = s'.data.toList := fun h => by rw [h, compareBytes_self] at e; omega
          rw [e, beq_eq_false_iff_ne.2 this]; rfl
      · omega
    · rcases may_kind hb with ⟨h, _⟩ | ⟨h, _⟩ | ⟨_, rfl, rfl, _⟩
      · omega
      · omega
      · cases x <;> cases x' <;> simp [cmpB]
  · have : (cmpP (k, n, s, x) (k', n', s', x') == 0) = false := by
      rw [cmpP_apart _ _ hk, beq_eq_false_iff_ne]
      rcases fine_int.1 k k' with e | ⟨_, e⟩ | e
      · rw [e]; decide
      · exact absurd e hk
      · rw [e]; decide
    rw [this]
    unfold eqlVal
    rw [beq_eq_false_iff_ne.2 hk]; rfl
end Go.Proofs.YtmbfhmjcphoddaaGreatDoor
/- Values and constraints as the chapter has them: their cells, their order; rows that are put in order, one by one. -/
set_option linter.unusedSimpArgs false
set_option linter.unusedVariables false
namespace Go.Proofs.YtmbfhmjcphoddaaGreatDoor.Gm
open Go Go.RowKit

/-! ### Orders -/
/-- An order of three answers: turned round it is the other one; it is one behind two. -/
def Weak {α : Type} (f : α → α → Int) : Prop :=
  (∀ x y, f x y = -1 ∨ f x y = 0 ∨ f x y = 1) ∧ (∀ x y, f y x = - f x y) ∧ ∀ x y z, f x y ≤ 0 → f y z ≤ 0 → f x z = min (f x y) (f y z)
theorem Weak.self {α : Type} {f : α → α → Int} (h : Weak f) (x : α) : f x x = 0 := by have := h.2.1 x x; omega
theorem weak_fine {α : Type} {f : α → α → Int} (h : Fine f) : Weak f :=
  ⟨fun x y => by rcases h.1 x y with e | ⟨e, _⟩ | e <;> simp [e], h.2.1, fun x y z h1 h2 => trans_of h x y z h1 h2⟩
theorem Weak.pull {α β : Type} {f : α → α → Int} (h : Weak f) (g : β → α) : Weak fun x y => f (g x) (g y) :=
  ⟨fun _ _ => h.1 _ _, fun _ _ => h.2.1 _ _, fun _ _ _ => h.2.2 _ _ _⟩
theorem Weak.lex {α : Type} {f g : α → α → Int} (h : Weak f) (k : Weak g) : Weak fun x y => if f x y = 0 then g x y else f x y := by
  refine ⟨fun x y => ?_, fun x y => ?_, fun x y z => ?_⟩
  · have h1 := h.1 x y
    have h2 := k.1 x y
    show (if f x y = 0 then g x y else f x y) = -1 ∨ (if f x y = 0 then g x y else f x y) = 0 ∨ (if f x y = 0 then g x y else f x y) = 1
    by_cases e : f x y = 0
    · rw [if_pos e]; exact h2
    · rw [if_neg e]; exact h1
  · have h1 := h.2.1 x y
    have h2 := k.2.1 x y
    show (if f y x = 0 then g y x else f y x) = - (if f x y = 0 then g x y else f x y)
    by_cases e : f x y = 0
    · rw [if_pos e, if_pos (by omega)]; exact h2
    · rw [if_neg e, if_neg (by omega)]; exact h1
  · have a1 := h.1 x y
    have a2 := h.1 y z
    have a3 := h.2.2 x y z
    have b3 := k.2.2 x y z
    have b1 := k.1 x y
    have b2 := k.1 y z
    show (if f x y = 0 then g x y else f x y) ≤ 0 → (if f y z = 0 then g y z else f y z) ≤ 0 → (if f x z = 0 then g x z else f x z) = min (if f x y = 0 then g x y else f x y) (if f y z = 0 then g y z else f y z)
    by_cases e1 : f x y = 0
    · by_cases e2 : f y z = 0
      · rw [if_pos e1, if_pos e2]
        have e3 : f x z = 0 := by rw [a3 (by omega) (by omega), e1, e2]; rfl
        rw [if_pos e3]; exact b3
      · rw [if_pos e1, if_neg e2]
        intro p q
        have e3 := a3 (by omega) q
        rw [e1] at e3
        have e4 : f x z = f y z := by omega
        rw [if_neg (by omega)]
        omega
    · rw [if_neg e1]
      intro p
      by_cases e2 : f y z = 0
      · rw [if_pos e2]
        intro q
        have e3 := a3 p (by omega)
        rw [e2] at e3
        rw [if_neg (by omega)]
        omega
      · rw [if_neg e2]
        intro q
        have e3 := a3 p q
        rw [if_neg (by omega)]
        exact e3

/-- What cmp.Or tells: the first that is not 0. -/
def orL : List Int → Int
  | [] => 0
  | x :: r => if x = 0 then orL r else x
/-- Rows are told apart one by one, the shorter one first. -/
def cmpL {α : Type} (f : α → α → Int) : List α → List α → Int
  | [], [] => 0
  | [], _ :: _ => -1
  | _ :: _, [] => 1
  | x :: a, y :: b => if f x y = 0 then cmpL f a b else f x y
theorem cmpL_three {α : Type} {f : α → α → Int} (h : Weak f) : ∀ u v : List α, cmpL f u v = -1 ∨ cmpL f u v = 0 ∨ cmpL f u v = 1
  | [], [] => .inr (.inl rfl)
  | [], _ :: _ => .inl rfl
  | _ :: _, [] => .inr (.inr rfl)
  | a :: u, d :: v => by
    simp only [cmpL]
    by_cases e : f a d = 0
    · rw [if_pos e]; exact cmpL_three h u v
    · rw [if_neg e]; exact h.1 a d
theorem weak_list {α : Type} {f : α → α → Int} (h : Weak f) : Weak (cmpL f) := by
  refine ⟨?_, ?_, ?_⟩
  · intro x
    induction x with
    | nil => intro y; cases y <;> simp [cmpL]
    | cons a x ih =>
      intro y
      cases y with
      | nil => simp [cmpL]
      | cons b y =>
        simp only [cmpL]
        by_cases e : f a b = 0
        · rw [if_pos e]; exact ih y
        · rw [if_neg e]; exact h.1 a b
  · intro x
    induction x with
    | nil => intro y; cases y <;> simp [cmpL]
    | cons a x ih =>
      intro y
      cases y with
      | nil => simp [cmpL]
      | cons b y =>
        simp only [cmpL]
        have := h.2.1 a b
        by_cases e : f a b = 0
        · rw [if_pos e, if_pos (by omega)]; exact ih y
        · rw [if_neg e, if_neg (by omega)]; exact this
  · intro x
    induction x with
    | nil =>
      intro y z
      cases y with
      | nil => cases z with
        | nil => simp [cmpL]
        | cons c z => intro _ _; simp only [cmpL]; omega
      | cons b y => cases z with
        | nil => simp [cmpL]
        | cons c z =>
          simp only [cmpL]
          intro _ q
          have t := h.1 b c
          have := cmpL_three h
          have t2 := this y z
          by_cases e : f b c = 0
          · rw [if_pos e] at q ⊢; omega
          · rw [if_neg e] at q ⊢; omega
    | cons a x ih =>
      intro y z
      cases y with
      | nil => intro p; simp [cmpL] at p
      | cons b y =>
        cases z with
        | nil => intro _ p; simp [cmpL] at p
        | cons c z =>
          simp only [cmpL]
          have a1 := h.1 a b
          have a2 := h.1 b c
          have a3 := h.2.2 a b c
          have b3 := ih y z
          by_cases e1 : f a b = 0
          · by_cases e2 : f b c = 0
            · rw [if_pos e1, if_pos e2]
              have e3 : f a c = 0 := by rw [a3 (by omega) (by omega), e1, e2]; rfl
              rw [if_pos e3]; exact b3
            · rw [if_pos e1, if_neg e2]
              intro p q
              have e3 := a3 (by omega) q
              rw [e1] at e3
              rw [if_neg (by omega)]
              have : cmpL f x y = -1 ∨ cmpL f x y = 0 := by
                have := cmpL_three h
                have := this x y
                omega
              omega
          · rw [if_neg e1]
            intro p
            by_cases e2 : f b c = 0
            · rw [if_pos e2]
              intro q
              have e3 := a3 p (by omega)
              rw [e2] at e3
              rw [if_neg (by omega)]
              have := cmpL_three h
              have := this y z
              omega
            · rw [if_neg e2]
              intro q
              have e3 := a3 p q
              rw [if_neg (by omega)]
              exact e3
theorem cmpL_zero {α : Type} {f : α → α → Int} (h : ∀ x y, f x y = 0 → x = y) : ∀ a b, cmpL f a b = 0 → a = b
  | [], [], _ => rfl
  | [], _ :: _, e => by simp [cmpL] at e
  | _ :: _, [], e => by simp [cmpL] at e
  | x :: a, y :: b, e => by
    simp only [cmpL] at e
    by_cases e1 : f x y = 0
    · rw [if_pos e1] at e
      rw [h x y e1, cmpL_zero h a b e]
    · rw [if_neg e1] at e; exact absurd e e1

/-- The order of values, in all that they have. -/
def cmpW (a b : Vl) : Int := orL [cmpV a.k a.n a.s a.b b.k b.n b.s b.b, cmpI a.n b.n, Lib.compareBytes a.s.data.toList b.s.data.toList, cmpB a.b b.b]
def parts (x : Vl) : Parts := (x.k, x.n, x.s, x.b)
theorem weak_parts : Weak cmpP := ⟨cmpV_three, cmpV_neg, cmpV_trans⟩
theorem orL4 (a b c d : Int) : orL [a, b, c, d] = if a = 0 then (if b = 0 then (if c = 0 then d else c) else b) else a := by
  simp only [orL]
  by_cases hd : d = 0
  · simp [hd]
  · simp [hd]
theorem weakW : Weak cmpW := by
  have h := (weak_parts.pull parts).lex (((weak_fine fine_int).pull Vl.n).lex (((weak_fine fine_bytes).pull fun x : Vl => x.s.data.toList).lex ((weak_fine fine_bool).pull Vl.b)))
  have e : cmpW = _ := funext fun a => funext fun b => (orL4 _ _ _ _).trans rfl
  rw [e]; exact h
theorem int_zero {x y : Int} (h : cmpI x y = 0) : x = y := by rcases fine_int.1 x y with e | ⟨_, e⟩ | e; · omega
                                                              · exact e
                                                              · omega
theorem bytes_zero {x y : ByteArray} (h : Lib.compareBytes x.data.toList y.data.toList = 0) : x = y := by
  rcases compareBytes_three x.data.toList y.data.toList with e | ⟨_, e⟩ | e
  · omega
  · exact bytes_eq e
  · omega
theorem bool_zero {x y : Bool} (h : cmpB x y = 0) : x = y := by cases x <;> cases y <;> simp [cmpB] at h ⊢
theorem orL4_zero {a b c d : Int} (h : orL [a, b, c, d] = 0) : a = 0 ∧ b = 0 ∧ c = 0 ∧ d = 0 := by
  rw [orL4] at h
  by_cases h1 : a = 0
  · rw [if_pos h1] at h
    by_cases h2 : b = 0
    · rw [if_pos h2] at h
      by_cases h3 : c = 0
      · rw [if_pos h3] at h; exact ⟨h1, h2, h3, h⟩
      · rw [if_neg h3] at h; exact absurd h h3
    · rw [if_neg h2] at h; exact absurd h h2
  · rw [if_neg h1] at h; exact absurd h h1
theorem cmpW_zero (a b : Vl) (h : cmpW a b = 0) : a = b := by
  obtain ⟨h1, h2, h3, h4⟩ := orL4_zero h
  obtain ⟨k, n, s, x⟩ := a
  obtain ⟨k', n', s', x'⟩ := b
  have hk : k = k' := by
    by_cases hk : k = k'
    · exact hk
    · simp only [cmpV, if_neg hk] at h1; exact int_zero h1
  simp only at h2 h3 h4
  rw [hk, int_zero h2, bytes_zero h3, bool_zero h4]
/-- Of values that may be, the order tells the same as value.Compare. -/
theorem cmpW_may (a b : Vl) (ha : mayB a.k a.n a.s a.b = true) (hb : mayB b.k b.n b.s b.b = true) : cmpW a b = cmpV a.k a.n a.s a.b b.k b.n b.s b.b := by
  by_cases h : cmpV a.k a.n a.s a.b b.k b.n b.s b.b = 0
  · have h2 := cmpV_zero (parts a) (parts b) ha hb
    have h3 : (cmpP (parts a) (parts b) == 0) = true := by rw [beq_iff_eq]; exact h
    rw [h3] at h2
    have h4 : a = b := by
      have h5 := h2.symm
      simp only [eqlVal, parts, Bool.and_eq_true, beq_iff_eq, toList_data] at h5
      obtain ⟨k, n, s, x⟩ := a
      obtain ⟨k', n', s', x'⟩ := b
      simp only at h5
      obtain ⟨e1, e2, e3, e4⟩ := h5
      rw [e1, e2, bytes_eq e3, e4]
    rw [h4] at h ⊢
    rw [weakW.self, h]
  · unfold cmpW
    rw [orL4, if_neg h]
/-- The order of constraints. -/
def cmpC (a b : Cn) : Int := orL [Lib.compareBytes a.nm.data.toList b.nm.data.toList, cmpI a.op b.op, cmpW a.v b.v, cmpL cmpW a.set b.set]
theorem weakC : Weak cmpC := by
  have h := ((weak_fine fine_bytes).pull fun x : Cn => x.nm.data.toList).lex (((weak_fine fine_int).pull Cn.op).lex ((weakW.pull Cn.v).lex ((weak_list weakW).pull Cn.set)))
  have e : cmpC = _ := funext fun a => funext fun b => (orL4 _ _ _ _).trans rfl
  rw [e]; exact h
theorem cmpC_zero (a b : Cn) (h : cmpC a b = 0) : bare a = bare b := by
  obtain ⟨h1, h2, h3, h4⟩ := orL4_zero h
  unfold bare
  rw [bytes_zero h1, int_zero h2, cmpW_zero _ _ h3, cmpL_zero cmpW_zero _ _ h4]
theorem cmpC_bare (a b : Cn) : cmpC (bare a) (bare b) = cmpC a b := rfl

/-! ### Rows in order, each once -/
def insL {α : Type} (f : α → α → Int) : List α → α → List α
  | [], x => [x]
  | y :: r, x => if f y x < 0 then y :: insL f r x else if f y x = 0 then y :: r else x :: y :: r
def Rising {α : Type} (f : α → α → Int) (l : List α) : Prop := l.Pairwise fun a b => f a b < 0
theorem insL_at {α : Type} [Inhabited α] {f : α → α → Int} : ∀ (l : List α) (x : α) (p : Nat), p ≤ l.length → (∀ i, i < p → f (l.getD i default) x < 0) → (p < l.length → ¬ f (l.getD p default) x < 0) →
    (p < l.length → f (l.getD p default) x = 0 → insL f l x = l) ∧ ((p < l.length → ¬ f (l.getD p default) x = 0) → insL f l x = l.take p ++ x :: l.drop p)
  | [], x, p, hp, _, _ => by
    have : p = 0 := by simpa using hp
    subst this
    exact ⟨fun h => by simp at h, fun _ => rfl⟩
  | y :: r, x, 0, _, _, h2 => by
    have h3 := h2 (by simp)
    simp only [List.getD_cons_zero] at h3
    refine ⟨fun _ h => ?_, fun h => ?_⟩
    · simp only [List.getD_cons_zero] at h
      simp only [insL, if_neg h3, if_pos h]
    · have h := h (by simp)
      simp only [List.getD_cons_zero] at h
      simp only [insL, if_neg h3, if_neg h, List.take_zero, List.drop_zero, List.nil_append]
  | y :: r, x, p + 1, hp, h1, h2 => by
    have h0 := h1 0 (by omega)
    simp only [List.getD_cons_zero] at h0
    have ih := insL_at r x p (by simpa using hp) (fun i hi => by simpa using h1 (i + 1) (by omega)) (fun h => by simpa using h2 (by simpa using h))
    refine ⟨fun h3 h4 => ?_, fun h3 => ?_⟩
    · simp only [insL, if_pos h0]
      rw [ih.1 (by simpa using h3) (by simpa using h4)]
    · simp only [insL, if_pos h0, List.take_succ_cons, List.drop_succ_cons, List.cons_append]
      rw [ih.2 (fun h => by simpa using h3 (by simpa using h))]
theorem mem_insL {α : Type} {f : α → α → Int} : ∀ (l : List α) (x z : α), z ∈ insL f l x → z ∈ l ∨ z = x
  | [], x, z, h => by simp [insL] at h; exact .inr h
  | y :: r, x, z, h => by
    simp only [insL] at h
    split at h
    · rcases List.mem_cons.1 h with rfl | h
      · exact .inl (by simp)
      · rcases mem_insL r x z h with h | h
        · exact .inl (by simp [h])
        · exact .inr h
    · split at h
      · exact .inl h
      · rcases List.mem_cons.1 h with rfl | h
        · exact .inr rfl
        · exact .inl h
theorem insL_old {α : Type} {f : α → α → Int} : ∀ (l : List α) (x z : α), z ∈ l → z ∈ insL f l x
  | y :: r, x, z, h => by
    simp only [insL]
    split
    · rcases List.mem_cons.1 h with rfl | h
      · simp
      · exact List.mem_cons_of_mem _ (insL_old r x z h)
    · split
      · exact h
      · exact List.mem_cons_of_mem _ h
/-- What is put in is there, or one that is like it. -/
theorem insL_new {α : Type} {f : α → α → Int} (hf : Weak f) : ∀ (l : List α) (x : α), ∃ z ∈ insL f l x, f z x = 0
  | [], x => ⟨x, by simp [insL], hf.self x⟩
  | y :: r, x => by
    simp only [insL]
    split
    · obtain ⟨z, h1, h2⟩ := insL_new hf r x
      exact ⟨z, List.mem_cons_of_mem _ h1, h2⟩
    · split
      · rename_i h; exact ⟨y, by simp, h⟩
      · exact ⟨x, by simp, hf.self x⟩
theorem weak_lt {α : Type} {f : α → α → Int} (hf : Weak f) {x y z : α} (h : f x y < 0) (h2 : f y z ≤ 0) : f x z < 0 := by
  have := hf.2.2 x y z (by omega) h2; omega
theorem weak_gt {α : Type} {f : α → α → Int} (hf : Weak f) {x y : α} (h : ¬ f y x < 0) (h2 : ¬ f y x = 0) : f x y < 0 := by
  have := hf.2.1 x y; have := hf.1 y x; omega
theorem insL_rising {α : Type} {f : α → α → Int} (hf : Weak f) : ∀ (l : List α) (x : α), Rising f l → Rising f (insL f l x)
  | [], x, _ => List.pairwise_singleton _ _
  | y :: r, x, h => by
    have h' := List.pairwise_cons.1 h
    simp only [insL]
    split
    · rename_i h1
      refine List.pairwise_cons.2 ⟨fun z hz => ?_, insL_rising hf r x h'.2⟩
      rcases mem_insL r x z hz with hz | rfl
      · exact h'.1 z hz
      · exact h1
    · rename_i h1
      split
      · exact h
      · rename_i h2
        refine List.pairwise_cons.2 ⟨fun z hz => ?_, h⟩
        have h3 := weak_gt hf h1 h2
        rcases List.mem_cons.1 hz with rfl | hz
        · exact h3
        · exact weak_lt hf h3 (by have := h'.1 z hz; omega)
theorem insL_length {α : Type} {f : α → α → Int} : ∀ (l : List α) (x : α), (insL f l x).length ≤ l.length + 1
  | [], x => by simp [insL]
  | y :: r, x => by
    simp only [insL]
    split
    · have := insL_length (f := f) r x; simpa using this
    · split <;> simp
theorem insL_map {α β : Type} {f : α → α → Int} {k : β → β → Int} (g : α → β) (h : ∀ x y, k (g x) (g y) = f x y) : ∀ (l : List α) (x : α), (insL f l x).map g = insL k (l.map g) (g x)
  | [], x => rfl
  | y :: r, x => by
    simp only [insL, List.map_cons, h]
    split
    · simp [insL_map g h r x]
    · split <;> simp
/-- All of a row, put in order. -/
def sortL {α : Type} (f : α → α → Int) (l : List α) : List α := l.foldl (insL f) []
theorem foldl_rising {α : Type} {f : α → α → Int} (hf : Weak f) : ∀ (l a : List α), Rising f a → Rising f (l.foldl (insL f) a)
  | [], a, h => h
  | x :: l, a, h => foldl_rising hf l _ (insL_rising hf a x h)
theorem sortL_rising {α : Type} {f : α → α → Int} (hf : Weak f) (l : List α) : Rising f (sortL f l) := foldl_rising hf l [] .nil
theorem foldl_mem {α : Type} {f : α → α → Int} : ∀ (l a : List α) (z : α), z ∈ l.foldl (insL f) a → z ∈ l ∨ z ∈ a
  | [], a, z, h => .inr h
  | x :: l, a, z, h => by
    rcases foldl_mem l _ z h with h | h
    · exact .inl (by simp [h])
    · rcases mem_insL a x z h with h | rfl
      · exact .inr h
      · exact .inl (by simp)
theorem sortL_mem {α : Type} {f : α → α → Int} {l : List α} {z : α} (h : z ∈ sortL f l) : z ∈ l := by
  rcases foldl_mem l [] z h with h | h
  · exact h
  · simp at h
theorem foldl_old {α : Type} {f : α → α → Int} : ∀ (l a : List α) (z : α), z ∈ a → z ∈ l.foldl (insL f) a
  | [], a, z, h => h
  | x :: l, a, z, h => foldl_old l _ z (insL_old a x z h)
theorem foldl_new {α : Type} {f : α → α → Int} (hf : Weak f) : ∀ (l a : List α) (x : α), x ∈ l → ∃ z ∈ l.foldl (insL f) a, f z x = 0
  | y :: l, a, x, h => by
    rcases List.mem_cons.1 h with rfl | h
    · obtain ⟨z, h1, h2⟩ := insL_new hf a x
      exact ⟨z, foldl_old l _ z h1, h2⟩
    · exact foldl_new hf l _ x h
theorem sortL_new {α : Type} {f : α → α → Int} (hf : Weak f) {l : List α} {x : α} (h : x ∈ l) : ∃ z ∈ sortL f l, f z x = 0 := foldl_new hf l [] x h
theorem foldl_length {α : Type} {f : α → α → Int} : ∀ (l a : List α), (l.foldl (insL f) a).length ≤ l.length + a.length
  | [], a => by simp
  | x :: l, a => by
    have h1 := foldl_length (f := f) l (insL f a x)
    have h2 := insL_length (f := f) a x
    simp only [List.foldl_cons, List.length_cons]; omega
theorem sortL_length {α : Type} {f : α → α → Int} (l : List α) : (sortL f l).length ≤ l.length := by have := foldl_length (f := f) l []; simpa [sortL] using this
theorem foldl_map {α β : Type} {f : α → α → Int} {k : β → β → Int} (g : α → β) (h : ∀ x y, k (g x) (g y) = f x y) : ∀ (l a : List α), (l.foldl (insL f) a).map g = (l.map g).foldl (insL k) (a.map g)
  | [], a => rfl
  | x :: l, a => by
    simp only [List.foldl_cons, List.map_cons]
    rw [foldl_map g h l, insL_map g h]
theorem sortL_map {α β : Type} {f : α → α → Int} {k : β → β → Int} (g : α → β) (h : ∀ x y, k (g x) (g y) = f x y) (l : List α) : (sortL f l).map g = sortL k (l.map g) := foldl_map g h l []
theorem cmpL_step {α : Type} [Inhabited α] {f : α → α → Int} {a b : List α} {k : Nat} (h : k < a.length) (h' : k < b.length) :
    cmpL f (a.drop k) (b.drop k) = if f (a.getD k default) (b.getD k default) = 0 then cmpL f (a.drop (k + 1)) (b.drop (k + 1)) else f (a.getD k default) (b.getD k default) := by
  rw [List.drop_eq_getElem_cons h, List.drop_eq_getElem_cons h', cmpL, List.getD_eq_getElem?_getD, List.getD_eq_getElem?_getD, List.getElem?_eq_getElem h, List.getElem?_eq_getElem h']
  rfl
theorem cmpL_over {α : Type} {f : α → α → Int} {a b : List α} {k : Nat} (h : k < a.length) (h' : b.length ≤ k) : cmpL f (a.drop k) (b.drop k) = 1 := by
  rw [List.drop_eq_getElem_cons h, List.drop_eq_nil_of_le h']; rfl
theorem cmpL_done {α : Type} {f : α → α → Int} {a b : List α} {k : Nat} (h : a.length ≤ k) : cmpL f (a.drop k) (b.drop k) = if k < b.length then -1 else 0 := by
  rw [List.drop_eq_nil_of_le h]
  by_cases hk : k < b.length
  · rw [if_pos hk, List.drop_eq_getElem_cons hk]; rfl
  · rw [if_neg hk, List.drop_eq_nil_of_le (by omega)]; rfl

end Go.Proofs.YtmbfhmjcphoddaaGreatDoor.Gm
/- The contracts of the document's Bare and whole: has a value nothing; the order of values in all that they have. -/
/- The contracts of the document's own answers: which values may be; their order. -/
set_option linter.unusedSimpArgs false
set_option linter.unusedVariables false
namespace Go.Proofs.YtmbfhmjcphoddaaGreatDoor
open Go.RowKit

end Go.Proofs.YtmbfhmjcphoddaaGreatDoor
/- Rows in memory, and their orders. -/

set_option linter.unusedSimpArgs false
set_option linter.unusedVariables false
namespace Go.Proofs.YtmbfhmjcphoddaaGreatDoor.Gm
open Go Go.RowKit
attribute [local go_sem ↓] Go.wp_at_zero Go.wp_at_succ

theorem toList_empty (s : ByteArray) : (s.toList == (⟨#[]⟩ : ByteArray).toList) = s.toList.isEmpty := by
  rw [empty_toList]; cases s.toList <;> rfl
/-- Two boxes of values, new. -/
def Box2 (w w1 : World) (a b : Vl) : Prop := Blk w1 w.heap.size 98 #[.int .i64 a.k, .int .i64 a.n, .string a.s, .bool a.b] ∧ Blk w1 (w.heap.size + 1) 98 #[.int .i64 b.k, .int .i64 b.n, .string b.s, .bool b.b] ∧ Below w.heap.size w w1
theorem box2 (w : World) (a b : Vl) : Box2 w ((w.alloc (.cells #[.int .i64 a.k, .int .i64 a.n, .string a.s, .bool a.b] 98)).alloc (.cells #[.int .i64 b.k, .int .i64 b.n, .string b.s, .bool b.b] 98)) a b :=
  ⟨(Blk.new _ _ _).alloc _, by simpa using Blk.new (w.alloc (.cells #[.int .i64 a.k, .int .i64 a.n, .string a.s, .bool a.b] 98)) 98 #[.int .i64 b.k, .int .i64 b.n, .string b.s, .bool b.b], ((Below.refl _ w).alloc (Nat.le_refl _) _).alloc (by simp) _⟩
theorem Box2.later {w w1 w2 : World} {a b : Vl} (h : Box2 w w1 a b) (hb : Below w1.heap.size w1 w2) : Box2 w w2 a b := ⟨h.1.later hb, h.2.1.later hb, then_ h.2.2 hb⟩
end Go.Proofs.YtmbfhmjcphoddaaGreatDoor.Gm
/- The contract of the document's Order: the order of constraints. -/
set_option linter.unusedSimpArgs false
set_option linter.unusedVariables false
namespace Go.Proofs.YtmbfhmjcphoddaaGreatDoor.Gm
open Go Go.RowKit
attribute [local go_sem ↓] Go.wp_at_zero Go.wp_at_succ

/-- The cells of a constraint's box. -/
abbrev celC (c : Cn) : Array Value := #[.string c.nm, .int .i64 c.op, .int .i64 c.v.k, .int .i64 c.v.n, .string c.v.s, .bool c.v.b, .slice c.sp c.set.length c.sc]
theorem less_of (s s' : ByteArray) : Op.bytesLess s.toList s'.toList = (Lib.compareBytes s.data.toList s'.data.toList == -1) := by rw [less_iff, toList_data, toList_data]
theorem same_of (s s' : ByteArray) : (s.toList == s'.toList) = (Lib.compareBytes s.data.toList s'.data.toList == 0) := by
  rw [toList_data, toList_data]
  rcases compareBytes_three s.data.toList s'.data.toList with h | ⟨h, h'⟩ | h
  · rw [h]; simp only [beq_eq_false_iff_ne, ne_eq, show ((-1 : Int) == 0) = false from rfl]
    intro e; rw [e, compareBytes_self] at h; omega
  · rw [h, h']; simp
  · rw [h]; simp only [beq_eq_false_iff_ne, ne_eq, show ((1 : Int) == 0) = false from rfl]
    intro e; rw [e, compareBytes_self] at h; omega

section
variable (a b : Cn) (w : World)
end
end Go.Proofs.YtmbfhmjcphoddaaGreatDoor.Gm
set_option linter.unusedSimpArgs false
set_option linter.unusedVariables false
namespace Go.Proofs.YtmbfhmjcphoddaaGreatDoor.Gm
open Go Go.RowKit
attribute [local go_sem ↓] Go.wp_at_zero Go.wp_at_succ

end Go.Proofs.YtmbfhmjcphoddaaGreatDoor.Gm
