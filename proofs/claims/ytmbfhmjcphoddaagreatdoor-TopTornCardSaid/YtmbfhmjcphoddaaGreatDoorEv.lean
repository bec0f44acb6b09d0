/- Events in memory, and which may be: plain facts. -/
import Derived.Test.YtmbfhmjcphoddaaGreatDoorA
import Derived.Test.YtmbfhmjcphoddaaGreatDoorKb0
import Derived.Test.YtmbfhmjcphoddaaGreatDoorVl
set_option linter.unusedSimpArgs false
set_option linter.unusedVariables false
namespace Go.Proofs.YtmbfhmjcphoddaaGreatDoor.Gm
open Go Go.RowKit
attribute [local go_sem ↓] Go.wp_at_zero Go.wp_at_succ

def FitsI (n : Int) : Prop := -9223372036854775808 ≤ n ∧ n ≤ 9223372036854775807
/-- An attribute: a name, and a value's four parts. -/
structure Attr where
  nm : ByteArray
  k : Int
  n : Int
  s : ByteArray
  b : Bool
instance : Inhabited Attr := ⟨⟨⟨#[]⟩, 0, 0, ⟨#[]⟩, false⟩⟩
/-- Its five cells. -/
def encA (a : Attr) : List Value := [.string a.nm, .int .i64 a.k, .int .i64 a.n, .string a.s, .bool a.b]

def namedB (c : UInt8) : Bool := (decide (97 ≤ c.toNat) && decide (c.toNat ≤ 122)) || (decide (48 ≤ c.toNat) && decide (c.toNat ≤ 57)) || c.toNat == 45 || c.toNat == 46 || c.toNat == 95
def nameB (s : ByteArray) : Bool := s.data.toList.all namedB && (decide (1 ≤ s.size) && decide (s.size ≤ 16))
def lessN (a b : ByteArray) : Bool := Op.bytesLess a.toList b.toList
def okA (a : Attr) : Bool := nameB a.nm && mayB a.k a.n a.s a.b
def okAt (l : List Attr) (i : Nat) : Bool := okA (l.getD i default) && (i == 0 || lessN (l.getD (i - 1) default).nm (l.getD i default).nm)
def mayE (key : ByteArray) (l : List Attr) : Bool := decide (key.size ≤ 16) && decide (l.length ≤ 8) && (List.range l.length).all (okAt l)
/-- Bytes up to a place, all named. -/
theorem named_take {s : ByteArray} {k : Nat} (h : k < s.size) : (s.data.toList.take (k + 1)).all namedB = ((s.data.toList.take k).all namedB && namedB s[k]) := by
  rw [List.take_succ_eq_append_getElem (by simpa using h), List.all_append]
  simp
  rfl
/-- Attributes lie one behind the other from a place on. -/
def Cells5 (w : World) (b o : Nat) (l : List Attr) : Prop := ∀ i, i < l.length → ∀ j u, (encA (l.getD i default))[j]? = some u → w.cell? ⟨b, o + i * 5 + j, none⟩ = some u
/-- A slice of attributes. -/
def Sl (w : World) (v : Value) (l : List Attr) : Prop :=
  ∃ (p : Option Addr) (cap b o : Nat), v = .slice p l.length cap ∧ (l ≠ [] → p = some ⟨b, o, none⟩ ∧ b < w.heap.size) ∧ Cells5 w b o l ∧ l.length ≤ 140737488355328
theorem Sl.below {w w' : World} {v : Value} {l : List Attr} (h : Sl w v l) (hb : Below w.heap.size w w') : Sl w' v l := by
  obtain ⟨p, cap, b, o, h1, h2, h3, h4⟩ := h
  refine ⟨p, cap, b, o, h1, fun hl => ⟨(h2 hl).1, Nat.lt_of_lt_of_le (h2 hl).2 hb.size⟩, fun i hi j u hu => ?_, h4⟩
  have hl : l ≠ [] := by rintro rfl; simp at hi
  rw [hb.cell (p := ⟨b, o + i * 5 + j, none⟩) (h2 hl).2]
  exact h3 i hi j u hu
/-- What holds of attributes that come in: numbers of 64 bits, names that fit. -/
def Room (l : List Attr) : Prop := ∀ a ∈ l, FitsI a.n ∧ a.nm.size ≤ 140737488351232
theorem Room.at {l : List Attr} (h : Room l) {i : Nat} (hi : i < l.length) : FitsI (l.getD i default).n ∧ (l.getD i default).nm.size ≤ 140737488351232 := by
  rw [List.getD_eq_getElem?_getD, List.getElem?_eq_getElem hi]
  exact h _ (List.getElem_mem hi)

/-- The place of element i. -/
theorem index_attr (p : Option Addr) (b o n cap k : Nat) (hp : p = some ⟨b, o, none⟩) (hk : k < n) (W : World) :
    (Instr.indexAt 35 (.slice p n cap) (.int .i64 (k : Int))).run Tryz.prog W = .ok (.pointer (some ⟨b, o + k * 5, none⟩)) W := by
  subst hp
  go_simp
/-- The five cells of element i. -/
theorem five {w : World} {b o : Nat} {l : List Attr} (h : Cells5 w b o l) {i : Nat} (hi : i < l.length) :
    w.cell? ⟨b, o + i * 5, none⟩ = some (.string (l.getD i default).nm) ∧ w.cell? ⟨b, o + i * 5 + 1, none⟩ = some (.int .i64 (l.getD i default).k) ∧ w.cell? ⟨b, o + i * 5 + 2, none⟩ = some (.int .i64 (l.getD i default).n) ∧
    w.cell? ⟨b, o + i * 5 + 3, none⟩ = some (.string (l.getD i default).s) ∧ w.cell? ⟨b, o + i * 5 + 4, none⟩ = some (.bool (l.getD i default).b) :=
  ⟨h i hi 0 _ rfl, h i hi 1 _ rfl, h i hi 2 _ rfl, h i hi 3 _ rfl, h i hi 4 _ rfl⟩

theorem okUp {l : List Attr} {k : Nat} : (List.range (k + 1)).all (okAt l) = ((List.range k).all (okAt l) && okAt l k) := by
  rw [List.range_succ, List.all_append]; simp
theorem may_false_at {key : ByteArray} {l : List Attr} {k : Nat} (hk : k < l.length) (h : okAt l k = false) : mayE key l = false := by
  have : (List.range l.length).all (okAt l) = false := by
    rw [List.all_eq_false]; exact ⟨k, by simpa using hk, by simp [h]⟩
  simp [mayE, this]

def eqA (x y : Attr) : Bool := x.nm.toList == y.nm.toList && (x.k == y.k && (x.n == y.n && (x.s.toList == y.s.toList && x.b == y.b)))
theorem eqA_iff (x y : Attr) : eqA x y = true ↔ x = y := by
  obtain ⟨nm, k, n, s, b⟩ := x; obtain ⟨nm', k', n', s', b'⟩ := y
  simp only [eqA, toList_data, Bool.and_eq_true, beq_iff_eq, Attr.mk.injEq]
  constructor
  · rintro ⟨h1, h2, h3, h4, h5⟩; exact ⟨bytes_eq h1, h2, h3, bytes_eq h4, h5⟩
  · rintro ⟨rfl, rfl, rfl, rfl, rfl⟩; exact ⟨rfl, rfl, rfl, rfl, rfl⟩
theorem fieldsA : Tryz.prog.fieldsOf 100 = #[⟨"Name", 9, 0, false, "", "", 0⟩, ⟨"Value", 98, 1, false, "", "", 16⟩] := by kernel_rfl
set_option maxRecDepth 20000 in
theorem run_neq_attr (nm : ByteArray) (k n : Int) (s : ByteArray) (b : Bool) (nm' : ByteArray) (k' n' : Int) (s' : ByteArray) (b' : Bool) (w : World) :
    (binOp .neq 100 (.agg #[.string nm, .int .i64 k, .int .i64 n, .string s, .bool b]) (.agg #[.string nm', .int .i64 k', .int .i64 n', .string s', .bool b'])).run Tryz.prog w = .ok (.bool (!eqA ⟨nm, k, n, s, b⟩ ⟨nm', k', n', s', b'⟩)) w := by
  rw [run_neq_struct, run_equalIn_agg _ _ _ _ _ (by kernel_rfl) (by kernel_rfl), fieldsA]
  simp [go_sem, Op.eqFields, Tryz.underlying9]
  by_cases h0 : nm.toList = nm'.toList <;> by_cases h1 : k = k' <;> by_cases h2 : n = n' <;> by_cases h3 : s.toList = s'.toList <;> by_cases h4 : b = b' <;> simp [h0, h1, h2, h3, h4, eqA]
theorem run_guard_attr (nm : ByteArray) (k n : Int) (s : ByteArray) (b : Bool) (nm' : ByteArray) (k' n' : Int) (s' : ByteArray) (b' : Bool) (x y : Operand) (w : World) :
    (eqGuard .neq 100 x y (.agg #[.string nm, .int .i64 k, .int .i64 n, .string s, .bool b]) (.agg #[.string nm', .int .i64 k', .int .i64 n', .string s', .bool b'])).run Tryz.prog w = .ok () w := run_eqGuard_agg _ _ _ _ _ _ _ (by kernel_rfl)
attribute [local go_sem ↓] run_neq_attr run_guard_attr

/-- Whether two rows of attributes are one. -/
def eqL (l l' : List Attr) : Bool := decide (l.length = l'.length) && (List.range l.length).all fun i => eqA (l.getD i default) (l'.getD i default)
theorem eqL_iff (l l' : List Attr) : eqL l l' = true ↔ l = l' := by
  simp only [eqL, Bool.and_eq_true, decide_eq_true_eq, List.all_eq_true, List.mem_range, eqA_iff]
  constructor
  · rintro ⟨h1, h2⟩
    refine List.ext_getElem h1 fun i a b => ?_
    have := h2 i a
    simpa [List.getD_eq_getElem?_getD, List.getElem?_eq_getElem a, List.getElem?_eq_getElem b] using this
  · rintro rfl; exact ⟨rfl, fun _ _ => rfl⟩
theorem eqUp {l l' : List Attr} {k : Nat} : ((List.range (k + 1)).all fun i => eqA (l.getD i default) (l'.getD i default)) = (((List.range k).all fun i => eqA (l.getD i default) (l'.getD i default)) && eqA (l.getD k default) (l'.getD k default)) := by
  rw [List.range_succ, List.all_append]; simp
theorem eqL_false_at {l l' : List Attr} {k : Nat} (hk : k < l.length) (h : eqA (l.getD k default) (l'.getD k default) = false) : eqL l l' = false := by
  have : ((List.range l.length).all fun i => eqA (l.getD i default) (l'.getD i default)) = false := by
    rw [List.all_eq_false]; exact ⟨k, by simpa using hk, by show ¬ eqA (l.getD k default) (l'.getD k default) = true; rw [h]; decide⟩
  unfold eqL; rw [this, Bool.and_false]
def sameB (key : ByteArray) (l : List Attr) (key' : ByteArray) (l' : List Attr) : Bool := key.toList == key'.toList && eqL l l'
theorem sameB_iff (key : ByteArray) (l : List Attr) (key' : ByteArray) (l' : List Attr) : sameB key l key' l' = true ↔ key = key' ∧ l = l' := by
  simp only [sameB, Bool.and_eq_true, eqL_iff, toList_data, beq_iff_eq]
  exact ⟨fun ⟨a, b⟩ => ⟨bytes_eq a, b⟩, fun ⟨a, b⟩ => ⟨by rw [a], b⟩⟩
end Go.Proofs.YtmbfhmjcphoddaaGreatDoor.Gm
