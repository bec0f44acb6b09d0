/- The contracts of the small calls of package value: what is made of a number, a text, a truth; what a value has; whether it may be. -/
import Derived.Test.YtmbfhmjcphoddaaGreatDoorRows
import Derived.WalkKit
import Derived.WalkSpells
import Derived.WalkLawsBesides
import Derived.Deep.RegionHeld3
import Derived.Deep.DrawnRows
import Derived.Deep.QuietTactic
import Derived.BigQuiet
set_option linter.unusedSimpArgs false
set_option linter.unusedVariables false
namespace Go.Proofs.YtmbfhmjcphoddaaGreatDoor
open Go.RowKit
attribute [local go_sem ↓] Go.wp_at_zero Go.wp_at_succ

/-- A value of the program's struct type. -/
abbrev val (k n : Int) (s : ByteArray) (b : Bool) : Value := .agg #[.int .i64 k, .int .i64 n, .string s, .bool b]

/-- What a call leaves that returns v and writes nothing that was there. -/
abbrev Gives (v : Value) (w : World) : Ending → World → Prop := fun e w' => e = .returned v ∧ Below w.heap.size w w'

theorem bcell {W w1 : World} (hb : Below W.heap.size W w1) : (∀ b o, b < W.heap.size → w1.cell? ⟨b, o, none⟩ = W.cell? ⟨b, o, none⟩) ∧ (∀ b o, b < W.heap.size → w1.frozen? ⟨b, o, none⟩ = W.frozen? ⟨b, o, none⟩) :=
  ⟨fun b o h => hb.cell (p := ⟨b, o, none⟩) h, fun b o h => hb.frozen (p := ⟨b, o, none⟩) h⟩

theorem number_any (n : Int) (w : World) : Calls Tryz.prog 77 #[.int .i64 n] w (Gives (val 1 n ⟨#[]⟩ false) w) := by
  go_enter Tryz.func77, Tryz.ntmps77
  go_wp2
  exact bodyPost_ret (v := val 1 n ⟨#[]⟩ false) (by simp [results, Tryz.results77, go_sem]) rfl ⟨rfl, (Below.refl _ _).alloc (Nat.le_refl _) _⟩

theorem word_any (s : ByteArray) (w : World) : Calls Tryz.prog 78 #[.string s] w (Gives (val 2 0 s false) w) := by
  go_enter Tryz.func78, Tryz.ntmps78
  go_wp2
  exact bodyPost_ret (v := val 2 0 s false) (by simp [results, Tryz.results78, go_sem]) rfl ⟨rfl, (Below.refl _ _).alloc (Nat.le_refl _) _⟩

theorem truth_any (b : Bool) (w : World) : Calls Tryz.prog 79 #[.bool b] w (Gives (val 3 0 ⟨#[]⟩ b) w) := by
  go_enter Tryz.func79, Tryz.ntmps79
  go_wp2
  exact bodyPost_ret (v := val 3 0 ⟨#[]⟩ b) (by simp [results, Tryz.results79, go_sem]) rfl ⟨rfl, (Below.refl _ _).alloc (Nat.le_refl _) _⟩

theorem content_int (n : Int) (s : ByteArray) (b : Bool) (w : World) : Calls Tryz.prog 76 #[val 1 n s b] w (Gives (.iface 2 (.int .i64 n)) w) := by
  go_enter Tryz.func76, Tryz.ntmps76
  go_wp2
  go_ret
  exact ⟨rfl, (Below.refl _ _).alloc (Nat.le_refl _) _⟩

theorem content_str (n : Int) (s : ByteArray) (b : Bool) (w : World) : Calls Tryz.prog 76 #[val 2 n s b] w (Gives (.iface 9 (.string s)) w) := by
  go_enter Tryz.func76, Tryz.ntmps76
  go_wp2
  go_ret
  exact ⟨rfl, (Below.refl _ _).alloc (Nat.le_refl _) _⟩

theorem content_bool (n : Int) (s : ByteArray) (b : Bool) (w : World) : Calls Tryz.prog 76 #[val 3 n s b] w (Gives (.iface 4 (.bool b)) w) := by
  go_enter Tryz.func76, Tryz.ntmps76
  go_wp2
  go_ret
  exact ⟨rfl, (Below.refl _ _).alloc (Nat.le_refl _) _⟩

theorem content_none (k n : Int) (s : ByteArray) (b : Bool) (w : World) (h1 : (k == 1) = false) (h2 : (k == 2) = false) (h3 : (k == 3) = false) : Calls Tryz.prog 76 #[val k n s b] w (Gives .nilIface w) := by
  go_enter Tryz.func76, Tryz.ntmps76
  go_wp2
  go_ret
  exact ⟨rfl, (Below.refl _ _).alloc (Nat.le_refl _) _⟩


/-! The type-switch's questions: each a closed reckoning over the program's table of types. -/
theorem ask_hit_int (n : Int) (w : World) : (Instr.typeAssert (.iface 2 (.int .i64 n)) 20 2 true).run Tryz.prog w = .ok (.tuple #[.int .i64 n, .bool true]) w := by kernel_rfl
theorem ask_hit_str (s : ByteArray) (w : World) : (Instr.typeAssert (.iface 9 (.string s)) 20 9 true).run Tryz.prog w = .ok (.tuple #[.string s, .bool true]) w := by kernel_rfl
theorem ask_hit_bool (b : Bool) (w : World) : (Instr.typeAssert (.iface 4 (.bool b)) 20 4 true).run Tryz.prog w = .ok (.tuple #[.bool b, .bool true]) w := by kernel_rfl
theorem ask_str_int (s : ByteArray) (w : World) : (Instr.typeAssert (.iface 9 (.string s)) 20 2 true).run Tryz.prog w = .ok (.tuple #[.int .i64 0, .bool false]) w := by kernel_rfl
theorem ask_bool_int (b : Bool) (w : World) : (Instr.typeAssert (.iface 4 (.bool b)) 20 2 true).run Tryz.prog w = .ok (.tuple #[.int .i64 0, .bool false]) w := by kernel_rfl
theorem ask_bool_str (b : Bool) (w : World) : (Instr.typeAssert (.iface 4 (.bool b)) 20 9 true).run Tryz.prog w = .ok (.tuple #[.string ⟨#[]⟩, .bool false]) w := by kernel_rfl
theorem ask_int_str (n : Int) (w : World) : (Instr.typeAssert (.iface 2 (.int .i64 n)) 20 9 true).run Tryz.prog w = .ok (.tuple #[.string ⟨#[]⟩, .bool false]) w := by kernel_rfl
theorem ask_int_bool (n : Int) (w : World) : (Instr.typeAssert (.iface 2 (.int .i64 n)) 20 4 true).run Tryz.prog w = .ok (.tuple #[.bool false, .bool false]) w := by kernel_rfl
theorem ask_str_bool (s : ByteArray) (w : World) : (Instr.typeAssert (.iface 9 (.string s)) 20 4 true).run Tryz.prog w = .ok (.tuple #[.bool false, .bool false]) w := by kernel_rfl
theorem ask_nil_int (w : World) : (Instr.typeAssert .nilIface 20 2 true).run Tryz.prog w = .ok (.tuple #[.int .i64 0, .bool false]) w := by kernel_rfl
theorem ask_nil_str (w : World) : (Instr.typeAssert .nilIface 20 9 true).run Tryz.prog w = .ok (.tuple #[.string ⟨#[]⟩, .bool false]) w := by kernel_rfl
theorem ask_nil_bool (w : World) : (Instr.typeAssert .nilIface 20 4 true).run Tryz.prog w = .ok (.tuple #[.bool false, .bool false]) w := by kernel_rfl
attribute [local go_sem] ask_hit_int ask_hit_str ask_hit_bool ask_str_int ask_bool_int ask_bool_str ask_int_str ask_int_bool ask_str_bool ask_nil_int ask_nil_str ask_nil_bool


/-- '==' of two values: field by field. -/
def eqlVal (k n : Int) (s : ByteArray) (b : Bool) (k' n' : Int) (s' : ByteArray) (b' : Bool) : Bool := k == k' && (n == n' && (s.toList == s'.toList && b == b'))
theorem fields23 : Tryz.prog.fieldsOf 98 = #[⟨"Kind", 3, 0, false, "", "", 0⟩, ⟨"Num", 2, 1, false, "", "", 8⟩, ⟨"Str", 9, 2, false, "", "", 16⟩, ⟨"Bool", 4, 3, false, "", "", 32⟩] := by kernel_rfl
theorem run_eql_val (k n : Int) (s : ByteArray) (b : Bool) (k' n' : Int) (s' : ByteArray) (b' : Bool) (w : World) :
    (binOp .eql 98 (val k n s b) (val k' n' s' b')).run Tryz.prog w = .ok (.bool (eqlVal k n s b k' n' s' b')) w := by
  rw [run_eql_struct, run_equalIn_agg _ _ _ _ _ (by kernel_rfl) (by kernel_rfl), fields23]
  simp [go_sem, Op.eqFields, Tryz.underlying3, Tryz.underlying2, Tryz.underlying9, Tryz.underlying4, eqlVal]
  by_cases h1 : k = k' <;> by_cases h2 : n = n' <;> by_cases h3 : s.toList = s'.toList <;> by_cases h4 : b = b' <;> simp [h1, h2, h3, h4]
theorem run_guard_val (k n : Int) (s : ByteArray) (b : Bool) (k' n' : Int) (s' : ByteArray) (b' : Bool) (x y : Operand) (w : World) :
    (eqGuard .eql 98 x y (val k n s b) (val k' n' s' b')).run Tryz.prog w = .ok () w := run_eqGuard_agg _ _ _ _ _ _ _ (by kernel_rfl)
attribute [local go_sem ↓] run_eql_val run_guard_val

set_option maxRecDepth 20000 in
set_option maxHeartbeats 400000 in
theorem may_none (k n : Int) (s : ByteArray) (b : Bool) (w : World) (h1 : (k == 1) = false) (h2 : (k == 2) = false) (h3 : (k == 3) = false) : Calls Tryz.prog 57 #[val k n s b] w (Gives (.bool false) w) := by
  go_enter Tryz.func57, Tryz.ntmps57
  go_wp2_with (go_at_call 76; refine (content_none k n s b _ h1 h2 h3).mono ?_; rintro e w1 ⟨rfl, hb⟩)
  go_ret
  exact ⟨rfl, (((Below.refl _ _).alloc (Nat.le_refl _) _).trans (hb.mono (by simp)))⟩

/-- Whether a value may be, as the chapter has it. -/
def mayB (k n : Int) (s : ByteArray) (b : Bool) : Bool := if k = 1 then s.toList.isEmpty && !b else if k = 2 then decide (s.size ≤ 32) && (n == 0 && !b) else if k = 3 then n == 0 && s.toList.isEmpty else false

theorem empty_toList : (⟨#[]⟩ : ByteArray).toList = [] := by rw [ByteArray.toList_eq]
theorem eqlVal_int (n : Int) (s : ByteArray) (b : Bool) : eqlVal 1 n s b 1 n ⟨#[]⟩ false = mayB 1 n s b := by
  simp [eqlVal, mayB, empty_toList, List.isEmpty_iff]
theorem eqlVal_str (n : Int) (s : ByteArray) (b : Bool) (h : s.size ≤ 32) : eqlVal 2 n s b 2 0 s false = mayB 2 n s b := by
  simp [eqlVal, mayB, h]
theorem eqlVal_bool (n : Int) (s : ByteArray) (b : Bool) : eqlVal 3 n s b 3 0 ⟨#[]⟩ b = mayB 3 n s b := by
  simp [eqlVal, mayB, empty_toList, List.isEmpty_iff]

set_option maxHeartbeats 400000 in
set_option maxRecDepth 20000 in
theorem may_int (n : Int) (s : ByteArray) (b : Bool) (w : World) : Calls Tryz.prog 57 #[val 1 n s b] w (Gives (.bool (mayB 1 n s b)) w) := by
  go_enter Tryz.func57, Tryz.ntmps57
  go_wp2_with (go_at_call 76; refine (content_int n s b _).mono ?_; rintro e w1 ⟨rfl, hb⟩)
  obtain ⟨hc, hf⟩ := bcell hb
  have hz : w.heap.size < w1.heap.size := by have := hb.size; simp at this; omega
  go_region_held3 (fun w' => w'.cell? ⟨w.heap.size, 0, none⟩ = some (.int .i64 1) ∧ w'.cell? ⟨w.heap.size, 1, none⟩ = some (.int .i64 n) ∧ w'.cell? ⟨w.heap.size, 2, none⟩ = some (.string s) ∧ w'.cell? ⟨w.heap.size, 3, none⟩ = some (.bool b)) (first | go_keep | (repeat' apply And.intro) <;> (refine cell_later (by assumption) ?_; first | assumption | go_keep))
     (first | (go_at_call 77; refine (number_any n _).mono ?_; rintro e w2 ⟨rfl, hb2⟩))
  rename_i hh
  clear hh hc hf
  go_wp2
  go_ret
  exact ⟨congrArg (fun b => Ending.returned (.bool b)) (eqlVal_int n s b), ((((Below.refl _ _).alloc (Nat.le_refl _) _).trans (hb.mono (by simp))).drew).trans (hb2.mono (by simp; omega))⟩

set_option maxHeartbeats 400000 in
set_option maxRecDepth 20000 in
theorem may_bool (n : Int) (s : ByteArray) (b : Bool) (w : World) : Calls Tryz.prog 57 #[val 3 n s b] w (Gives (.bool (mayB 3 n s b)) w) := by
  go_enter Tryz.func57, Tryz.ntmps57
  go_wp2_with (go_at_call 76; refine (content_bool n s b _).mono ?_; rintro e w1 ⟨rfl, hb⟩)
  obtain ⟨hc, hf⟩ := bcell hb
  have hz : w.heap.size < w1.heap.size := by have := hb.size; simp at this; omega
  go_region_held3 (fun w' => w'.cell? ⟨w.heap.size, 0, none⟩ = some (.int .i64 3) ∧ w'.cell? ⟨w.heap.size, 1, none⟩ = some (.int .i64 n) ∧ w'.cell? ⟨w.heap.size, 2, none⟩ = some (.string s) ∧ w'.cell? ⟨w.heap.size, 3, none⟩ = some (.bool b)) (first | go_keep | (repeat' apply And.intro) <;> (refine cell_later (by assumption) ?_; first | assumption | go_keep))
     (first | (go_at_call 79; refine (truth_any b _).mono ?_; rintro e w2 ⟨rfl, hb2⟩))
  rename_i hh
  clear hh hc hf
  go_wp2
  go_ret
  exact ⟨congrArg (fun b => Ending.returned (.bool b)) (eqlVal_bool n s b), ((((Below.refl _ _).alloc (Nat.le_refl _) _).trans (hb.mono (by simp))).drew).trans (hb2.mono (by simp; omega))⟩

set_option maxHeartbeats 400000 in
set_option maxRecDepth 20000 in
theorem may_str_long (n : Int) (s : ByteArray) (b : Bool) (w : World) (h : 32 < s.size) : Calls Tryz.prog 57 #[val 2 n s b] w (Gives (.bool false) w) := by
  have hd : decide ((s.size : Int) ≤ 32) = false := by simp; omega
  go_enter Tryz.func57, Tryz.ntmps57
  go_wp2_with (go_at_call 76; refine (content_str n s b _).mono ?_; rintro e w1 ⟨rfl, hb⟩)
  obtain ⟨hc, hf⟩ := bcell hb
  have hz : w.heap.size < w1.heap.size := by have := hb.size; simp at this; omega
  go_quiet (fail)
  go_wp2
  go_ret
  exact ⟨rfl, below_drewN (((Below.refl _ _).alloc (Nat.le_refl _) _).trans (hb.mono (by simp))) _⟩

set_option maxHeartbeats 400000 in
set_option maxRecDepth 20000 in
theorem may_str (n : Int) (s : ByteArray) (b : Bool) (w : World) (h : s.size ≤ 32) : Calls Tryz.prog 57 #[val 2 n s b] w (Gives (.bool (mayB 2 n s b)) w) := by
  have hd : decide ((s.size : Int) ≤ 32) = true := by simp; omega
  go_enter Tryz.func57, Tryz.ntmps57
  go_wp2_with (go_at_call 76; refine (content_str n s b _).mono ?_; rintro e w1 ⟨rfl, hb⟩)
  obtain ⟨hc, hf⟩ := bcell hb
  have hz : w.heap.size < w1.heap.size := by have := hb.size; simp at this; omega
  go_region_held3 (fun w' => w'.cell? ⟨w.heap.size, 0, none⟩ = some (.int .i64 2) ∧ w'.cell? ⟨w.heap.size, 1, none⟩ = some (.int .i64 n) ∧ w'.cell? ⟨w.heap.size, 2, none⟩ = some (.string s) ∧ w'.cell? ⟨w.heap.size, 3, none⟩ = some (.bool b)) (first | go_keep | (repeat' apply And.intro) <;> (refine cell_later (by assumption) ?_; first | assumption | go_keep))
     (first | (go_at_call 78; refine (word_any s _).mono ?_; rintro e w2 ⟨rfl, hb2⟩))
  rename_i hh
  clear hh hc hf
  go_wp2
  go_ret
  exact ⟨congrArg (fun b => Ending.returned (.bool b)) (eqlVal_str n s b h), ((((Below.refl _ _).alloc (Nat.le_refl _) _).trans (hb.mono (by simp))).drew).trans (hb2.mono (by simp; omega))⟩

theorem may_any (k n : Int) (s : ByteArray) (b : Bool) (w : World) : Calls Tryz.prog 57 #[val k n s b] w (Gives (.bool (mayB k n s b)) w) := by
  by_cases h1 : k = 1
  · subst h1; exact may_int n s b w
  by_cases h2 : k = 2
  · subst h2
    by_cases h : s.size ≤ 32
    · exact may_str n s b w h
    · have := may_str_long n s b w (by omega)
      rwa [show mayB 2 n s b = false by simp [mayB, h]]
  by_cases h3 : k = 3
  · subst h3; exact may_bool n s b w
  · have := may_none k n s b w (by simpa using h1) (by simpa using h2) (by simpa using h3)
    rwa [show mayB k n s b = false by simp [mayB, h1, h2, h3]]
end Go.Proofs.YtmbfhmjcphoddaaGreatDoor
