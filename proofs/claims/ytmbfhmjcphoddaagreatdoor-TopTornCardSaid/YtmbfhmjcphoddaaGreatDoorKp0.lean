/- The contracts of package pred's MayCons and May. -/
import Derived.Test.YtmbfhmjcphoddaaGreatDoorKw0
import Derived.Test.YtmbfhmjcphoddaaGreatDoorKb0
/- The contracts of package pred's maySet, MayCons and May. -/
set_option linter.unusedSimpArgs false
set_option linter.unusedVariables false
namespace Go.Proofs.YtmbfhmjcphoddaaGreatDoor.Gm
open Go Go.RowKit
attribute [local go_sem ↓] Go.wp_at_zero Go.wp_at_succ
attribute [local go_sem ↓] run_eql_val run_guard_val

def mayVl (x : Vl) : Bool := mayB x.k x.n x.s x.b
def bareB (x : Vl) : Bool := eqlVal x.k x.n x.s x.b 0 0 ⟨#[]⟩ false
def maySt (l : List Vl) : Bool := decide (1 ≤ l.length) && decide (l.length ≤ 6) && l.all mayVl
/-- Whether a constraint may be, its name aside. -/
def mayOp (op : Int) (v : Vl) (set : List Vl) : Bool :=
  if op = 1 then bareB v && decide (set.length = 0) else if op = 9 then bareB v && maySt set else if 2 ≤ op ∧ op ≤ 7 then mayVl v && decide (set.length = 0) else if op = 8 then mayVl v && decide (v.k = 2) && decide (set.length = 0) else false
def mayCn (c : Cn) : Bool := decide (1 ≤ c.nm.size) && decide (c.nm.size ≤ 16) && mayOp c.op c.v c.set
def mayPr (l : List Cn) : Bool := decide (l.length ≤ 6) && l.all mayCn
theorem all_step {α : Type} [Inhabited α] {f : α → Bool} {l : List α} {k : Nat} (h : k < l.length) : (l.drop k).all f = (f (l.getD k default) && (l.drop (k + 1)).all f) := by
  rw [List.drop_eq_getElem_cons h, List.all_cons, List.getD_eq_getElem?_getD, List.getElem?_eq_getElem h]
  rfl

abbrev con (nm : ByteArray) (op k n : Int) (s : ByteArray) (x : Bool) (sp : Option Addr) (m sc : Nat) : Value := .agg #[.string nm, .int .i64 op, .int .i64 k, .int .i64 n, .string s, .bool x, .slice sp m sc]
section
variable (nm : ByteArray) (op k n : Int) (s : ByteArray) (x : Bool) (sp : Option Addr) (sc : Nat) (l : List Vl) (w : World)
end
end Go.Proofs.YtmbfhmjcphoddaaGreatDoor.Gm
set_option linter.unusedSimpArgs false
set_option linter.unusedVariables false
namespace Go.Proofs.YtmbfhmjcphoddaaGreatDoor.Gm
open Go Go.RowKit
attribute [local go_sem ↓] Go.wp_at_zero Go.wp_at_succ
attribute [local go_sem ↓] run_eql_val run_guard_val
section
variable (nm : ByteArray) (op k n : Int) (s : ByteArray) (x : Bool) (sp : Option Addr) (sc : Nat) (l : List Vl) (w : World)
end
end Go.Proofs.YtmbfhmjcphoddaaGreatDoor.Gm
