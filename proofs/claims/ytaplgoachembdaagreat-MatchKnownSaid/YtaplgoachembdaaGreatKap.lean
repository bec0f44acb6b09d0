/- The order of values, as a plain function; a box of four cells. -/
import Derived.Test.YtaplgoachembdaaGreatA
import Derived.Lib.Bytealg
import Derived.Test.YtaplgoachembdaaGreatGm
set_option linter.unusedSimpArgs false
set_option linter.unusedVariables false
namespace Go.Proofs.YtaplgoachembdaaGreat
open Go.RowKit

/-- A value lies in memory from g on. -/
def At4 (w : World) (g : Nat) (k n : Int) (s : ByteArray) (b : Bool) : Prop := w.cell? ⟨g, 0, none⟩ = some (.int .i64 k) ∧ w.cell? ⟨g, 1, none⟩ = some (.int .i64 n) ∧ w.cell? ⟨g, 2, none⟩ = some (.string s) ∧ w.cell? ⟨g, 3, none⟩ = some (.bool b)
theorem At4.new (w : World) (k n : Int) (s : ByteArray) (b : Bool) : At4 (w.alloc (.cells #[.int .i64 k, .int .i64 n, .string s, .bool b] 42)) w.heap.size k n s b := by
  refine ⟨?_, ?_, ?_, ?_⟩ <;> simp
theorem At4.below {w w' : World} {g : Nat} {k n : Int} {s : ByteArray} {b : Bool} (h : At4 w g k n s b) (hb : Below w.heap.size w w') : At4 w' g k n s b :=
  ⟨cell_later hb h.1, cell_later hb h.2.1, cell_later hb h.2.2.1, cell_later hb h.2.2.2⟩
theorem At4.alloc {w : World} {g : Nat} {k n : Int} {s : ByteArray} {b : Bool} (h : At4 w g k n s b) (o : Obj) : At4 (w.alloc o) g k n s b := h.below ((Below.refl _ w).alloc (Nat.le_refl _) o)

def cmpI (x y : Int) : Int := if x < y then -1 else if y < x then 1 else 0
def cmpB (a b : Bool) : Int := if a = b then 0 else if b then -1 else 1
def cmpV (k n : Int) (s : ByteArray) (b : Bool) (k' n' : Int) (s' : ByteArray) (b' : Bool) : Int :=
  if k = k' then (if k = 1 then cmpI n n' else if k = 2 then Lib.compareBytes s.data.toList s'.data.toList else if k = 3 then cmpB b b' else 0) else cmpI k k'

theorem ret_i64 {a b : Int} (h : a = b) : Ending.returned (.int .i64 a) = .returned (.int .i64 b) := by rw [h]
theorem two_new (w : World) (k n : Int) (s : ByteArray) (b : Bool) (k' n' : Int) (s' : ByteArray) (b' : Bool) :
    At4 ((w.alloc (.cells #[.int .i64 k, .int .i64 n, .string s, .bool b] 42)).alloc (.cells #[.int .i64 k', .int .i64 n', .string s', .bool b'] 42)) (w.heap.size + 1) k' n' s' b' := by
  have := At4.new (w.alloc (.cells #[.int .i64 k, .int .i64 n, .string s, .bool b] 42)) k' n' s' b'
  simpa using this

end Go.Proofs.YtaplgoachembdaaGreat
