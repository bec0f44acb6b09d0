/- Values and constraints as they lie in memory: their cells. -/
import Derived.Test.YtmbfhmjcphoddaaGreatDoorKr
set_option linter.unusedSimpArgs false
set_option linter.unusedVariables false
namespace Go.Proofs.YtmbfhmjcphoddaaGreatDoor.Gm
open Go Go.RowKit

structure Vl where
  k : Int
  n : Int
  s : ByteArray
  b : Bool
instance : Inhabited Vl := ⟨⟨0, 0, ⟨#[]⟩, false⟩⟩
def encV (x : Vl) : List Value := [.int .i64 x.k, .int .i64 x.n, .string x.s, .bool x.b]
abbrev vv (x : Vl) : Value := .agg #[.int .i64 x.k, .int .i64 x.n, .string x.s, .bool x.b]
/-- A constraint; its Set as it lies in memory, and what it holds. -/
structure Cn where
  nm : ByteArray
  op : Int
  v : Vl
  sp : Option Addr
  sc : Nat
  set : List Vl
instance : Inhabited Cn := ⟨⟨⟨#[]⟩, 0, default, none, 0, []⟩⟩
abbrev Cn.sv (c : Cn) : Value := .slice c.sp c.set.length c.sc
def encC (c : Cn) : List Value := [.string c.nm, .int .i64 c.op, .int .i64 c.v.k, .int .i64 c.v.n, .string c.v.s, .bool c.v.b, .slice c.sp c.set.length c.sc]
abbrev cc (c : Cn) : Value := .agg #[.string c.nm, .int .i64 c.op, .int .i64 c.v.k, .int .i64 c.v.n, .string c.v.s, .bool c.v.b, .slice c.sp c.set.length c.sc]
def bare (c : Cn) : Cn := { c with sp := none, sc := 0 }
theorem encV_length (x : Vl) : (encV x).length = 4 := rfl
theorem encC_length (x : Cn) : (encC x).length = 7 := rfl
theorem encV_one (x : Vl) : ∀ u ∈ encV x, u.oneCell' = true := by
  intro u hu
  simp only [encV, List.mem_cons, List.not_mem_nil, or_false] at hu
  rcases hu with rfl | rfl | rfl | rfl <;> rfl
theorem encC_one (x : Cn) : ∀ u ∈ encC x, u.oneCell' = true := by
  intro u hu
  simp only [encC, List.mem_cons, List.not_mem_nil, or_false] at hu
  rcases hu with rfl | rfl | rfl | rfl | rfl | rfl | rfl <;> rfl

end Go.Proofs.YtmbfhmjcphoddaaGreatDoor.Gm
