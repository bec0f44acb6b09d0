/- What a reader answers, as plain functions (without the document's layer 3). -/
import Derived.Test.YtelocbohiddpgaaGreatDoorGb
import Derived.Test.YtelocbohiddpgaaGreatDoorWf
set_option linter.unusedSimpArgs false
set_option linter.unusedVariables false
namespace Go.Proofs.YtelocbohiddpgaaGreatDoor
open Go.RowKit Gm

theorem err_pos {L : List UInt8} {most c : Nat} (h : readN L most = .err c) : c ≠ 0 := by
  unfold readN at h
  rintro rfl
  split at h
  · cases h
  split at h
  · cases h
  split at h
  · cases h
  split at h
  · cases h
  split at h <;> cases h
/-- What a reading of bytes answers. -/
inductive RB where
  | ok (s : List UInt8) (k : Nat)
  | err (e : Nat)
def readB (L : List UInt8) (most : Int) : RB :=
  if most < 0 then .err 1
  else match readN L most.toNat with
    | .err c => .err c
    | .ok n k => if (L.drop k).length < n then .err 4 else .ok ((L.drop k).take n) (k + n)
def numV (L : List UInt8) (most : Nat) : Nat := match readN L most with
  | .ok n _ => n
  | .err _ => 0
def numE (L : List UInt8) (most : Nat) : Nat := match readN L most with
  | .ok _ _ => 0
  | .err c => c
def numR (L : List UInt8) (most : Nat) : List UInt8 := match readN L most with
  | .ok _ k => L.drop k
  | .err _ => L
/-- The greatest number of 64 bits. -/
def m64 : Nat := 18446744073709551615
def intV (L : List UInt8) : Int := match readN L m64 with
  | .ok n _ => unfoldI n
  | .err _ => 0
def intE (L : List UInt8) : Nat := numE L m64
def intR (L : List UInt8) : List UInt8 := numR L m64
def bytV (L : List UInt8) (most : Int) : List UInt8 := match readB L most with
  | .ok s _ => s
  | .err _ => []
def bytE (L : List UInt8) (most : Int) : Nat := match readB L most with
  | .ok _ _ => 0
  | .err c => c
def bytR (L : List UInt8) (most : Int) : List UInt8 := match readB L most with
  | .ok _ k => L.drop k
  | .err _ => L
/-- What a step of the program's reader leaves: the answer; the reader reads as L'; nothing else has changed, and nothing of it lies but where it lay, or in new memory. -/
def StepE (RdW : World → List Nat → Value → List UInt8 → Prop) (F : List Nat) (r : Value) (L' : List UInt8) (ans : Value) (w : World) (e : Ending) (w' : World) : Prop :=
  e = .returned ans ∧ ∃ F', RdW w' F' r L' ∧ (∀ k ∈ F', k ∈ F ∨ w.heap.size ≤ k) ∧ Only F w w'
/-- Likewise, where bytes are answered in new memory that is not the reader's. -/
def StepB (RdW : World → List Nat → Value → List UInt8 → Prop) (F : List Nat) (r : Value) (L' S : List UInt8) (c : Nat) (w : World) (e : Ending) (w' : World) : Prop :=
  ∃ u, e = .returned (.tuple #[u, .int .i64 c]) ∧ OwnB w' w.heap.size u S ∧ ∃ F', RdW w' F' r L' ∧ (∀ k ∈ F', k ∈ F ∨ w.heap.size ≤ k) ∧ (∀ k ∈ F', u.ownBlock ≠ some k) ∧ Only F w w'
/-- What New leaves. -/
def NewE (RdW : World → List Nat → Value → List UInt8 → Prop) (L : List UInt8) (w : World) (e : Ending) (w' : World) : Prop :=
  ∃ r F, e = .returned r ∧ RdW w' F r L ∧ (∀ k ∈ F, w.heap.size ≤ k) ∧ Below w.heap.size w w'

end Go.Proofs.YtelocbohiddpgaaGreatDoor
