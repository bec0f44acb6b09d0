/-
  No cell of these rows narrows 'for every input' (looked for: loops, veiled, ifaces, maps, wideKeys, modest, calm, conditions, laid).
  DERIVED. THE GIVEN ROWS OF THIS SEAT. 3 by the template 'for every input the law returns true; each argument reads behind the call as it read before'; 0 by the template 'total and deterministic' (their statements: YtggcboejdihdiaaTotals.lean).
  GIVEN WITH THE SEED: the statements are not yours to turn. If you find one false, say at which input.
  Laid BY PROGRAM, IN A SANDBOX (cutbox-rows.mjs): the forced cells as the released guide's own fill.sh prints them over the translation d706fff6d2a81250… (all of the seat's roots in one cut). By AI agents, Wed Nov 11 2026. No macro, syntax, notation, axiom, sorry.
-/
import Derived.Test.YtggcboejdihdiaaChecked
import GoSem.Claim
import GoSem.ClaimJoined
import GoSem.ClaimMapViews
import Derived.JoinedTies
import Derived.KernelRfl
namespace Go.Proofs.Ytggcboejdihdiaa
/- THE CELL 'sum', in the pinned program and in every row, IS THE sha256 OF THE DUMP (.gsa) THAT YtggcboejdihdiaaProg.lean LOADS. Nothing in Lean hashes anything: it is a label: what it is worth is what the hold of that sum in a sandbox is worth. -/
noncomputable def Try.pinned : Pinned := { name := "ytggcboejdihdiaa", sum := "d706fff6d2a81250a7f8d0c0798f07d7c02ab0c6bc20611737e1dd0b8f9db93e", checked := Try.checked }
namespace Rows
def none {H : Type} : Left H := { results := [], args := [] }

/-- 'pneumaticlaw06.OverlapCovers': WHATEVER THE INPUT: true; the input reads as it did. -/
def overlapCoversSpec : ChangeSpec := { name := "overlapCovers", fn := fun _ => fun
  | [d1, d2, d3] => { results := [.lit (.bool true)], args := [d1, d2, d3] }
  | _ => none }
def overlapCoversRow : OpenClaim := { program := "ytggcboejdihdiaa", sum := "d706fff6d2a81250a7f8d0c0798f07d7c02ab0c6bc20611737e1dd0b8f9db93e", func := "pneumatic/pneumaticlaw06.OverlapCovers", spec := "overlapCovers", inPlace := ["internal/bytealg.abigen_runtime_cmpstring"], unfollowed := true, recurses := true, apart := false }
def OverlapCoversSaid : Prop := overlapCoversRow.holds Try.pinned (OpenSpec.ofChange overlapCoversSpec)

/-- ITS FALSE NEIGHBOUR: 'it returns false'. Refute it at one input. -/
def overlapCoversWrong : ChangeSpec := { name := "overlapCovers", fn := fun _ => fun
  | [d1, d2, d3] => { results := [.lit (.bool false)], args := [d1, d2, d3] }
  | _ => none }
def OverlapCoversWrongFalsely : Prop := overlapCoversRow.holds Try.pinned (OpenSpec.ofChange overlapCoversWrong)

/-- 'pneumaticlaw06.OverlapApart': WHATEVER THE INPUT: true; the input reads as it did. -/
def overlapApartSpec : ChangeSpec := { name := "overlapApart", fn := fun _ => fun
  | [d1, d2] => { results := [.lit (.bool true)], args := [d1, d2] }
  | _ => none }
def overlapApartRow : OpenClaim := { program := "ytggcboejdihdiaa", sum := "d706fff6d2a81250a7f8d0c0798f07d7c02ab0c6bc20611737e1dd0b8f9db93e", func := "pneumatic/pneumaticlaw06.OverlapApart", spec := "overlapApart", inPlace := ["internal/bytealg.abigen_runtime_cmpstring"], unfollowed := true, recurses := true, apart := false }
def OverlapApartSaid : Prop := overlapApartRow.holds Try.pinned (OpenSpec.ofChange overlapApartSpec)

/-- ITS FALSE NEIGHBOUR: 'it returns false'. Refute it at one input. -/
def overlapApartWrong : ChangeSpec := { name := "overlapApart", fn := fun _ => fun
  | [d1, d2] => { results := [.lit (.bool false)], args := [d1, d2] }
  | _ => none }
def OverlapApartWrongFalsely : Prop := overlapApartRow.holds Try.pinned (OpenSpec.ofChange overlapApartWrong)

/-- 'pneumaticlaw06.OverlapKnown': WHATEVER THE INPUT: true; the input reads as it did. -/
def overlapKnownSpec : ChangeSpec := { name := "overlapKnown", fn := fun _ => fun
  | [] => { results := [.lit (.bool true)], args := [] }
  | _ => none }
def overlapKnownRow : OpenClaim := { program := "ytggcboejdihdiaa", sum := "d706fff6d2a81250a7f8d0c0798f07d7c02ab0c6bc20611737e1dd0b8f9db93e", func := "pneumatic/pneumaticlaw06.OverlapKnown", spec := "overlapKnown", inPlace := ["internal/bytealg.abigen_runtime_cmpstring"], unfollowed := true, recurses := true, apart := false }
def OverlapKnownSaid : Prop := overlapKnownRow.holds Try.pinned (OpenSpec.ofChange overlapKnownSpec)

/-- ITS FALSE NEIGHBOUR: 'it returns false'. Refute it at one input. -/
def overlapKnownWrong : ChangeSpec := { name := "overlapKnown", fn := fun _ => fun
  | [] => { results := [.lit (.bool false)], args := [] }
  | _ => none }
def OverlapKnownWrongFalsely : Prop := overlapKnownRow.holds Try.pinned (OpenSpec.ofChange overlapKnownWrong)

/- THE SECOND FORM. 'bulk': how many values and letters a reading holds, each counted each time it is reached (what is shared counts as often as it is met; a slice's spare places count too). A statement '..UptoSaid' is the law's where the arguments, and the package variables that the reading takes, are together of bulk at most 1048576: NARROWER than '..Said'. Prove '..Said' where nothing that the law and all that it calls make is longer than what came in: it says more and counts as full. Else prove '..UptoSaid'. A law counts once. -/
mutual
def uptoBulk {H : Type} : DataW H → Nat
  | .lit (.string bytes) => bytes.length + 1
  | .lit _ => 1
  | .nil => 1
  | .ptr d => uptoBulk d + 1
  | .slice elems spare => uptoBulkAll elems + uptoBulkAll spare + 1
  | .agg parts => uptoBulkAll parts + 1
  | .iface _ d => uptoBulk d + 1
  | .map entries => uptoBulkEntries entries + 1
  | .held _ => 1
def uptoBulkAll {H : Type} : List (DataW H) → Nat
  | [] => 0
  | d :: r => uptoBulk d + uptoBulkAll r
def uptoBulkEntries {H : Type} : List (Lit × DataW H) → Nat
  | [] => 0
  | x :: r => uptoBulkEntry x + uptoBulkEntries r
def uptoBulkEntry {H : Type} : Lit × DataW H → Nat
  | (.string bytes, d) => bytes.length + uptoBulk d + 1
  | (_, d) => uptoBulk d + 1
 end
def uptoSmall : (H : Type) → List (DataW H) → Bool := fun _ ds => decide (uptoBulkAll ds ≤ 1048576)
def OpenSpec.upto (s : _root_.Go.ChangeSpec) : _root_.Go.OpenSpec := { _root_.Go.OpenSpec.ofChange s with cond := some uptoSmall }

/-- 'pneumaticlaw06.OverlapCovers', WHERE WHAT IT READS IS OF BULK AT MOST 1048576: true; the input reads as it did. -/
def overlapCoversUptoRow : OpenClaim := { program := "ytggcboejdihdiaa", sum := "d706fff6d2a81250a7f8d0c0798f07d7c02ab0c6bc20611737e1dd0b8f9db93e", func := "pneumatic/pneumaticlaw06.OverlapCovers", spec := "overlapCovers", inPlace := ["internal/bytealg.abigen_runtime_cmpstring"], unfollowed := true, recurses := true, apart := false, narrowed := true }
def OverlapCoversUptoSaid : Prop := overlapCoversUptoRow.holds Try.pinned (OpenSpec.upto overlapCoversSpec)

/-- 'pneumaticlaw06.OverlapApart', WHERE WHAT IT READS IS OF BULK AT MOST 1048576: true; the input reads as it did. -/
def overlapApartUptoRow : OpenClaim := { program := "ytggcboejdihdiaa", sum := "d706fff6d2a81250a7f8d0c0798f07d7c02ab0c6bc20611737e1dd0b8f9db93e", func := "pneumatic/pneumaticlaw06.OverlapApart", spec := "overlapApart", inPlace := ["internal/bytealg.abigen_runtime_cmpstring"], unfollowed := true, recurses := true, apart := false, narrowed := true }
def OverlapApartUptoSaid : Prop := overlapApartUptoRow.holds Try.pinned (OpenSpec.upto overlapApartSpec)

/-- 'pneumaticlaw06.OverlapKnown', WHERE WHAT IT READS IS OF BULK AT MOST 1048576: true; the input reads as it did. -/
def overlapKnownUptoRow : OpenClaim := { program := "ytggcboejdihdiaa", sum := "d706fff6d2a81250a7f8d0c0798f07d7c02ab0c6bc20611737e1dd0b8f9db93e", func := "pneumatic/pneumaticlaw06.OverlapKnown", spec := "overlapKnown", inPlace := ["internal/bytealg.abigen_runtime_cmpstring"], unfollowed := true, recurses := true, apart := false, narrowed := true }
def OverlapKnownUptoSaid : Prop := overlapKnownUptoRow.holds Try.pinned (OpenSpec.upto overlapKnownSpec)

end Rows
end Go.Proofs.Ytggcboejdihdiaa
