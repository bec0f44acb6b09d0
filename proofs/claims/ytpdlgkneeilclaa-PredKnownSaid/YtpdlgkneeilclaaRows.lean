/-
  No cell of these rows narrows 'for every input' (looked for: loops, veiled, ifaces, maps, wideKeys, modest, calm, conditions, laid).
  DERIVED. THE GIVEN ROWS OF THIS SEAT. 6 by the template 'for every input the law returns true; each argument reads behind the call as it read before'; 0 by the template 'total and deterministic' (their statements: YtpdlgkneeilclaaTotals.lean).
  GIVEN WITH THE SEED: the statements are not yours to turn. If you find one false, say at which input.
  Laid BY PROGRAM, IN A SANDBOX (cutbox-rows.mjs): the forced cells as the released guide's own fill.sh prints them over the translation c47533b7327a9e8a… (all of the seat's roots in one cut). By AI agents, Wed Nov 11 2026. No macro, syntax, notation, axiom, sorry.
-/
import Derived.Test.YtpdlgkneeilclaaChecked
import GoSem.Claim
import GoSem.ClaimJoined
import GoSem.ClaimMapViews
import Derived.JoinedTies
import Derived.KernelRfl
namespace Go.Proofs.Ytpdlgkneeilclaa
/- THE CELL 'sum', in the pinned program and in every row, IS THE sha256 OF THE DUMP (.gsa) THAT YtpdlgkneeilclaaProg.lean LOADS. Nothing in Lean hashes anything: it is a label: what it is worth is what the hold of that sum in a sandbox is worth. -/
noncomputable def Try.pinned : Pinned := { name := "ytpdlgkneeilclaa", sum := "c47533b7327a9e8a8e1b3a53ca2085e74de5b5395869c2e1584938c4ae8d68b4", checked := Try.checked }
namespace Rows
def none {H : Type} : Left H := { results := [], args := [] }

/-- 'pneumaticlaw04.PredMay': WHATEVER THE INPUT: true; the input reads as it did. -/
def predMaySpec : ChangeSpec := { name := "predMay", fn := fun _ => fun
  | [d1, d2] => { results := [.lit (.bool true)], args := [d1, d2] }
  | _ => none }
def predMayRow : OpenClaim := { program := "ytpdlgkneeilclaa", sum := "c47533b7327a9e8a8e1b3a53ca2085e74de5b5395869c2e1584938c4ae8d68b4", func := "pneumatic/pneumaticlaw04.PredMay", spec := "predMay", inPlace := ["slices.overlaps[pneumatic/api.Value]", "internal/bytealg.abigen_runtime_cmpstring", "slices.overlaps[pneumatic/api.Constraint]"], unfollowed := true, recurses := true, apart := false }
def PredMaySaid : Prop := predMayRow.holds Try.pinned (OpenSpec.ofChange predMaySpec)

/-- ITS FALSE NEIGHBOUR: 'it returns false'. Refute it at one input. -/
def predMayWrong : ChangeSpec := { name := "predMay", fn := fun _ => fun
  | [d1, d2] => { results := [.lit (.bool false)], args := [d1, d2] }
  | _ => none }
def PredMayWrongFalsely : Prop := predMayRow.holds Try.pinned (OpenSpec.ofChange predMayWrong)

/-- 'pneumaticlaw04.PredHolds': WHATEVER THE INPUT: true; the input reads as it did. -/
def predHoldsSpec : ChangeSpec := { name := "predHolds", fn := fun _ => fun
  | [d1, d2, d3] => { results := [.lit (.bool true)], args := [d1, d2, d3] }
  | _ => none }
def predHoldsRow : OpenClaim := { program := "ytpdlgkneeilclaa", sum := "c47533b7327a9e8a8e1b3a53ca2085e74de5b5395869c2e1584938c4ae8d68b4", func := "pneumatic/pneumaticlaw04.PredHolds", spec := "predHolds", inPlace := ["internal/bytealg.abigen_runtime_cmpstring", "slices.overlaps[pneumatic/api.Value]", "slices.overlaps[pneumatic/api.Constraint]"], unfollowed := true, recurses := true, apart := false }
def PredHoldsSaid : Prop := predHoldsRow.holds Try.pinned (OpenSpec.ofChange predHoldsSpec)

/-- ITS FALSE NEIGHBOUR: 'it returns false'. Refute it at one input. -/
def predHoldsWrong : ChangeSpec := { name := "predHolds", fn := fun _ => fun
  | [d1, d2, d3] => { results := [.lit (.bool false)], args := [d1, d2, d3] }
  | _ => none }
def PredHoldsWrongFalsely : Prop := predHoldsRow.holds Try.pinned (OpenSpec.ofChange predHoldsWrong)

/-- 'pneumaticlaw04.PredNormal': WHATEVER THE INPUT: true; the input reads as it did. -/
def predNormalSpec : ChangeSpec := { name := "predNormal", fn := fun _ => fun
  | [d1, d2] => { results := [.lit (.bool true)], args := [d1, d2] }
  | _ => none }
def predNormalRow : OpenClaim := { program := "ytpdlgkneeilclaa", sum := "c47533b7327a9e8a8e1b3a53ca2085e74de5b5395869c2e1584938c4ae8d68b4", func := "pneumatic/pneumaticlaw04.PredNormal", spec := "predNormal", inPlace := ["slices.overlaps[pneumatic/api.Value]", "internal/bytealg.abigen_runtime_cmpstring", "slices.overlaps[pneumatic/api.Constraint]"], unfollowed := true, recurses := true, apart := false }
def PredNormalSaid : Prop := predNormalRow.holds Try.pinned (OpenSpec.ofChange predNormalSpec)

/-- ITS FALSE NEIGHBOUR: 'it returns false'. Refute it at one input. -/
def predNormalWrong : ChangeSpec := { name := "predNormal", fn := fun _ => fun
  | [d1, d2] => { results := [.lit (.bool false)], args := [d1, d2] }
  | _ => none }
def PredNormalWrongFalsely : Prop := predNormalRow.holds Try.pinned (OpenSpec.ofChange predNormalWrong)

/-- 'pneumaticlaw04.PredMore': WHATEVER THE INPUT: true; the input reads as it did. -/
def predMoreSpec : ChangeSpec := { name := "predMore", fn := fun _ => fun
  | [d1, d2, d3] => { results := [.lit (.bool true)], args := [d1, d2, d3] }
  | _ => none }
def predMoreRow : OpenClaim := { program := "ytpdlgkneeilclaa", sum := "c47533b7327a9e8a8e1b3a53ca2085e74de5b5395869c2e1584938c4ae8d68b4", func := "pneumatic/pneumaticlaw04.PredMore", spec := "predMore", inPlace := ["slices.overlaps[pneumatic/api.Value]", "internal/bytealg.abigen_runtime_cmpstring", "slices.overlaps[pneumatic/api.Constraint]"], unfollowed := true, recurses := true, apart := false }
def PredMoreSaid : Prop := predMoreRow.holds Try.pinned (OpenSpec.ofChange predMoreSpec)

/-- ITS FALSE NEIGHBOUR: 'it returns false'. Refute it at one input. -/
def predMoreWrong : ChangeSpec := { name := "predMore", fn := fun _ => fun
  | [d1, d2, d3] => { results := [.lit (.bool false)], args := [d1, d2, d3] }
  | _ => none }
def PredMoreWrongFalsely : Prop := predMoreRow.holds Try.pinned (OpenSpec.ofChange predMoreWrong)

/-- 'pneumaticlaw04.PredAsks': WHATEVER THE INPUT: true; the input reads as it did. -/
def predAsksSpec : ChangeSpec := { name := "predAsks", fn := fun _ => fun
  | [d1, d2, d3] => { results := [.lit (.bool true)], args := [d1, d2, d3] }
  | _ => none }
def predAsksRow : OpenClaim := { program := "ytpdlgkneeilclaa", sum := "c47533b7327a9e8a8e1b3a53ca2085e74de5b5395869c2e1584938c4ae8d68b4", func := "pneumatic/pneumaticlaw04.PredAsks", spec := "predAsks", inPlace := ["internal/bytealg.abigen_runtime_cmpstring", "slices.overlaps[pneumatic/api.Value]", "slices.overlaps[pneumatic/api.Constraint]"], unfollowed := true, recurses := true, apart := false }
def PredAsksSaid : Prop := predAsksRow.holds Try.pinned (OpenSpec.ofChange predAsksSpec)

/-- ITS FALSE NEIGHBOUR: 'it returns false'. Refute it at one input. -/
def predAsksWrong : ChangeSpec := { name := "predAsks", fn := fun _ => fun
  | [d1, d2, d3] => { results := [.lit (.bool false)], args := [d1, d2, d3] }
  | _ => none }
def PredAsksWrongFalsely : Prop := predAsksRow.holds Try.pinned (OpenSpec.ofChange predAsksWrong)

/-- 'pneumaticlaw04.PredKnown': WHATEVER THE INPUT: true; the input reads as it did. -/
def predKnownSpec : ChangeSpec := { name := "predKnown", fn := fun _ => fun
  | [] => { results := [.lit (.bool true)], args := [] }
  | _ => none }
def predKnownRow : OpenClaim := { program := "ytpdlgkneeilclaa", sum := "c47533b7327a9e8a8e1b3a53ca2085e74de5b5395869c2e1584938c4ae8d68b4", func := "pneumatic/pneumaticlaw04.PredKnown", spec := "predKnown", inPlace := ["slices.overlaps[pneumatic/api.Value]", "internal/bytealg.abigen_runtime_cmpstring", "slices.overlaps[pneumatic/api.Constraint]"], unfollowed := true, recurses := true, apart := false }
def PredKnownSaid : Prop := predKnownRow.holds Try.pinned (OpenSpec.ofChange predKnownSpec)

/-- ITS FALSE NEIGHBOUR: 'it returns false'. Refute it at one input. -/
def predKnownWrong : ChangeSpec := { name := "predKnown", fn := fun _ => fun
  | [] => { results := [.lit (.bool false)], args := [] }
  | _ => none }
def PredKnownWrongFalsely : Prop := predKnownRow.holds Try.pinned (OpenSpec.ofChange predKnownWrong)

/- THE SECOND FORM. 'bulk': how many values and letters a reading holds, each counted each time it is reached (what is shared counts as often as it is met; a slice's spare places count too). A statement '..UptoSaid' is the law's where the arguments, and the package variables that the reading takes, are together of bulk at most 1048576: NARROWER than '..Said'. Prove '..Said' where nothing that the law and all that it calls make is longer than what came in: it says more and counts as full. Else prove '..UptoSaid'. A law counts once. -/
mutual
def uptoBulk {H : Type} : DataW H → Nat
  | .lit (.string bytes) => bytes.length + 1
  | .lit _ => 1
  | .nil => 1
  | .ptr d => uptoBulk d + 1
  | .slice elems spare => uptoBulkAll elems + uptoBulkAll spare + 1
  | .agg parts => uptoBulkAll parts + 1
  | .iface _ d => uptoBulk d + 1
  | .map entries => uptoBulkEntries entries + 1
  | .held _ => 1
def uptoBulkAll {H : Type} : List (DataW H) → Nat
  | [] => 0
  | d :: r => uptoBulk d + uptoBulkAll r
def uptoBulkEntries {H : Type} : List (Lit × DataW H) → Nat
  | [] => 0
  | x :: r => uptoBulkEntry x + uptoBulkEntries r
def uptoBulkEntry {H : Type} : Lit × DataW H → Nat
  | (.string bytes, d) => bytes.length + uptoBulk d + 1
  | (_, d) => uptoBulk d + 1
 end
def uptoSmall : (H : Type) → List (DataW H) → Bool := fun _ ds => decide (uptoBulkAll ds ≤ 1048576)
def OpenSpec.upto (s : _root_.Go.ChangeSpec) : _root_.Go.OpenSpec := { _root_.Go.OpenSpec.ofChange s with cond := some uptoSmall }

/-- 'pneumaticlaw04.PredMay', WHERE WHAT IT READS IS OF BULK AT MOST 1048576: true; the input reads as it did. -/
def predMayUptoRow : OpenClaim := { program := "ytpdlgkneeilclaa", sum := "c47533b7327a9e8a8e1b3a53ca2085e74de5b5395869c2e1584938c4ae8d68b4", func := "pneumatic/pneumaticlaw04.PredMay", spec := "predMay", inPlace := ["slices.overlaps[pneumatic/api.Value]", "internal/bytealg.abigen_runtime_cmpstring", "slices.overlaps[pneumatic/api.Constraint]"], unfollowed := true, recurses := true, apart := false, narrowed := true }
def PredMayUptoSaid : Prop := predMayUptoRow.holds Try.pinned (OpenSpec.upto predMaySpec)

/-- 'pneumaticlaw04.PredHolds', WHERE WHAT IT READS IS OF BULK AT MOST 1048576: true; the input reads as it did. -/
def predHoldsUptoRow : OpenClaim := { program := "ytpdlgkneeilclaa", sum := "c47533b7327a9e8a8e1b3a53ca2085e74de5b5395869c2e1584938c4ae8d68b4", func := "pneumatic/pneumaticlaw04.PredHolds", spec := "predHolds", inPlace := ["internal/bytealg.abigen_runtime_cmpstring", "slices.overlaps[pneumatic/api.Value]", "slices.overlaps[pneumatic/api.Constraint]"], unfollowed := true, recurses := true, apart := false, narrowed := true }
def PredHoldsUptoSaid : Prop := predHoldsUptoRow.holds Try.pinned (OpenSpec.upto predHoldsSpec)

/-- 'pneumaticlaw04.PredNormal', WHERE WHAT IT READS IS OF BULK AT MOST 1048576: true; the input reads as it did. -/
def predNormalUptoRow : OpenClaim := { program := "ytpdlgkneeilclaa", sum := "c47533b7327a9e8a8e1b3a53ca2085e74de5b5395869c2e1584938c4ae8d68b4", func := "pneumatic/pneumaticlaw04.PredNormal", spec := "predNormal", inPlace := ["slices.overlaps[pneumatic/api.Value]", "internal/bytealg.abigen_runtime_cmpstring", "slices.overlaps[pneumatic/api.Constraint]"], unfollowed := true, recurses := true, apart := false, narrowed := true }
def PredNormalUptoSaid : Prop := predNormalUptoRow.holds Try.pinned (OpenSpec.upto predNormalSpec)

/-- 'pneumaticlaw04.PredMore', WHERE WHAT IT READS IS OF BULK AT MOST 1048576: true; the input reads as it did. -/
def predMoreUptoRow : OpenClaim := { program := "ytpdlgkneeilclaa", sum := "c47533b7327a9e8a8e1b3a53ca2085e74de5b5395869c2e1584938c4ae8d68b4", func := "pneumatic/pneumaticlaw04.PredMore", spec := "predMore", inPlace := ["slices.overlaps[pneumatic/api.Value]", "internal/bytealg.abigen_runtime_cmpstring", "slices.overlaps[pneumatic/api.Constraint]"], unfollowed := true, recurses := true, apart := false, narrowed := true }
def PredMoreUptoSaid : Prop := predMoreUptoRow.holds Try.pinned (OpenSpec.upto predMoreSpec)

/-- 'pneumaticlaw04.PredAsks', WHERE WHAT IT READS IS OF BULK AT MOST 1048576: true; the input reads as it did. -/
def predAsksUptoRow : OpenClaim := { program := "ytpdlgkneeilclaa", sum := "c47533b7327a9e8a8e1b3a53ca2085e74de5b5395869c2e1584938c4ae8d68b4", func := "pneumatic/pneumaticlaw04.PredAsks", spec := "predAsks", inPlace := ["internal/bytealg.abigen_runtime_cmpstring", "slices.overlaps[pneumatic/api.Value]", "slices.overlaps[pneumatic/api.Constraint]"], unfollowed := true, recurses := true, apart := false, narrowed := true }
def PredAsksUptoSaid : Prop := predAsksUptoRow.holds Try.pinned (OpenSpec.upto predAsksSpec)

/-- 'pneumaticlaw04.PredKnown', WHERE WHAT IT READS IS OF BULK AT MOST 1048576: true; the input reads as it did. -/
def predKnownUptoRow : OpenClaim := { program := "ytpdlgkneeilclaa", sum := "c47533b7327a9e8a8e1b3a53ca2085e74de5b5395869c2e1584938c4ae8d68b4", func := "pneumatic/pneumaticlaw04.PredKnown", spec := "predKnown", inPlace := ["slices.overlaps[pneumatic/api.Value]", "internal/bytealg.abigen_runtime_cmpstring", "slices.overlaps[pneumatic/api.Constraint]"], unfollowed := true, recurses := true, apart := false, narrowed := true }
def PredKnownUptoSaid : Prop := predKnownUptoRow.holds Try.pinned (OpenSpec.upto predKnownSpec)

end Rows
end Go.Proofs.Ytpdlgkneeilclaa
