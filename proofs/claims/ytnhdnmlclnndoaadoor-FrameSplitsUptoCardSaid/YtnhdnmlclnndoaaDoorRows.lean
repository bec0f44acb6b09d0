/-
  NARROWER THAN 'FOR EVERY INPUT', by the rows' own cells (each row's printed sentence says how): FramePuts: laid · FrameSplits: laid · FrameBack: laid · FrameTorn: laid · FrameMore: laid · FrameKnown: laid.
  DERIVED. THE GIVEN ROWS OF THIS SEAT. 6 by the template 'for every input the law returns true; each argument reads behind the call as it read before'; 0 by the template 'total and deterministic' (their statements: YtnhdnmlclnndoaaDoorTotals.lean).
  GIVEN WITH THE SEED: the statements are not yours to turn. If you find one false, say at which input.
  Laid BY PROGRAM, IN A SANDBOX (cutbox-rows.mjs): the forced cells as the released guide's own fill.sh prints them over the translation 7a9e5aa9c9bd3698… (all of the seat's roots in one cut). By AI agents, Wed Nov 11 2026. No macro, syntax, notation, axiom, sorry.
-/
import Derived.Test.YtnhdnmlclnndoaaDoorChecked
import GoSem.Claim
import GoSem.ClaimJoined
import GoSem.ClaimMapViews
import Derived.JoinedTies
import Derived.KernelRfl
namespace Go.Proofs.YtnhdnmlclnndoaaDoor
/- THE CELL 'sum', in the pinned program and in every row, IS THE sha256 OF THE DUMP (.gsa) THAT YtnhdnmlclnndoaaDoorProg.lean LOADS. Nothing in Lean hashes anything: it is a label: what it is worth is what the hold of that sum in a sandbox is worth. -/
noncomputable def Tryd.pinned : Pinned := { name := "ytnhdnmlclnndoaadoor", sum := "7a9e5aa9c9bd369865f624dd21fb97819ab3d4279c3c66f955874d8a0ed9fd25", checked := Tryd.checked }
namespace Rows
def none {H : Type} : Left H := { results := [], args := [] }

/- WHAT THE LISTED PACKAGE-LEVEL VARIABLES READ AS WHEN THE CALL BEGINS. Each datum BY PROGRAM (the guide's laid-datum.mjs) off the statement by which the dump's own 'gosem.cut.vars' lays the variable. In a bare row this is a premise. The card (YtnhdnmlclnndoaaDoorCards.lean) ties it to the program's text. -/
def laid_pneumatic_crc_steps {H : Type} : DataW H := .agg [.lit (.int .u32 0), .lit (.int .u32 274646895), .lit (.int .u32 549293790), .lit (.int .u32 820201905), .lit (.int .u32 1098587580), .lit (.int .u32 1361435347), .lit (.int .u32 1640403810), .lit (.int .u32 1905808397), .lit (.int .u32 2197175160), .lit (.int .u32 2460548119), .lit (.int .u32 2722870694), .lit (.int .u32 2987750089), .lit (.int .u32 3280807620), .lit (.int .u32 3553878443), .lit (.int .u32 3811616794), .lit (.int .u32 4084100981)]

/-- 'pneumaticlaw11.FramePuts': WHATEVER THE INPUT: true; the input reads as it did. -/
def framePutsSpec : ChangeSpec := { name := "framePuts", fn := fun _ => fun
  | [d] => { results := [.lit (.bool true)], args := [d] }
  | _ => none }
def framePutsRow : OpenClaim := { program := "ytnhdnmlclnndoaadoor", sum := "7a9e5aa9c9bd369865f624dd21fb97819ab3d4279c3c66f955874d8a0ed9fd25", func := "pneumatic/pneumaticlaw11.FramePuts", spec := "framePuts", unfollowed := true, recurses := true, named := ["pneumatic/crc.steps"], apart := false, laid := [("pneumatic/crc.steps", laid_pneumatic_crc_steps)] }
def FramePutsSaid : Prop := framePutsRow.holds Tryd.pinned (OpenSpec.ofChange framePutsSpec)

/-- ITS FALSE NEIGHBOUR: 'it returns false'. Refute it at one input. -/
def framePutsWrong : ChangeSpec := { name := "framePuts", fn := fun _ => fun
  | [d] => { results := [.lit (.bool false)], args := [d] }
  | _ => none }
def FramePutsWrongFalsely : Prop := framePutsRow.holds Tryd.pinned (OpenSpec.ofChange framePutsWrong)

/-- 'pneumaticlaw11.FrameSplits': WHATEVER THE INPUT: true; the input reads as it did. -/
def frameSplitsSpec : ChangeSpec := { name := "frameSplits", fn := fun _ => fun
  | [d] => { results := [.lit (.bool true)], args := [d] }
  | _ => none }
def frameSplitsRow : OpenClaim := { program := "ytnhdnmlclnndoaadoor", sum := "7a9e5aa9c9bd369865f624dd21fb97819ab3d4279c3c66f955874d8a0ed9fd25", func := "pneumatic/pneumaticlaw11.FrameSplits", spec := "frameSplits", unfollowed := true, recurses := true, named := ["pneumatic/crc.steps"], apart := false, laid := [("pneumatic/crc.steps", laid_pneumatic_crc_steps)] }
def FrameSplitsSaid : Prop := frameSplitsRow.holds Tryd.pinned (OpenSpec.ofChange frameSplitsSpec)

/-- ITS FALSE NEIGHBOUR: 'it returns false'. Refute it at one input. -/
def frameSplitsWrong : ChangeSpec := { name := "frameSplits", fn := fun _ => fun
  | [d] => { results := [.lit (.bool false)], args := [d] }
  | _ => none }
def FrameSplitsWrongFalsely : Prop := frameSplitsRow.holds Tryd.pinned (OpenSpec.ofChange frameSplitsWrong)

/-- 'pneumaticlaw11.FrameBack': WHATEVER THE INPUT: true; the input reads as it did. -/
def frameBackSpec : ChangeSpec := { name := "frameBack", fn := fun _ => fun
  | [d1, d2] => { results := [.lit (.bool true)], args := [d1, d2] }
  | _ => none }
def frameBackRow : OpenClaim := { program := "ytnhdnmlclnndoaadoor", sum := "7a9e5aa9c9bd369865f624dd21fb97819ab3d4279c3c66f955874d8a0ed9fd25", func := "pneumatic/pneumaticlaw11.FrameBack", spec := "frameBack", unfollowed := true, recurses := true, named := ["pneumatic/crc.steps"], apart := false, laid := [("pneumatic/crc.steps", laid_pneumatic_crc_steps)] }
def FrameBackSaid : Prop := frameBackRow.holds Tryd.pinned (OpenSpec.ofChange frameBackSpec)

/-- ITS FALSE NEIGHBOUR: 'it returns false'. Refute it at one input. -/
def frameBackWrong : ChangeSpec := { name := "frameBack", fn := fun _ => fun
  | [d1, d2] => { results := [.lit (.bool false)], args := [d1, d2] }
  | _ => none }
def FrameBackWrongFalsely : Prop := frameBackRow.holds Tryd.pinned (OpenSpec.ofChange frameBackWrong)

/-- 'pneumaticlaw11.FrameTorn': WHATEVER THE INPUT: true; the input reads as it did. -/
def frameTornSpec : ChangeSpec := { name := "frameTorn", fn := fun _ => fun
  | [d1, d2, d3, d4] => { results := [.lit (.bool true)], args := [d1, d2, d3, d4] }
  | _ => none }
def frameTornRow : OpenClaim := { program := "ytnhdnmlclnndoaadoor", sum := "7a9e5aa9c9bd369865f624dd21fb97819ab3d4279c3c66f955874d8a0ed9fd25", func := "pneumatic/pneumaticlaw11.FrameTorn", spec := "frameTorn", unfollowed := true, recurses := true, named := ["pneumatic/crc.steps"], apart := false, laid := [("pneumatic/crc.steps", laid_pneumatic_crc_steps)] }
def FrameTornSaid : Prop := frameTornRow.holds Tryd.pinned (OpenSpec.ofChange frameTornSpec)

/-- ITS FALSE NEIGHBOUR: 'it returns false'. Refute it at one input. -/
def frameTornWrong : ChangeSpec := { name := "frameTorn", fn := fun _ => fun
  | [d1, d2, d3, d4] => { results := [.lit (.bool false)], args := [d1, d2, d3, d4] }
  | _ => none }
def FrameTornWrongFalsely : Prop := frameTornRow.holds Tryd.pinned (OpenSpec.ofChange frameTornWrong)

/-- 'pneumaticlaw11.FrameMore': WHATEVER THE INPUT: true; the input reads as it did. -/
def frameMoreSpec : ChangeSpec := { name := "frameMore", fn := fun _ => fun
  | [d1, d2] => { results := [.lit (.bool true)], args := [d1, d2] }
  | _ => none }
def frameMoreRow : OpenClaim := { program := "ytnhdnmlclnndoaadoor", sum := "7a9e5aa9c9bd369865f624dd21fb97819ab3d4279c3c66f955874d8a0ed9fd25", func := "pneumatic/pneumaticlaw11.FrameMore", spec := "frameMore", unfollowed := true, recurses := true, named := ["pneumatic/crc.steps"], apart := false, laid := [("pneumatic/crc.steps", laid_pneumatic_crc_steps)] }
def FrameMoreSaid : Prop := frameMoreRow.holds Tryd.pinned (OpenSpec.ofChange frameMoreSpec)

/-- ITS FALSE NEIGHBOUR: 'it returns false'. Refute it at one input. -/
def frameMoreWrong : ChangeSpec := { name := "frameMore", fn := fun _ => fun
  | [d1, d2] => { results := [.lit (.bool false)], args := [d1, d2] }
  | _ => none }
def FrameMoreWrongFalsely : Prop := frameMoreRow.holds Tryd.pinned (OpenSpec.ofChange frameMoreWrong)

/-- 'pneumaticlaw11.FrameKnown': WHATEVER THE INPUT: true; the input reads as it did. -/
def frameKnownSpec : ChangeSpec := { name := "frameKnown", fn := fun _ => fun
  | [] => { results := [.lit (.bool true)], args := [] }
  | _ => none }
def frameKnownRow : OpenClaim := { program := "ytnhdnmlclnndoaadoor", sum := "7a9e5aa9c9bd369865f624dd21fb97819ab3d4279c3c66f955874d8a0ed9fd25", func := "pneumatic/pneumaticlaw11.FrameKnown", spec := "frameKnown", unfollowed := true, recurses := true, named := ["pneumatic/crc.steps"], apart := false, laid := [("pneumatic/crc.steps", laid_pneumatic_crc_steps)] }
def FrameKnownSaid : Prop := frameKnownRow.holds Tryd.pinned (OpenSpec.ofChange frameKnownSpec)

/-- ITS FALSE NEIGHBOUR: 'it returns false'. Refute it at one input. -/
def frameKnownWrong : ChangeSpec := { name := "frameKnown", fn := fun _ => fun
  | [] => { results := [.lit (.bool false)], args := [] }
  | _ => none }
def FrameKnownWrongFalsely : Prop := frameKnownRow.holds Tryd.pinned (OpenSpec.ofChange frameKnownWrong)

/- THE SECOND FORM. 'bulk': how many values and letters a reading holds, each counted each time it is reached (what is shared counts as often as it is met; a slice's spare places count too). A statement '..UptoSaid' is the law's where the arguments, and the package variables that the reading takes, are together of bulk at most 1048576: NARROWER than '..Said'. Prove '..Said' where nothing that the law and all that it calls make is longer than what came in: it says more and counts as full. Else prove '..UptoSaid'. A law counts once. -/
mutual
def uptoBulk {H : Type} : DataW H → Nat
  | .lit (.string bytes) => bytes.length + 1
  | .lit _ => 1
  | .nil => 1
  | .ptr d => uptoBulk d + 1
  | .slice elems spare => uptoBulkAll elems + uptoBulkAll spare + 1
  | .agg parts => uptoBulkAll parts + 1
  | .iface _ d => uptoBulk d + 1
  | .map entries => uptoBulkEntries entries + 1
  | .held _ => 1
def uptoBulkAll {H : Type} : List (DataW H) → Nat
  | [] => 0
  | d :: r => uptoBulk d + uptoBulkAll r
def uptoBulkEntries {H : Type} : List (Lit × DataW H) → Nat
  | [] => 0
  | x :: r => uptoBulkEntry x + uptoBulkEntries r
def uptoBulkEntry {H : Type} : Lit × DataW H → Nat
  | (.string bytes, d) => bytes.length + uptoBulk d + 1
  | (_, d) => uptoBulk d + 1
 end
def uptoSmall : (H : Type) → List (DataW H) → Bool := fun _ ds => decide (uptoBulkAll ds ≤ 1048576)
def OpenSpec.upto (s : _root_.Go.ChangeSpec) : _root_.Go.OpenSpec := { _root_.Go.OpenSpec.ofChange s with cond := some uptoSmall }

/-- 'pneumaticlaw11.FramePuts', WHERE WHAT IT READS IS OF BULK AT MOST 1048576: true; the input reads as it did. -/
def framePutsUptoRow : OpenClaim := { program := "ytnhdnmlclnndoaadoor", sum := "7a9e5aa9c9bd369865f624dd21fb97819ab3d4279c3c66f955874d8a0ed9fd25", func := "pneumatic/pneumaticlaw11.FramePuts", spec := "framePuts", unfollowed := true, recurses := true, named := ["pneumatic/crc.steps"], apart := false, laid := [("pneumatic/crc.steps", laid_pneumatic_crc_steps)], narrowed := true }
def FramePutsUptoSaid : Prop := framePutsUptoRow.holds Tryd.pinned (OpenSpec.upto framePutsSpec)

/-- 'pneumaticlaw11.FrameSplits', WHERE WHAT IT READS IS OF BULK AT MOST 1048576: true; the input reads as it did. -/
def frameSplitsUptoRow : OpenClaim := { program := "ytnhdnmlclnndoaadoor", sum := "7a9e5aa9c9bd369865f624dd21fb97819ab3d4279c3c66f955874d8a0ed9fd25", func := "pneumatic/pneumaticlaw11.FrameSplits", spec := "frameSplits", unfollowed := true, recurses := true, named := ["pneumatic/crc.steps"], apart := false, laid := [("pneumatic/crc.steps", laid_pneumatic_crc_steps)], narrowed := true }
def FrameSplitsUptoSaid : Prop := frameSplitsUptoRow.holds Tryd.pinned (OpenSpec.upto frameSplitsSpec)

/-- 'pneumaticlaw11.FrameBack', WHERE WHAT IT READS IS OF BULK AT MOST 1048576: true; the input reads as it did. -/
def frameBackUptoRow : OpenClaim := { program := "ytnhdnmlclnndoaadoor", sum := "7a9e5aa9c9bd369865f624dd21fb97819ab3d4279c3c66f955874d8a0ed9fd25", func := "pneumatic/pneumaticlaw11.FrameBack", spec := "frameBack", unfollowed := true, recurses := true, named := ["pneumatic/crc.steps"], apart := false, laid := [("pneumatic/crc.steps", laid_pneumatic_crc_steps)], narrowed := true }
def FrameBackUptoSaid : Prop := frameBackUptoRow.holds Tryd.pinned (OpenSpec.upto frameBackSpec)

/-- 'pneumaticlaw11.FrameTorn', WHERE WHAT IT READS IS OF BULK AT MOST 1048576: true; the input reads as it did. -/
def frameTornUptoRow : OpenClaim := { program := "ytnhdnmlclnndoaadoor", sum := "7a9e5aa9c9bd369865f624dd21fb97819ab3d4279c3c66f955874d8a0ed9fd25", func := "pneumatic/pneumaticlaw11.FrameTorn", spec := "frameTorn", unfollowed := true, recurses := true, named := ["pneumatic/crc.steps"], apart := false, laid := [("pneumatic/crc.steps", laid_pneumatic_crc_steps)], narrowed := true }
def FrameTornUptoSaid : Prop := frameTornUptoRow.holds Tryd.pinned (OpenSpec.upto frameTornSpec)

/-- 'pneumaticlaw11.FrameMore', WHERE WHAT IT READS IS OF BULK AT MOST 1048576: true; the input reads as it did. -/
def frameMoreUptoRow : OpenClaim := { program := "ytnhdnmlclnndoaadoor", sum := "7a9e5aa9c9bd369865f624dd21fb97819ab3d4279c3c66f955874d8a0ed9fd25", func := "pneumatic/pneumaticlaw11.FrameMore", spec := "frameMore", unfollowed := true, recurses := true, named := ["pneumatic/crc.steps"], apart := false, laid := [("pneumatic/crc.steps", laid_pneumatic_crc_steps)], narrowed := true }
def FrameMoreUptoSaid : Prop := frameMoreUptoRow.holds Tryd.pinned (OpenSpec.upto frameMoreSpec)

/-- 'pneumaticlaw11.FrameKnown', WHERE WHAT IT READS IS OF BULK AT MOST 1048576: true; the input reads as it did. -/
def frameKnownUptoRow : OpenClaim := { program := "ytnhdnmlclnndoaadoor", sum := "7a9e5aa9c9bd369865f624dd21fb97819ab3d4279c3c66f955874d8a0ed9fd25", func := "pneumatic/pneumaticlaw11.FrameKnown", spec := "frameKnown", unfollowed := true, recurses := true, named := ["pneumatic/crc.steps"], apart := false, laid := [("pneumatic/crc.steps", laid_pneumatic_crc_steps)], narrowed := true }
def FrameKnownUptoSaid : Prop := frameKnownUptoRow.holds Tryd.pinned (OpenSpec.upto frameKnownSpec)

end Rows
end Go.Proofs.YtnhdnmlclnndoaaDoor
