/-
  NARROWER THAN 'FOR EVERY INPUT', by the rows' own cells (each row's printed sentence says how): CrcSums: laid · CrcFrames: laid · CrcTells: laid · CrcBack: laid · CrcParts: laid · CrcLinear: laid · CrcKnown: laid.
  DERIVED. THE GIVEN ROWS OF THIS SEAT. 7 by the template 'for every input the law returns true; each argument reads behind the call as it read before'; 0 by the template 'total and deterministic' (their statements: YthoccemfdndkhaaDoorTotals.lean).
  GIVEN WITH THE SEED: the statements are not yours to turn. If you find one false, say at which input.
  Laid BY PROGRAM, IN A SANDBOX (cutbox-rows.mjs): the forced cells as the released guide's own fill.sh prints them over the translation 6139cc557e6fa11b… (all of the seat's roots in one cut). By AI agents, Wed Nov 11 2026. No macro, syntax, notation, axiom, sorry.
-/
import Derived.Test.YthoccemfdndkhaaDoorChecked
import GoSem.Claim
import GoSem.ClaimJoined
import GoSem.ClaimMapViews
import Derived.JoinedTies
import Derived.KernelRfl
namespace Go.Proofs.YthoccemfdndkhaaDoor
/- THE CELL 'sum', in the pinned program and in every row, IS THE sha256 OF THE DUMP (.gsa) THAT YthoccemfdndkhaaDoorProg.lean LOADS. Nothing in Lean hashes anything: it is a label: what it is worth is what the hold of that sum in a sandbox is worth. -/
noncomputable def Tryd.pinned : Pinned := { name := "ythoccemfdndkhaadoor", sum := "6139cc557e6fa11b5c0b2447c06dcbaed4a88533ad03ac9aac2cc8cbf61e48f3", checked := Tryd.checked }
namespace Rows
def none {H : Type} : Left H := { results := [], args := [] }

/- WHAT THE LISTED PACKAGE-LEVEL VARIABLES READ AS WHEN THE CALL BEGINS. Each datum BY PROGRAM (the guide's laid-datum.mjs) off the statement by which the dump's own 'gosem.cut.vars' lays the variable. In a bare row this is a premise. The card (YthoccemfdndkhaaDoorCards.lean) ties it to the program's text. -/
def laid_pneumatic_crc_steps {H : Type} : DataW H := .agg [.lit (.int .u32 0), .lit (.int .u32 274646895), .lit (.int .u32 549293790), .lit (.int .u32 820201905), .lit (.int .u32 1098587580), .lit (.int .u32 1361435347), .lit (.int .u32 1640403810), .lit (.int .u32 1905808397), .lit (.int .u32 2197175160), .lit (.int .u32 2460548119), .lit (.int .u32 2722870694), .lit (.int .u32 2987750089), .lit (.int .u32 3280807620), .lit (.int .u32 3553878443), .lit (.int .u32 3811616794), .lit (.int .u32 4084100981)]

/-- 'pneumaticlaw09.CrcSums': WHATEVER THE INPUT: true; the input reads as it did. -/
def crcSumsSpec : ChangeSpec := { name := "crcSums", fn := fun _ => fun
  | [d1, d2] => { results := [.lit (.bool true)], args := [d1, d2] }
  | _ => none }
def crcSumsRow : OpenClaim := { program := "ythoccemfdndkhaadoor", sum := "6139cc557e6fa11b5c0b2447c06dcbaed4a88533ad03ac9aac2cc8cbf61e48f3", func := "pneumatic/pneumaticlaw09.CrcSums", spec := "crcSums", unfollowed := true, recurses := true, named := ["pneumatic/crc.steps"], apart := false, laid := [("pneumatic/crc.steps", laid_pneumatic_crc_steps)] }
def CrcSumsSaid : Prop := crcSumsRow.holds Tryd.pinned (OpenSpec.ofChange crcSumsSpec)

/-- ITS FALSE NEIGHBOUR: 'it returns false'. Refute it at one input. -/
def crcSumsWrong : ChangeSpec := { name := "crcSums", fn := fun _ => fun
  | [d1, d2] => { results := [.lit (.bool false)], args := [d1, d2] }
  | _ => none }
def CrcSumsWrongFalsely : Prop := crcSumsRow.holds Tryd.pinned (OpenSpec.ofChange crcSumsWrong)

/-- 'pneumaticlaw09.CrcFrames': WHATEVER THE INPUT: true; the input reads as it did. -/
def crcFramesSpec : ChangeSpec := { name := "crcFrames", fn := fun _ => fun
  | [d1, d2] => { results := [.lit (.bool true)], args := [d1, d2] }
  | _ => none }
def crcFramesRow : OpenClaim := { program := "ythoccemfdndkhaadoor", sum := "6139cc557e6fa11b5c0b2447c06dcbaed4a88533ad03ac9aac2cc8cbf61e48f3", func := "pneumatic/pneumaticlaw09.CrcFrames", spec := "crcFrames", unfollowed := true, recurses := true, named := ["pneumatic/crc.steps"], apart := false, laid := [("pneumatic/crc.steps", laid_pneumatic_crc_steps)] }
def CrcFramesSaid : Prop := crcFramesRow.holds Tryd.pinned (OpenSpec.ofChange crcFramesSpec)

/-- ITS FALSE NEIGHBOUR: 'it returns false'. Refute it at one input. -/
def crcFramesWrong : ChangeSpec := { name := "crcFrames", fn := fun _ => fun
  | [d1, d2] => { results := [.lit (.bool false)], args := [d1, d2] }
  | _ => none }
def CrcFramesWrongFalsely : Prop := crcFramesRow.holds Tryd.pinned (OpenSpec.ofChange crcFramesWrong)

/-- 'pneumaticlaw09.CrcTells': WHATEVER THE INPUT: true; the input reads as it did. -/
def crcTellsSpec : ChangeSpec := { name := "crcTells", fn := fun _ => fun
  | [d1, d2, d3, d4] => { results := [.lit (.bool true)], args := [d1, d2, d3, d4] }
  | _ => none }
def crcTellsRow : OpenClaim := { program := "ythoccemfdndkhaadoor", sum := "6139cc557e6fa11b5c0b2447c06dcbaed4a88533ad03ac9aac2cc8cbf61e48f3", func := "pneumatic/pneumaticlaw09.CrcTells", spec := "crcTells", unfollowed := true, recurses := true, named := ["pneumatic/crc.steps"], apart := false, laid := [("pneumatic/crc.steps", laid_pneumatic_crc_steps)] }
def CrcTellsSaid : Prop := crcTellsRow.holds Tryd.pinned (OpenSpec.ofChange crcTellsSpec)

/-- ITS FALSE NEIGHBOUR: 'it returns false'. Refute it at one input. -/
def crcTellsWrong : ChangeSpec := { name := "crcTells", fn := fun _ => fun
  | [d1, d2, d3, d4] => { results := [.lit (.bool false)], args := [d1, d2, d3, d4] }
  | _ => none }
def CrcTellsWrongFalsely : Prop := crcTellsRow.holds Tryd.pinned (OpenSpec.ofChange crcTellsWrong)

/-- 'pneumaticlaw09.CrcBack': WHATEVER THE INPUT: true; the input reads as it did. -/
def crcBackSpec : ChangeSpec := { name := "crcBack", fn := fun _ => fun
  | [d1, d2] => { results := [.lit (.bool true)], args := [d1, d2] }
  | _ => none }
def crcBackRow : OpenClaim := { program := "ythoccemfdndkhaadoor", sum := "6139cc557e6fa11b5c0b2447c06dcbaed4a88533ad03ac9aac2cc8cbf61e48f3", func := "pneumatic/pneumaticlaw09.CrcBack", spec := "crcBack", unfollowed := true, recurses := true, named := ["pneumatic/crc.steps"], apart := false, laid := [("pneumatic/crc.steps", laid_pneumatic_crc_steps)] }
def CrcBackSaid : Prop := crcBackRow.holds Tryd.pinned (OpenSpec.ofChange crcBackSpec)

/-- ITS FALSE NEIGHBOUR: 'it returns false'. Refute it at one input. -/
def crcBackWrong : ChangeSpec := { name := "crcBack", fn := fun _ => fun
  | [d1, d2] => { results := [.lit (.bool false)], args := [d1, d2] }
  | _ => none }
def CrcBackWrongFalsely : Prop := crcBackRow.holds Tryd.pinned (OpenSpec.ofChange crcBackWrong)

/-- 'pneumaticlaw09.CrcParts': WHATEVER THE INPUT: true; the input reads as it did. -/
def crcPartsSpec : ChangeSpec := { name := "crcParts", fn := fun _ => fun
  | [d1, d2, d3] => { results := [.lit (.bool true)], args := [d1, d2, d3] }
  | _ => none }
def crcPartsRow : OpenClaim := { program := "ythoccemfdndkhaadoor", sum := "6139cc557e6fa11b5c0b2447c06dcbaed4a88533ad03ac9aac2cc8cbf61e48f3", func := "pneumatic/pneumaticlaw09.CrcParts", spec := "crcParts", unfollowed := true, recurses := true, named := ["pneumatic/crc.steps"], apart := false, laid := [("pneumatic/crc.steps", laid_pneumatic_crc_steps)] }
def CrcPartsSaid : Prop := crcPartsRow.holds Tryd.pinned (OpenSpec.ofChange crcPartsSpec)

/-- ITS FALSE NEIGHBOUR: 'it returns false'. Refute it at one input. -/
def crcPartsWrong : ChangeSpec := { name := "crcParts", fn := fun _ => fun
  | [d1, d2, d3] => { results := [.lit (.bool false)], args := [d1, d2, d3] }
  | _ => none }
def CrcPartsWrongFalsely : Prop := crcPartsRow.holds Tryd.pinned (OpenSpec.ofChange crcPartsWrong)

/-- 'pneumaticlaw09.CrcLinear': WHATEVER THE INPUT: true; the input reads as it did. -/
def crcLinearSpec : ChangeSpec := { name := "crcLinear", fn := fun _ => fun
  | [d1, d2, d3] => { results := [.lit (.bool true)], args := [d1, d2, d3] }
  | _ => none }
def crcLinearRow : OpenClaim := { program := "ythoccemfdndkhaadoor", sum := "6139cc557e6fa11b5c0b2447c06dcbaed4a88533ad03ac9aac2cc8cbf61e48f3", func := "pneumatic/pneumaticlaw09.CrcLinear", spec := "crcLinear", unfollowed := true, recurses := true, named := ["pneumatic/crc.steps"], apart := false, laid := [("pneumatic/crc.steps", laid_pneumatic_crc_steps)] }
def CrcLinearSaid : Prop := crcLinearRow.holds Tryd.pinned (OpenSpec.ofChange crcLinearSpec)

/-- ITS FALSE NEIGHBOUR: 'it returns false'. Refute it at one input. -/
def crcLinearWrong : ChangeSpec := { name := "crcLinear", fn := fun _ => fun
  | [d1, d2, d3] => { results := [.lit (.bool false)], args := [d1, d2, d3] }
  | _ => none }
def CrcLinearWrongFalsely : Prop := crcLinearRow.holds Tryd.pinned (OpenSpec.ofChange crcLinearWrong)

/-- 'pneumaticlaw09.CrcKnown': WHATEVER THE INPUT: true; the input reads as it did. -/
def crcKnownSpec : ChangeSpec := { name := "crcKnown", fn := fun _ => fun
  | [] => { results := [.lit (.bool true)], args := [] }
  | _ => none }
def crcKnownRow : OpenClaim := { program := "ythoccemfdndkhaadoor", sum := "6139cc557e6fa11b5c0b2447c06dcbaed4a88533ad03ac9aac2cc8cbf61e48f3", func := "pneumatic/pneumaticlaw09.CrcKnown", spec := "crcKnown", unfollowed := true, recurses := true, named := ["pneumatic/crc.steps"], apart := false, laid := [("pneumatic/crc.steps", laid_pneumatic_crc_steps)] }
def CrcKnownSaid : Prop := crcKnownRow.holds Tryd.pinned (OpenSpec.ofChange crcKnownSpec)

/-- ITS FALSE NEIGHBOUR: 'it returns false'. Refute it at one input. -/
def crcKnownWrong : ChangeSpec := { name := "crcKnown", fn := fun _ => fun
  | [] => { results := [.lit (.bool false)], args := [] }
  | _ => none }
def CrcKnownWrongFalsely : Prop := crcKnownRow.holds Tryd.pinned (OpenSpec.ofChange crcKnownWrong)

/- THE SECOND FORM. 'bulk': how many values and letters a reading holds, each counted each time it is reached (what is shared counts as often as it is met; a slice's spare places count too). A statement '..UptoSaid' is the law's where the arguments, and the package variables that the reading takes, are together of bulk at most 1048576: NARROWER than '..Said'. Prove '..Said' where nothing that the law and all that it calls make is longer than what came in: it says more and counts as full. Else prove '..UptoSaid'. A law counts once. -/
mutual
def uptoBulk {H : Type} : DataW H → Nat
  | .lit (.string bytes) => bytes.length + 1
  | .lit _ => 1
  | .nil => 1
  | .ptr d => uptoBulk d + 1
  | .slice elems spare => uptoBulkAll elems + uptoBulkAll spare + 1
  | .agg parts => uptoBulkAll parts + 1
  | .iface _ d => uptoBulk d + 1
  | .map entries => uptoBulkEntries entries + 1
  | .held _ => 1
def uptoBulkAll {H : Type} : List (DataW H) → Nat
  | [] => 0
  | d :: r => uptoBulk d + uptoBulkAll r
def uptoBulkEntries {H : Type} : List (Lit × DataW H) → Nat
  | [] => 0
  | x :: r => uptoBulkEntry x + uptoBulkEntries r
def uptoBulkEntry {H : Type} : Lit × DataW H → Nat
  | (.string bytes, d) => bytes.length + uptoBulk d + 1
  | (_, d) => uptoBulk d + 1
 end
def uptoSmall : (H : Type) → List (DataW H) → Bool := fun _ ds => decide (uptoBulkAll ds ≤ 1048576)
def OpenSpec.upto (s : _root_.Go.ChangeSpec) : _root_.Go.OpenSpec := { _root_.Go.OpenSpec.ofChange s with cond := some uptoSmall }

/-- 'pneumaticlaw09.CrcSums', WHERE WHAT IT READS IS OF BULK AT MOST 1048576: true; the input reads as it did. -/
def crcSumsUptoRow : OpenClaim := { program := "ythoccemfdndkhaadoor", sum := "6139cc557e6fa11b5c0b2447c06dcbaed4a88533ad03ac9aac2cc8cbf61e48f3", func := "pneumatic/pneumaticlaw09.CrcSums", spec := "crcSums", unfollowed := true, recurses := true, named := ["pneumatic/crc.steps"], apart := false, laid := [("pneumatic/crc.steps", laid_pneumatic_crc_steps)], narrowed := true }
def CrcSumsUptoSaid : Prop := crcSumsUptoRow.holds Tryd.pinned (OpenSpec.upto crcSumsSpec)

/-- 'pneumaticlaw09.CrcFrames', WHERE WHAT IT READS IS OF BULK AT MOST 1048576: true; the input reads as it did. -/
def crcFramesUptoRow : OpenClaim := { program := "ythoccemfdndkhaadoor", sum := "6139cc557e6fa11b5c0b2447c06dcbaed4a88533ad03ac9aac2cc8cbf61e48f3", func := "pneumatic/pneumaticlaw09.CrcFrames", spec := "crcFrames", unfollowed := true, recurses := true, named := ["pneumatic/crc.steps"], apart := false, laid := [("pneumatic/crc.steps", laid_pneumatic_crc_steps)], narrowed := true }
def CrcFramesUptoSaid : Prop := crcFramesUptoRow.holds Tryd.pinned (OpenSpec.upto crcFramesSpec)

/-- 'pneumaticlaw09.CrcTells', WHERE WHAT IT READS IS OF BULK AT MOST 1048576: true; the input reads as it did. -/
def crcTellsUptoRow : OpenClaim := { program := "ythoccemfdndkhaadoor", sum := "6139cc557e6fa11b5c0b2447c06dcbaed4a88533ad03ac9aac2cc8cbf61e48f3", func := "pneumatic/pneumaticlaw09.CrcTells", spec := "crcTells", unfollowed := true, recurses := true, named := ["pneumatic/crc.steps"], apart := false, laid := [("pneumatic/crc.steps", laid_pneumatic_crc_steps)], narrowed := true }
def CrcTellsUptoSaid : Prop := crcTellsUptoRow.holds Tryd.pinned (OpenSpec.upto crcTellsSpec)

/-- 'pneumaticlaw09.CrcBack', WHERE WHAT IT READS IS OF BULK AT MOST 1048576: true; the input reads as it did. -/
def crcBackUptoRow : OpenClaim := { program := "ythoccemfdndkhaadoor", sum := "6139cc557e6fa11b5c0b2447c06dcbaed4a88533ad03ac9aac2cc8cbf61e48f3", func := "pneumatic/pneumaticlaw09.CrcBack", spec := "crcBack", unfollowed := true, recurses := true, named := ["pneumatic/crc.steps"], apart := false, laid := [("pneumatic/crc.steps", laid_pneumatic_crc_steps)], narrowed := true }
def CrcBackUptoSaid : Prop := crcBackUptoRow.holds Tryd.pinned (OpenSpec.upto crcBackSpec)

/-- 'pneumaticlaw09.CrcParts', WHERE WHAT IT READS IS OF BULK AT MOST 1048576: true; the input reads as it did. -/
def crcPartsUptoRow : OpenClaim := { program := "ythoccemfdndkhaadoor", sum := "6139cc557e6fa11b5c0b2447c06dcbaed4a88533ad03ac9aac2cc8cbf61e48f3", func := "pneumatic/pneumaticlaw09.CrcParts", spec := "crcParts", unfollowed := true, recurses := true, named := ["pneumatic/crc.steps"], apart := false, laid := [("pneumatic/crc.steps", laid_pneumatic_crc_steps)], narrowed := true }
def CrcPartsUptoSaid : Prop := crcPartsUptoRow.holds Tryd.pinned (OpenSpec.upto crcPartsSpec)

/-- 'pneumaticlaw09.CrcLinear', WHERE WHAT IT READS IS OF BULK AT MOST 1048576: true; the input reads as it did. -/
def crcLinearUptoRow : OpenClaim := { program := "ythoccemfdndkhaadoor", sum := "6139cc557e6fa11b5c0b2447c06dcbaed4a88533ad03ac9aac2cc8cbf61e48f3", func := "pneumatic/pneumaticlaw09.CrcLinear", spec := "crcLinear", unfollowed := true, recurses := true, named := ["pneumatic/crc.steps"], apart := false, laid := [("pneumatic/crc.steps", laid_pneumatic_crc_steps)], narrowed := true }
def CrcLinearUptoSaid : Prop := crcLinearUptoRow.holds Tryd.pinned (OpenSpec.upto crcLinearSpec)

/-- 'pneumaticlaw09.CrcKnown', WHERE WHAT IT READS IS OF BULK AT MOST 1048576: true; the input reads as it did. -/
def crcKnownUptoRow : OpenClaim := { program := "ythoccemfdndkhaadoor", sum := "6139cc557e6fa11b5c0b2447c06dcbaed4a88533ad03ac9aac2cc8cbf61e48f3", func := "pneumatic/pneumaticlaw09.CrcKnown", spec := "crcKnown", unfollowed := true, recurses := true, named := ["pneumatic/crc.steps"], apart := false, laid := [("pneumatic/crc.steps", laid_pneumatic_crc_steps)], narrowed := true }
def CrcKnownUptoSaid : Prop := crcKnownUptoRow.holds Tryd.pinned (OpenSpec.upto crcKnownSpec)

end Rows
end Go.Proofs.YthoccemfdndkhaaDoor
