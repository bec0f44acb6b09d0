/-
  No cell of these rows narrows 'for every input' (looked for: loops, veiled, ifaces, maps, wideKeys, modest, calm, conditions, laid).
  DERIVED. THE GIVEN ROWS OF THIS SEAT. 8 by the template 'for every input the law returns true; each argument reads behind the call as it read before'; 0 by the template 'total and deterministic' (their statements: YtkfheodcmhodpaaTotals.lean).
  GIVEN WITH THE SEED: the statements are not yours to turn. If you find one false, say at which input.
  Laid BY PROGRAM, IN A SANDBOX (cutbox-rows.mjs): the forced cells as the released guide's own fill.sh prints them over the translation c624a79a21b037e8… (all of the seat's roots in one cut). By AI agents, Wed Nov 11 2026. No macro, syntax, notation, axiom, sorry.
-/
import Derived.Test.YtkfheodcmhodpaaChecked
import GoSem.Claim
import GoSem.ClaimJoined
import GoSem.ClaimMapViews
import Derived.JoinedTies
import Derived.KernelRfl
namespace Go.Proofs.Ytkfheodcmhodpaa
/- THE CELL 'sum', in the pinned program and in every row, IS THE sha256 OF THE DUMP (.gsa) THAT YtkfheodcmhodpaaProg.lean LOADS. Nothing in Lean hashes anything: it is a label: what it is worth is what the hold of that sum in a sandbox is worth. -/
noncomputable def Try.pinned : Pinned := { name := "ytkfheodcmhodpaa", sum := "c624a79a21b037e89734aa0daeaf7e53d312232999b40852b903ceaa059011f6", checked := Try.checked }
namespace Rows
def none {H : Type} : Left H := { results := [], args := [] }

/-- 'pneumaticlaw07.CodecEvents': WHATEVER THE INPUT: true; the input reads as it did. -/
def codecEventsSpec : ChangeSpec := { name := "codecEvents", fn := fun _ => fun
  | [d1, d2] => { results := [.lit (.bool true)], args := [d1, d2] }
  | _ => none }
def codecEventsRow : OpenClaim := { program := "ytkfheodcmhodpaa", sum := "c624a79a21b037e89734aa0daeaf7e53d312232999b40852b903ceaa059011f6", func := "pneumatic/pneumaticlaw07.CodecEvents", spec := "codecEvents", unfollowed := true, recurses := true, apart := false }
def CodecEventsSaid : Prop := codecEventsRow.holds Try.pinned (OpenSpec.ofChange codecEventsSpec)

/-- ITS FALSE NEIGHBOUR: 'it returns false'. Refute it at one input. -/
def codecEventsWrong : ChangeSpec := { name := "codecEvents", fn := fun _ => fun
  | [d1, d2] => { results := [.lit (.bool false)], args := [d1, d2] }
  | _ => none }
def CodecEventsWrongFalsely : Prop := codecEventsRow.holds Try.pinned (OpenSpec.ofChange codecEventsWrong)

/-- 'pneumaticlaw07.CodecPreds': WHATEVER THE INPUT: true; the input reads as it did. -/
def codecPredsSpec : ChangeSpec := { name := "codecPreds", fn := fun _ => fun
  | [d1, d2] => { results := [.lit (.bool true)], args := [d1, d2] }
  | _ => none }
def codecPredsRow : OpenClaim := { program := "ytkfheodcmhodpaa", sum := "c624a79a21b037e89734aa0daeaf7e53d312232999b40852b903ceaa059011f6", func := "pneumatic/pneumaticlaw07.CodecPreds", spec := "codecPreds", unfollowed := true, recurses := true, apart := false }
def CodecPredsSaid : Prop := codecPredsRow.holds Try.pinned (OpenSpec.ofChange codecPredsSpec)

/-- ITS FALSE NEIGHBOUR: 'it returns false'. Refute it at one input. -/
def codecPredsWrong : ChangeSpec := { name := "codecPreds", fn := fun _ => fun
  | [d1, d2] => { results := [.lit (.bool false)], args := [d1, d2] }
  | _ => none }
def CodecPredsWrongFalsely : Prop := codecPredsRow.holds Try.pinned (OpenSpec.ofChange codecPredsWrong)

/-- 'pneumaticlaw07.CodecItems': WHATEVER THE INPUT: true; the input reads as it did. -/
def codecItemsSpec : ChangeSpec := { name := "codecItems", fn := fun _ => fun
  | [d1, d2] => { results := [.lit (.bool true)], args := [d1, d2] }
  | _ => none }
def codecItemsRow : OpenClaim := { program := "ytkfheodcmhodpaa", sum := "c624a79a21b037e89734aa0daeaf7e53d312232999b40852b903ceaa059011f6", func := "pneumatic/pneumaticlaw07.CodecItems", spec := "codecItems", unfollowed := true, recurses := true, apart := false }
def CodecItemsSaid : Prop := codecItemsRow.holds Try.pinned (OpenSpec.ofChange codecItemsSpec)

/-- ITS FALSE NEIGHBOUR: 'it returns false'. Refute it at one input. -/
def codecItemsWrong : ChangeSpec := { name := "codecItems", fn := fun _ => fun
  | [d1, d2] => { results := [.lit (.bool false)], args := [d1, d2] }
  | _ => none }
def CodecItemsWrongFalsely : Prop := codecItemsRow.holds Try.pinned (OpenSpec.ofChange codecItemsWrong)

/-- 'pneumaticlaw07.CodecBack': WHATEVER THE INPUT: true; the input reads as it did. -/
def codecBackSpec : ChangeSpec := { name := "codecBack", fn := fun _ => fun
  | [d1, d2, d3, d4] => { results := [.lit (.bool true)], args := [d1, d2, d3, d4] }
  | _ => none }
def codecBackRow : OpenClaim := { program := "ytkfheodcmhodpaa", sum := "c624a79a21b037e89734aa0daeaf7e53d312232999b40852b903ceaa059011f6", func := "pneumatic/pneumaticlaw07.CodecBack", spec := "codecBack", unfollowed := true, recurses := true, apart := false }
def CodecBackSaid : Prop := codecBackRow.holds Try.pinned (OpenSpec.ofChange codecBackSpec)

/-- ITS FALSE NEIGHBOUR: 'it returns false'. Refute it at one input. -/
def codecBackWrong : ChangeSpec := { name := "codecBack", fn := fun _ => fun
  | [d1, d2, d3, d4] => { results := [.lit (.bool false)], args := [d1, d2, d3, d4] }
  | _ => none }
def CodecBackWrongFalsely : Prop := codecBackRow.holds Try.pinned (OpenSpec.ofChange codecBackWrong)

/-- 'pneumaticlaw07.CodecForms': WHATEVER THE INPUT: true; the input reads as it did. -/
def codecFormsSpec : ChangeSpec := { name := "codecForms", fn := fun _ => fun
  | [d1, d2, d3] => { results := [.lit (.bool true)], args := [d1, d2, d3] }
  | _ => none }
def codecFormsRow : OpenClaim := { program := "ytkfheodcmhodpaa", sum := "c624a79a21b037e89734aa0daeaf7e53d312232999b40852b903ceaa059011f6", func := "pneumatic/pneumaticlaw07.CodecForms", spec := "codecForms", unfollowed := true, recurses := true, apart := false }
def CodecFormsSaid : Prop := codecFormsRow.holds Try.pinned (OpenSpec.ofChange codecFormsSpec)

/-- ITS FALSE NEIGHBOUR: 'it returns false'. Refute it at one input. -/
def codecFormsWrong : ChangeSpec := { name := "codecForms", fn := fun _ => fun
  | [d1, d2, d3] => { results := [.lit (.bool false)], args := [d1, d2, d3] }
  | _ => none }
def CodecFormsWrongFalsely : Prop := codecFormsRow.holds Try.pinned (OpenSpec.ofChange codecFormsWrong)

/-- 'pneumaticlaw07.CodecApart': WHATEVER THE INPUT: true; the input reads as it did. -/
def codecApartSpec : ChangeSpec := { name := "codecApart", fn := fun _ => fun
  | [d1, d2, d3, d4] => { results := [.lit (.bool true)], args := [d1, d2, d3, d4] }
  | _ => none }
def codecApartRow : OpenClaim := { program := "ytkfheodcmhodpaa", sum := "c624a79a21b037e89734aa0daeaf7e53d312232999b40852b903ceaa059011f6", func := "pneumatic/pneumaticlaw07.CodecApart", spec := "codecApart", unfollowed := true, recurses := true, apart := false }
def CodecApartSaid : Prop := codecApartRow.holds Try.pinned (OpenSpec.ofChange codecApartSpec)

/-- ITS FALSE NEIGHBOUR: 'it returns false'. Refute it at one input. -/
def codecApartWrong : ChangeSpec := { name := "codecApart", fn := fun _ => fun
  | [d1, d2, d3, d4] => { results := [.lit (.bool false)], args := [d1, d2, d3, d4] }
  | _ => none }
def CodecApartWrongFalsely : Prop := codecApartRow.holds Try.pinned (OpenSpec.ofChange codecApartWrong)

/-- 'pneumaticlaw07.CodecNested': WHATEVER THE INPUT: true; the input reads as it did. -/
def codecNestedSpec : ChangeSpec := { name := "codecNested", fn := fun _ => fun
  | [d1, d2] => { results := [.lit (.bool true)], args := [d1, d2] }
  | _ => none }
def codecNestedRow : OpenClaim := { program := "ytkfheodcmhodpaa", sum := "c624a79a21b037e89734aa0daeaf7e53d312232999b40852b903ceaa059011f6", func := "pneumatic/pneumaticlaw07.CodecNested", spec := "codecNested", unfollowed := true, recurses := true, apart := false }
def CodecNestedSaid : Prop := codecNestedRow.holds Try.pinned (OpenSpec.ofChange codecNestedSpec)

/-- ITS FALSE NEIGHBOUR: 'it returns false'. Refute it at one input. -/
def codecNestedWrong : ChangeSpec := { name := "codecNested", fn := fun _ => fun
  | [d1, d2] => { results := [.lit (.bool false)], args := [d1, d2] }
  | _ => none }
def CodecNestedWrongFalsely : Prop := codecNestedRow.holds Try.pinned (OpenSpec.ofChange codecNestedWrong)

/-- 'pneumaticlaw07.CodecKnown': WHATEVER THE INPUT: true; the input reads as it did. -/
def codecKnownSpec : ChangeSpec := { name := "codecKnown", fn := fun _ => fun
  | [] => { results := [.lit (.bool true)], args := [] }
  | _ => none }
def codecKnownRow : OpenClaim := { program := "ytkfheodcmhodpaa", sum := "c624a79a21b037e89734aa0daeaf7e53d312232999b40852b903ceaa059011f6", func := "pneumatic/pneumaticlaw07.CodecKnown", spec := "codecKnown", unfollowed := true, recurses := true, apart := false }
def CodecKnownSaid : Prop := codecKnownRow.holds Try.pinned (OpenSpec.ofChange codecKnownSpec)

/-- ITS FALSE NEIGHBOUR: 'it returns false'. Refute it at one input. -/
def codecKnownWrong : ChangeSpec := { name := "codecKnown", fn := fun _ => fun
  | [] => { results := [.lit (.bool false)], args := [] }
  | _ => none }
def CodecKnownWrongFalsely : Prop := codecKnownRow.holds Try.pinned (OpenSpec.ofChange codecKnownWrong)

/- THE SECOND FORM. 'bulk': how many values and letters a reading holds, each counted each time it is reached (what is shared counts as often as it is met; a slice's spare places count too). A statement '..UptoSaid' is the law's where the arguments, and the package variables that the reading takes, are together of bulk at most 1048576: NARROWER than '..Said'. Prove '..Said' where nothing that the law and all that it calls make is longer than what came in: it says more and counts as full. Else prove '..UptoSaid'. A law counts once. -/
mutual
def uptoBulk {H : Type} : DataW H → Nat
  | .lit (.string bytes) => bytes.length + 1
  | .lit _ => 1
  | .nil => 1
  | .ptr d => uptoBulk d + 1
  | .slice elems spare => uptoBulkAll elems + uptoBulkAll spare + 1
  | .agg parts => uptoBulkAll parts + 1
  | .iface _ d => uptoBulk d + 1
  | .map entries => uptoBulkEntries entries + 1
  | .held _ => 1
def uptoBulkAll {H : Type} : List (DataW H) → Nat
  | [] => 0
  | d :: r => uptoBulk d + uptoBulkAll r
def uptoBulkEntries {H : Type} : List (Lit × DataW H) → Nat
  | [] => 0
  | x :: r => uptoBulkEntry x + uptoBulkEntries r
def uptoBulkEntry {H : Type} : Lit × DataW H → Nat
  | (.string bytes, d) => bytes.length + uptoBulk d + 1
  | (_, d) => uptoBulk d + 1
 end
def uptoSmall : (H : Type) → List (DataW H) → Bool := fun _ ds => decide (uptoBulkAll ds ≤ 1048576)
def OpenSpec.upto (s : _root_.Go.ChangeSpec) : _root_.Go.OpenSpec := { _root_.Go.OpenSpec.ofChange s with cond := some uptoSmall }

/-- 'pneumaticlaw07.CodecEvents', WHERE WHAT IT READS IS OF BULK AT MOST 1048576: true; the input reads as it did. -/
def codecEventsUptoRow : OpenClaim := { program := "ytkfheodcmhodpaa", sum := "c624a79a21b037e89734aa0daeaf7e53d312232999b40852b903ceaa059011f6", func := "pneumatic/pneumaticlaw07.CodecEvents", spec := "codecEvents", unfollowed := true, recurses := true, apart := false, narrowed := true }
def CodecEventsUptoSaid : Prop := codecEventsUptoRow.holds Try.pinned (OpenSpec.upto codecEventsSpec)

/-- 'pneumaticlaw07.CodecPreds', WHERE WHAT IT READS IS OF BULK AT MOST 1048576: true; the input reads as it did. -/
def codecPredsUptoRow : OpenClaim := { program := "ytkfheodcmhodpaa", sum := "c624a79a21b037e89734aa0daeaf7e53d312232999b40852b903ceaa059011f6", func := "pneumatic/pneumaticlaw07.CodecPreds", spec := "codecPreds", unfollowed := true, recurses := true, apart := false, narrowed := true }
def CodecPredsUptoSaid : Prop := codecPredsUptoRow.holds Try.pinned (OpenSpec.upto codecPredsSpec)

/-- 'pneumaticlaw07.CodecItems', WHERE WHAT IT READS IS OF BULK AT MOST 1048576: true; the input reads as it did. -/
def codecItemsUptoRow : OpenClaim := { program := "ytkfheodcmhodpaa", sum := "c624a79a21b037e89734aa0daeaf7e53d312232999b40852b903ceaa059011f6", func := "pneumatic/pneumaticlaw07.CodecItems", spec := "codecItems", unfollowed := true, recurses := true, apart := false, narrowed := true }
def CodecItemsUptoSaid : Prop := codecItemsUptoRow.holds Try.pinned (OpenSpec.upto codecItemsSpec)

/-- 'pneumaticlaw07.CodecBack', WHERE WHAT IT READS IS OF BULK AT MOST 1048576: true; the input reads as it did. -/
def codecBackUptoRow : OpenClaim := { program := "ytkfheodcmhodpaa", sum := "c624a79a21b037e89734aa0daeaf7e53d312232999b40852b903ceaa059011f6", func := "pneumatic/pneumaticlaw07.CodecBack", spec := "codecBack", unfollowed := true, recurses := true, apart := false, narrowed := true }
def CodecBackUptoSaid : Prop := codecBackUptoRow.holds Try.pinned (OpenSpec.upto codecBackSpec)

/-- 'pneumaticlaw07.CodecForms', WHERE WHAT IT READS IS OF BULK AT MOST 1048576: true; the input reads as it did. -/
def codecFormsUptoRow : OpenClaim := { program := "ytkfheodcmhodpaa", sum := "c624a79a21b037e89734aa0daeaf7e53d312232999b40852b903ceaa059011f6", func := "pneumatic/pneumaticlaw07.CodecForms", spec := "codecForms", unfollowed := true, recurses := true, apart := false, narrowed := true }
def CodecFormsUptoSaid : Prop := codecFormsUptoRow.holds Try.pinned (OpenSpec.upto codecFormsSpec)

/-- 'pneumaticlaw07.CodecApart', WHERE WHAT IT READS IS OF BULK AT MOST 1048576: true; the input reads as it did. -/
def codecApartUptoRow : OpenClaim := { program := "ytkfheodcmhodpaa", sum := "c624a79a21b037e89734aa0daeaf7e53d312232999b40852b903ceaa059011f6", func := "pneumatic/pneumaticlaw07.CodecApart", spec := "codecApart", unfollowed := true, recurses := true, apart := false, narrowed := true }
def CodecApartUptoSaid : Prop := codecApartUptoRow.holds Try.pinned (OpenSpec.upto codecApartSpec)

/-- 'pneumaticlaw07.CodecNested', WHERE WHAT IT READS IS OF BULK AT MOST 1048576: true; the input reads as it did. -/
def codecNestedUptoRow : OpenClaim := { program := "ytkfheodcmhodpaa", sum := "c624a79a21b037e89734aa0daeaf7e53d312232999b40852b903ceaa059011f6", func := "pneumatic/pneumaticlaw07.CodecNested", spec := "codecNested", unfollowed := true, recurses := true, apart := false, narrowed := true }
def CodecNestedUptoSaid : Prop := codecNestedUptoRow.holds Try.pinned (OpenSpec.upto codecNestedSpec)

/-- 'pneumaticlaw07.CodecKnown', WHERE WHAT IT READS IS OF BULK AT MOST 1048576: true; the input reads as it did. -/
def codecKnownUptoRow : OpenClaim := { program := "ytkfheodcmhodpaa", sum := "c624a79a21b037e89734aa0daeaf7e53d312232999b40852b903ceaa059011f6", func := "pneumatic/pneumaticlaw07.CodecKnown", spec := "codecKnown", unfollowed := true, recurses := true, apart := false, narrowed := true }
def CodecKnownUptoSaid : Prop := codecKnownUptoRow.holds Try.pinned (OpenSpec.upto codecKnownSpec)

end Rows
end Go.Proofs.Ytkfheodcmhodpaa
