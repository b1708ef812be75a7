/-
  NARROWER THAN 'FOR EVERY INPUT', by the rows' own cells (each row's printed sentence says how): Digest32: laid · Digest16: laid · DigestUpdates: laid · DigestParts: laid · DigestResidue: laid · DigestBursts: laid · DigestLinear: laid.
  DERIVED. THE GIVEN ROWS OF THIS SEAT. 7 by the template 'for every input the law returns true; each argument reads behind the call as it read before'; 0 by the template 'total and deterministic' (their statements: YtijbkjkienjdaaaDoorTotals.lean).
  GIVEN WITH THE SEED: the statements are not yours to turn. If you find one false, say at which input.
  Laid BY PROGRAM, IN A SANDBOX (cutbox-rows.mjs): the forced cells as the released guide's own fill.sh prints them over the translation 9fb368a88e4a5e31… (all of the seat's roots in one cut). By AI agents, Wed Nov 11 2026. No macro, syntax, notation, axiom, sorry.
-/
import Derived.Test.YtijbkjkienjdaaaDoorChecked
import GoSem.Claim
import GoSem.ClaimJoined
import GoSem.ClaimMapViews
import Derived.JoinedTies
import Derived.KernelRfl
namespace Go.Proofs.YtijbkjkienjdaaaDoor
/- THE CELL 'sum', in the pinned program and in every row, IS THE sha256 OF THE DUMP (.gsa) THAT YtijbkjkienjdaaaDoorProg.lean LOADS. Nothing in Lean hashes anything: it is a label: what it is worth is what the hold of that sum in a sandbox is worth. -/
noncomputable def Tryd.pinned : Pinned := { name := "ytijbkjkienjdaaadoor", sum := "9fb368a88e4a5e31b1d61aeeb508c3bd472e0a780c3594a6c362d9927aec27b7", checked := Tryd.checked }
namespace Rows
def none {H : Type} : Left H := { results := [], args := [] }

/- WHAT THE LISTED PACKAGE-LEVEL VARIABLES READ AS WHEN THE CALL BEGINS. Each datum BY PROGRAM (the guide's laid-datum.mjs) off the statement by which the dump's own 'gosem.cut.vars' lays the variable. In a bare row this is a premise. The card (YtijbkjkienjdaaaDoorCards.lean) ties it to the program's text. -/
def laid_capsule_digest_table32 {H : Type} : DataW H := .agg [.lit (.int .u32 0), .lit (.int .u32 274646895), .lit (.int .u32 549293790), .lit (.int .u32 820201905), .lit (.int .u32 1098587580), .lit (.int .u32 1361435347), .lit (.int .u32 1640403810), .lit (.int .u32 1905808397), .lit (.int .u32 2197175160), .lit (.int .u32 2460548119), .lit (.int .u32 2722870694), .lit (.int .u32 2987750089), .lit (.int .u32 3280807620), .lit (.int .u32 3553878443), .lit (.int .u32 3811616794), .lit (.int .u32 4084100981)]
def laid_capsule_digest_table16 {H : Type} : DataW H := .agg [.lit (.int .u16 0), .lit (.int .u16 35767), .lit (.int .u16 40153), .lit (.int .u16 5998), .lit (.int .u16 45573), .lit (.int .u16 14770), .lit (.int .u16 11996), .lit (.int .u16 42347), .lit (.int .u16 61373), .lit (.int .u16 25610), .lit (.int .u16 29540), .lit (.int .u16 63699), .lit (.int .u16 23992), .lit (.int .u16 54799), .lit (.int .u16 49505), .lit (.int .u16 19158)]

/-- 'capsulelaw02.Digest32': WHATEVER THE INPUT: true; the input reads as it did. -/
def digest32Spec : ChangeSpec := { name := "digest32", fn := fun _ => fun
  | [d] => { results := [.lit (.bool true)], args := [d] }
  | _ => none }
def digest32Row : OpenClaim := { program := "ytijbkjkienjdaaadoor", sum := "9fb368a88e4a5e31b1d61aeeb508c3bd472e0a780c3594a6c362d9927aec27b7", func := "capsule/capsulelaw02.Digest32", spec := "digest32", unfollowed := true, recurses := true, named := ["capsule/digest.table32", "capsule/digest.table16"], apart := false, laid := [("capsule/digest.table32", laid_capsule_digest_table32), ("capsule/digest.table16", laid_capsule_digest_table16)] }
def Digest32Said : Prop := digest32Row.holds Tryd.pinned (OpenSpec.ofChange digest32Spec)

/-- ITS FALSE NEIGHBOUR: 'it returns false'. Refute it at one input. -/
def digest32Wrong : ChangeSpec := { name := "digest32", fn := fun _ => fun
  | [d] => { results := [.lit (.bool false)], args := [d] }
  | _ => none }
def Digest32WrongFalsely : Prop := digest32Row.holds Tryd.pinned (OpenSpec.ofChange digest32Wrong)

/-- 'capsulelaw02.Digest16': WHATEVER THE INPUT: true; the input reads as it did. -/
def digest16Spec : ChangeSpec := { name := "digest16", fn := fun _ => fun
  | [d] => { results := [.lit (.bool true)], args := [d] }
  | _ => none }
def digest16Row : OpenClaim := { program := "ytijbkjkienjdaaadoor", sum := "9fb368a88e4a5e31b1d61aeeb508c3bd472e0a780c3594a6c362d9927aec27b7", func := "capsule/capsulelaw02.Digest16", spec := "digest16", unfollowed := true, recurses := true, named := ["capsule/digest.table32", "capsule/digest.table16"], apart := false, laid := [("capsule/digest.table32", laid_capsule_digest_table32), ("capsule/digest.table16", laid_capsule_digest_table16)] }
def Digest16Said : Prop := digest16Row.holds Tryd.pinned (OpenSpec.ofChange digest16Spec)

/-- ITS FALSE NEIGHBOUR: 'it returns false'. Refute it at one input. -/
def digest16Wrong : ChangeSpec := { name := "digest16", fn := fun _ => fun
  | [d] => { results := [.lit (.bool false)], args := [d] }
  | _ => none }
def Digest16WrongFalsely : Prop := digest16Row.holds Tryd.pinned (OpenSpec.ofChange digest16Wrong)

/-- 'capsulelaw02.DigestUpdates': WHATEVER THE INPUT: true; the input reads as it did. -/
def digestUpdatesSpec : ChangeSpec := { name := "digestUpdates", fn := fun _ => fun
  | [d1, d2, d3] => { results := [.lit (.bool true)], args := [d1, d2, d3] }
  | _ => none }
def digestUpdatesRow : OpenClaim := { program := "ytijbkjkienjdaaadoor", sum := "9fb368a88e4a5e31b1d61aeeb508c3bd472e0a780c3594a6c362d9927aec27b7", func := "capsule/capsulelaw02.DigestUpdates", spec := "digestUpdates", unfollowed := true, recurses := true, named := ["capsule/digest.table32", "capsule/digest.table16"], apart := false, laid := [("capsule/digest.table32", laid_capsule_digest_table32), ("capsule/digest.table16", laid_capsule_digest_table16)] }
def DigestUpdatesSaid : Prop := digestUpdatesRow.holds Tryd.pinned (OpenSpec.ofChange digestUpdatesSpec)

/-- ITS FALSE NEIGHBOUR: 'it returns false'. Refute it at one input. -/
def digestUpdatesWrong : ChangeSpec := { name := "digestUpdates", fn := fun _ => fun
  | [d1, d2, d3] => { results := [.lit (.bool false)], args := [d1, d2, d3] }
  | _ => none }
def DigestUpdatesWrongFalsely : Prop := digestUpdatesRow.holds Tryd.pinned (OpenSpec.ofChange digestUpdatesWrong)

/-- 'capsulelaw02.DigestParts': WHATEVER THE INPUT: true; the input reads as it did. -/
def digestPartsSpec : ChangeSpec := { name := "digestParts", fn := fun _ => fun
  | [d] => { results := [.lit (.bool true)], args := [d] }
  | _ => none }
def digestPartsRow : OpenClaim := { program := "ytijbkjkienjdaaadoor", sum := "9fb368a88e4a5e31b1d61aeeb508c3bd472e0a780c3594a6c362d9927aec27b7", func := "capsule/capsulelaw02.DigestParts", spec := "digestParts", unfollowed := true, recurses := true, named := ["capsule/digest.table32", "capsule/digest.table16"], apart := false, laid := [("capsule/digest.table32", laid_capsule_digest_table32), ("capsule/digest.table16", laid_capsule_digest_table16)] }
def DigestPartsSaid : Prop := digestPartsRow.holds Tryd.pinned (OpenSpec.ofChange digestPartsSpec)

/-- ITS FALSE NEIGHBOUR: 'it returns false'. Refute it at one input. -/
def digestPartsWrong : ChangeSpec := { name := "digestParts", fn := fun _ => fun
  | [d] => { results := [.lit (.bool false)], args := [d] }
  | _ => none }
def DigestPartsWrongFalsely : Prop := digestPartsRow.holds Tryd.pinned (OpenSpec.ofChange digestPartsWrong)

/-- 'capsulelaw02.DigestResidue': WHATEVER THE INPUT: true; the input reads as it did. -/
def digestResidueSpec : ChangeSpec := { name := "digestResidue", fn := fun _ => fun
  | [d] => { results := [.lit (.bool true)], args := [d] }
  | _ => none }
def digestResidueRow : OpenClaim := { program := "ytijbkjkienjdaaadoor", sum := "9fb368a88e4a5e31b1d61aeeb508c3bd472e0a780c3594a6c362d9927aec27b7", func := "capsule/capsulelaw02.DigestResidue", spec := "digestResidue", unfollowed := true, recurses := true, named := ["capsule/digest.table32", "capsule/digest.table16"], apart := false, laid := [("capsule/digest.table32", laid_capsule_digest_table32), ("capsule/digest.table16", laid_capsule_digest_table16)] }
def DigestResidueSaid : Prop := digestResidueRow.holds Tryd.pinned (OpenSpec.ofChange digestResidueSpec)

/-- ITS FALSE NEIGHBOUR: 'it returns false'. Refute it at one input. -/
def digestResidueWrong : ChangeSpec := { name := "digestResidue", fn := fun _ => fun
  | [d] => { results := [.lit (.bool false)], args := [d] }
  | _ => none }
def DigestResidueWrongFalsely : Prop := digestResidueRow.holds Tryd.pinned (OpenSpec.ofChange digestResidueWrong)

/-- 'capsulelaw02.DigestBursts': WHATEVER THE INPUT: true; the input reads as it did. -/
def digestBurstsSpec : ChangeSpec := { name := "digestBursts", fn := fun _ => fun
  | [d1, d2, d3] => { results := [.lit (.bool true)], args := [d1, d2, d3] }
  | _ => none }
def digestBurstsRow : OpenClaim := { program := "ytijbkjkienjdaaadoor", sum := "9fb368a88e4a5e31b1d61aeeb508c3bd472e0a780c3594a6c362d9927aec27b7", func := "capsule/capsulelaw02.DigestBursts", spec := "digestBursts", unfollowed := true, recurses := true, named := ["capsule/digest.table32", "capsule/digest.table16"], apart := false, laid := [("capsule/digest.table32", laid_capsule_digest_table32), ("capsule/digest.table16", laid_capsule_digest_table16)] }
def DigestBurstsSaid : Prop := digestBurstsRow.holds Tryd.pinned (OpenSpec.ofChange digestBurstsSpec)

/-- ITS FALSE NEIGHBOUR: 'it returns false'. Refute it at one input. -/
def digestBurstsWrong : ChangeSpec := { name := "digestBursts", fn := fun _ => fun
  | [d1, d2, d3] => { results := [.lit (.bool false)], args := [d1, d2, d3] }
  | _ => none }
def DigestBurstsWrongFalsely : Prop := digestBurstsRow.holds Tryd.pinned (OpenSpec.ofChange digestBurstsWrong)

/-- 'capsulelaw02.DigestLinear': WHATEVER THE INPUT: true; the input reads as it did. -/
def digestLinearSpec : ChangeSpec := { name := "digestLinear", fn := fun _ => fun
  | [d1, d2, d3, d4, d5, d6] => { results := [.lit (.bool true)], args := [d1, d2, d3, d4, d5, d6] }
  | _ => none }
def digestLinearRow : OpenClaim := { program := "ytijbkjkienjdaaadoor", sum := "9fb368a88e4a5e31b1d61aeeb508c3bd472e0a780c3594a6c362d9927aec27b7", func := "capsule/capsulelaw02.DigestLinear", spec := "digestLinear", unfollowed := true, recurses := true, named := ["capsule/digest.table32", "capsule/digest.table16"], apart := false, laid := [("capsule/digest.table32", laid_capsule_digest_table32), ("capsule/digest.table16", laid_capsule_digest_table16)] }
def DigestLinearSaid : Prop := digestLinearRow.holds Tryd.pinned (OpenSpec.ofChange digestLinearSpec)

/-- ITS FALSE NEIGHBOUR: 'it returns false'. Refute it at one input. -/
def digestLinearWrong : ChangeSpec := { name := "digestLinear", fn := fun _ => fun
  | [d1, d2, d3, d4, d5, d6] => { results := [.lit (.bool false)], args := [d1, d2, d3, d4, d5, d6] }
  | _ => none }
def DigestLinearWrongFalsely : Prop := digestLinearRow.holds Tryd.pinned (OpenSpec.ofChange digestLinearWrong)

/- THE SECOND FORM. 'bulk': how many values and letters a reading holds, each counted each time it is reached (what is shared counts as often as it is met; a slice's spare places count too). A statement '..UptoSaid' is the law's where the arguments, and the package variables that the reading takes, are together of bulk at most 1048576: NARROWER than '..Said'. Prove '..Said' where nothing that the law and all that it calls make is longer than what came in: it says more and counts as full. Else prove '..UptoSaid'. A law counts once. -/
mutual
def uptoBulk {H : Type} : DataW H → Nat
  | .lit (.string bytes) => bytes.length + 1
  | .lit _ => 1
  | .nil => 1
  | .ptr d => uptoBulk d + 1
  | .slice elems spare => uptoBulkAll elems + uptoBulkAll spare + 1
  | .agg parts => uptoBulkAll parts + 1
  | .iface _ d => uptoBulk d + 1
  | .map entries => uptoBulkEntries entries + 1
  | .held _ => 1
def uptoBulkAll {H : Type} : List (DataW H) → Nat
  | [] => 0
  | d :: r => uptoBulk d + uptoBulkAll r
def uptoBulkEntries {H : Type} : List (Lit × DataW H) → Nat
  | [] => 0
  | x :: r => uptoBulkEntry x + uptoBulkEntries r
def uptoBulkEntry {H : Type} : Lit × DataW H → Nat
  | (.string bytes, d) => bytes.length + uptoBulk d + 1
  | (_, d) => uptoBulk d + 1
 end
def uptoSmall : (H : Type) → List (DataW H) → Bool := fun _ ds => decide (uptoBulkAll ds ≤ 1048576)
def OpenSpec.upto (s : _root_.Go.ChangeSpec) : _root_.Go.OpenSpec := { _root_.Go.OpenSpec.ofChange s with cond := some uptoSmall }

/-- 'capsulelaw02.Digest32', WHERE WHAT IT READS IS OF BULK AT MOST 1048576: true; the input reads as it did. -/
def digest32UptoRow : OpenClaim := { program := "ytijbkjkienjdaaadoor", sum := "9fb368a88e4a5e31b1d61aeeb508c3bd472e0a780c3594a6c362d9927aec27b7", func := "capsule/capsulelaw02.Digest32", spec := "digest32", unfollowed := true, recurses := true, named := ["capsule/digest.table32", "capsule/digest.table16"], apart := false, laid := [("capsule/digest.table32", laid_capsule_digest_table32), ("capsule/digest.table16", laid_capsule_digest_table16)], narrowed := true }
def Digest32UptoSaid : Prop := digest32UptoRow.holds Tryd.pinned (OpenSpec.upto digest32Spec)

/-- 'capsulelaw02.Digest16', WHERE WHAT IT READS IS OF BULK AT MOST 1048576: true; the input reads as it did. -/
def digest16UptoRow : OpenClaim := { program := "ytijbkjkienjdaaadoor", sum := "9fb368a88e4a5e31b1d61aeeb508c3bd472e0a780c3594a6c362d9927aec27b7", func := "capsule/capsulelaw02.Digest16", spec := "digest16", unfollowed := true, recurses := true, named := ["capsule/digest.table32", "capsule/digest.table16"], apart := false, laid := [("capsule/digest.table32", laid_capsule_digest_table32), ("capsule/digest.table16", laid_capsule_digest_table16)], narrowed := true }
def Digest16UptoSaid : Prop := digest16UptoRow.holds Tryd.pinned (OpenSpec.upto digest16Spec)

/-- 'capsulelaw02.DigestUpdates', WHERE WHAT IT READS IS OF BULK AT MOST 1048576: true; the input reads as it did. -/
def digestUpdatesUptoRow : OpenClaim := { program := "ytijbkjkienjdaaadoor", sum := "9fb368a88e4a5e31b1d61aeeb508c3bd472e0a780c3594a6c362d9927aec27b7", func := "capsule/capsulelaw02.DigestUpdates", spec := "digestUpdates", unfollowed := true, recurses := true, named := ["capsule/digest.table32", "capsule/digest.table16"], apart := false, laid := [("capsule/digest.table32", laid_capsule_digest_table32), ("capsule/digest.table16", laid_capsule_digest_table16)], narrowed := true }
def DigestUpdatesUptoSaid : Prop := digestUpdatesUptoRow.holds Tryd.pinned (OpenSpec.upto digestUpdatesSpec)

/-- 'capsulelaw02.DigestParts', WHERE WHAT IT READS IS OF BULK AT MOST 1048576: true; the input reads as it did. -/
def digestPartsUptoRow : OpenClaim := { program := "ytijbkjkienjdaaadoor", sum := "9fb368a88e4a5e31b1d61aeeb508c3bd472e0a780c3594a6c362d9927aec27b7", func := "capsule/capsulelaw02.DigestParts", spec := "digestParts", unfollowed := true, recurses := true, named := ["capsule/digest.table32", "capsule/digest.table16"], apart := false, laid := [("capsule/digest.table32", laid_capsule_digest_table32), ("capsule/digest.table16", laid_capsule_digest_table16)], narrowed := true }
def DigestPartsUptoSaid : Prop := digestPartsUptoRow.holds Tryd.pinned (OpenSpec.upto digestPartsSpec)

/-- 'capsulelaw02.DigestResidue', WHERE WHAT IT READS IS OF BULK AT MOST 1048576: true; the input reads as it did. -/
def digestResidueUptoRow : OpenClaim := { program := "ytijbkjkienjdaaadoor", sum := "9fb368a88e4a5e31b1d61aeeb508c3bd472e0a780c3594a6c362d9927aec27b7", func := "capsule/capsulelaw02.DigestResidue", spec := "digestResidue", unfollowed := true, recurses := true, named := ["capsule/digest.table32", "capsule/digest.table16"], apart := false, laid := [("capsule/digest.table32", laid_capsule_digest_table32), ("capsule/digest.table16", laid_capsule_digest_table16)], narrowed := true }
def DigestResidueUptoSaid : Prop := digestResidueUptoRow.holds Tryd.pinned (OpenSpec.upto digestResidueSpec)

/-- 'capsulelaw02.DigestBursts', WHERE WHAT IT READS IS OF BULK AT MOST 1048576: true; the input reads as it did. -/
def digestBurstsUptoRow : OpenClaim := { program := "ytijbkjkienjdaaadoor", sum := "9fb368a88e4a5e31b1d61aeeb508c3bd472e0a780c3594a6c362d9927aec27b7", func := "capsule/capsulelaw02.DigestBursts", spec := "digestBursts", unfollowed := true, recurses := true, named := ["capsule/digest.table32", "capsule/digest.table16"], apart := false, laid := [("capsule/digest.table32", laid_capsule_digest_table32), ("capsule/digest.table16", laid_capsule_digest_table16)], narrowed := true }
def DigestBurstsUptoSaid : Prop := digestBurstsUptoRow.holds Tryd.pinned (OpenSpec.upto digestBurstsSpec)

/-- 'capsulelaw02.DigestLinear', WHERE WHAT IT READS IS OF BULK AT MOST 1048576: true; the input reads as it did. -/
def digestLinearUptoRow : OpenClaim := { program := "ytijbkjkienjdaaadoor", sum := "9fb368a88e4a5e31b1d61aeeb508c3bd472e0a780c3594a6c362d9927aec27b7", func := "capsule/capsulelaw02.DigestLinear", spec := "digestLinear", unfollowed := true, recurses := true, named := ["capsule/digest.table32", "capsule/digest.table16"], apart := false, laid := [("capsule/digest.table32", laid_capsule_digest_table32), ("capsule/digest.table16", laid_capsule_digest_table16)], narrowed := true }
def DigestLinearUptoSaid : Prop := digestLinearUptoRow.holds Tryd.pinned (OpenSpec.upto digestLinearSpec)

end Rows
end Go.Proofs.YtijbkjkienjdaaaDoor
