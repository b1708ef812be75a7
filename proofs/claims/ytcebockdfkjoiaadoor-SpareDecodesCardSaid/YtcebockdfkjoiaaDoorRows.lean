/-
  NARROWER THAN 'FOR EVERY INPUT', by the rows' own cells (each row's printed sentence says how): SpareEncodes: laid · SpareDecodes: laid · SpareNames: laid · SpareTorn: laid · SpareHolds: laid.
  DERIVED. THE GIVEN ROWS OF THIS SEAT. 5 by the template 'for every input the law returns true; each argument reads behind the call as it read before'; 0 by the template 'total and deterministic' (their statements: YtcebockdfkjoiaaDoorTotals.lean).
  GIVEN WITH THE SEED: the statements are not yours to turn. If you find one false, say at which input.
  Laid BY PROGRAM, IN A SANDBOX (cutbox-rows.mjs): the forced cells as the released guide's own fill.sh prints them over the translation f1898c8632518eb9… (all of the seat's roots in one cut). By AI agents, Wed Nov 11 2026. No macro, syntax, notation, axiom, sorry.
-/
import Derived.Test.YtcebockdfkjoiaaDoorChecked
import GoSem.Claim
import GoSem.ClaimJoined
import GoSem.ClaimMapViews
import Derived.JoinedTies
import Derived.KernelRfl
namespace Go.Proofs.YtcebockdfkjoiaaDoor
/- THE CELL 'sum', in the pinned program and in every row, IS THE sha256 OF THE DUMP (.gsa) THAT YtcebockdfkjoiaaDoorProg.lean LOADS. Nothing in Lean hashes anything: it is a label: what it is worth is what the hold of that sum in a sandbox is worth. -/
noncomputable def Tryd.pinned : Pinned := { name := "ytcebockdfkjoiaadoor", sum := "f1898c8632518eb9854460953f8d126857ad43e62570a3c45ecb0ff54042cb95", checked := Tryd.checked }
namespace Rows
def none {H : Type} : Left H := { results := [], args := [] }

/- WHAT THE LISTED PACKAGE-LEVEL VARIABLES READ AS WHEN THE CALL BEGINS. Each datum BY PROGRAM (the guide's laid-datum.mjs) off the statement by which the dump's own 'gosem.cut.vars' lays the variable. In a bare row this is a premise. The card (YtcebockdfkjoiaaDoorCards.lean) ties it to the program's text. -/
def laid_capsule_digest_table32 {H : Type} : DataW H := .agg [.lit (.int .u32 0), .lit (.int .u32 274646895), .lit (.int .u32 549293790), .lit (.int .u32 820201905), .lit (.int .u32 1098587580), .lit (.int .u32 1361435347), .lit (.int .u32 1640403810), .lit (.int .u32 1905808397), .lit (.int .u32 2197175160), .lit (.int .u32 2460548119), .lit (.int .u32 2722870694), .lit (.int .u32 2987750089), .lit (.int .u32 3280807620), .lit (.int .u32 3553878443), .lit (.int .u32 3811616794), .lit (.int .u32 4084100981)]
def laid_capsule_spare_names {H : Type} : DataW H := .agg [.lit (.string []), .lit (.string [100, 97, 116, 97]), .lit (.string [100, 101, 108, 116, 97]), .lit (.string [99, 104, 101, 99, 107, 112, 111, 105, 110, 116])]

/-- 'capsulelaw05.SpareEncodes': WHATEVER THE INPUT: true; the input reads as it did. -/
def spareEncodesSpec : ChangeSpec := { name := "spareEncodes", fn := fun _ => fun
  | [d1, d2] => { results := [.lit (.bool true)], args := [d1, d2] }
  | _ => none }
def spareEncodesRow : OpenClaim := { program := "ytcebockdfkjoiaadoor", sum := "f1898c8632518eb9854460953f8d126857ad43e62570a3c45ecb0ff54042cb95", func := "capsule/capsulelaw05.SpareEncodes", spec := "spareEncodes", unfollowed := true, recurses := true, named := ["capsule/digest.table32"], apart := false, laid := [("capsule/digest.table32", laid_capsule_digest_table32)] }
def SpareEncodesSaid : Prop := spareEncodesRow.holds Tryd.pinned (OpenSpec.ofChange spareEncodesSpec)

/-- ITS FALSE NEIGHBOUR: 'it returns false'. Refute it at one input. -/
def spareEncodesWrong : ChangeSpec := { name := "spareEncodes", fn := fun _ => fun
  | [d1, d2] => { results := [.lit (.bool false)], args := [d1, d2] }
  | _ => none }
def SpareEncodesWrongFalsely : Prop := spareEncodesRow.holds Tryd.pinned (OpenSpec.ofChange spareEncodesWrong)

/-- 'capsulelaw05.SpareDecodes': WHATEVER THE INPUT: true; the input reads as it did. -/
def spareDecodesSpec : ChangeSpec := { name := "spareDecodes", fn := fun _ => fun
  | [d1, d2, d3] => { results := [.lit (.bool true)], args := [d1, d2, d3] }
  | _ => none }
def spareDecodesRow : OpenClaim := { program := "ytcebockdfkjoiaadoor", sum := "f1898c8632518eb9854460953f8d126857ad43e62570a3c45ecb0ff54042cb95", func := "capsule/capsulelaw05.SpareDecodes", spec := "spareDecodes", inPlace := ["internal/bytealg.MakeNoZero"], unfollowed := true, recurses := true, named := ["capsule/digest.table32"], apart := false, laid := [("capsule/digest.table32", laid_capsule_digest_table32)] }
def SpareDecodesSaid : Prop := spareDecodesRow.holds Tryd.pinned (OpenSpec.ofChange spareDecodesSpec)

/-- ITS FALSE NEIGHBOUR: 'it returns false'. Refute it at one input. -/
def spareDecodesWrong : ChangeSpec := { name := "spareDecodes", fn := fun _ => fun
  | [d1, d2, d3] => { results := [.lit (.bool false)], args := [d1, d2, d3] }
  | _ => none }
def SpareDecodesWrongFalsely : Prop := spareDecodesRow.holds Tryd.pinned (OpenSpec.ofChange spareDecodesWrong)

/-- 'capsulelaw05.SpareNames': WHATEVER THE INPUT: true; the input reads as it did. -/
def spareNamesSpec : ChangeSpec := { name := "spareNames", fn := fun _ => fun
  | [d] => { results := [.lit (.bool true)], args := [d] }
  | _ => none }
def spareNamesRow : OpenClaim := { program := "ytcebockdfkjoiaadoor", sum := "f1898c8632518eb9854460953f8d126857ad43e62570a3c45ecb0ff54042cb95", func := "capsule/capsulelaw05.SpareNames", spec := "spareNames", unfollowed := true, recurses := true, named := ["capsule/spare.names", "capsule/digest.table32"], apart := false, laid := [("capsule/digest.table32", laid_capsule_digest_table32), ("capsule/spare.names", laid_capsule_spare_names)] }
def SpareNamesSaid : Prop := spareNamesRow.holds Tryd.pinned (OpenSpec.ofChange spareNamesSpec)

/-- ITS FALSE NEIGHBOUR: 'it returns false'. Refute it at one input. -/
def spareNamesWrong : ChangeSpec := { name := "spareNames", fn := fun _ => fun
  | [d] => { results := [.lit (.bool false)], args := [d] }
  | _ => none }
def SpareNamesWrongFalsely : Prop := spareNamesRow.holds Tryd.pinned (OpenSpec.ofChange spareNamesWrong)

/-- 'capsulelaw05.SpareTorn': WHATEVER THE INPUT: true; the input reads as it did. -/
def spareTornSpec : ChangeSpec := { name := "spareTorn", fn := fun _ => fun
  | [d1, d2, d3] => { results := [.lit (.bool true)], args := [d1, d2, d3] }
  | _ => none }
def spareTornRow : OpenClaim := { program := "ytcebockdfkjoiaadoor", sum := "f1898c8632518eb9854460953f8d126857ad43e62570a3c45ecb0ff54042cb95", func := "capsule/capsulelaw05.SpareTorn", spec := "spareTorn", unfollowed := true, recurses := true, named := ["capsule/digest.table32"], apart := false, laid := [("capsule/digest.table32", laid_capsule_digest_table32)] }
def SpareTornSaid : Prop := spareTornRow.holds Tryd.pinned (OpenSpec.ofChange spareTornSpec)

/-- ITS FALSE NEIGHBOUR: 'it returns false'. Refute it at one input. -/
def spareTornWrong : ChangeSpec := { name := "spareTorn", fn := fun _ => fun
  | [d1, d2, d3] => { results := [.lit (.bool false)], args := [d1, d2, d3] }
  | _ => none }
def SpareTornWrongFalsely : Prop := spareTornRow.holds Tryd.pinned (OpenSpec.ofChange spareTornWrong)

/-- 'capsulelaw05.SpareHolds': WHATEVER THE INPUT: true; the input reads as it did. -/
def spareHoldsSpec : ChangeSpec := { name := "spareHolds", fn := fun _ => fun
  | [d1, d2, d3, d4] => { results := [.lit (.bool true)], args := [d1, d2, d3, d4] }
  | _ => none }
def spareHoldsRow : OpenClaim := { program := "ytcebockdfkjoiaadoor", sum := "f1898c8632518eb9854460953f8d126857ad43e62570a3c45ecb0ff54042cb95", func := "capsule/capsulelaw05.SpareHolds", spec := "spareHolds", unfollowed := true, recurses := true, named := ["capsule/digest.table32"], apart := false, laid := [("capsule/digest.table32", laid_capsule_digest_table32)] }
def SpareHoldsSaid : Prop := spareHoldsRow.holds Tryd.pinned (OpenSpec.ofChange spareHoldsSpec)

/-- ITS FALSE NEIGHBOUR: 'it returns false'. Refute it at one input. -/
def spareHoldsWrong : ChangeSpec := { name := "spareHolds", fn := fun _ => fun
  | [d1, d2, d3, d4] => { results := [.lit (.bool false)], args := [d1, d2, d3, d4] }
  | _ => none }
def SpareHoldsWrongFalsely : Prop := spareHoldsRow.holds Tryd.pinned (OpenSpec.ofChange spareHoldsWrong)

/- THE SECOND FORM. 'bulk': how many values and letters a reading holds, each counted each time it is reached (what is shared counts as often as it is met; a slice's spare places count too). A statement '..UptoSaid' is the law's where the arguments, and the package variables that the reading takes, are together of bulk at most 1048576: NARROWER than '..Said'. Prove '..Said' where nothing that the law and all that it calls make is longer than what came in: it says more and counts as full. Else prove '..UptoSaid'. A law counts once. -/
mutual
def uptoBulk {H : Type} : DataW H → Nat
  | .lit (.string bytes) => bytes.length + 1
  | .lit _ => 1
  | .nil => 1
  | .ptr d => uptoBulk d + 1
  | .slice elems spare => uptoBulkAll elems + uptoBulkAll spare + 1
  | .agg parts => uptoBulkAll parts + 1
  | .iface _ d => uptoBulk d + 1
  | .map entries => uptoBulkEntries entries + 1
  | .held _ => 1
def uptoBulkAll {H : Type} : List (DataW H) → Nat
  | [] => 0
  | d :: r => uptoBulk d + uptoBulkAll r
def uptoBulkEntries {H : Type} : List (Lit × DataW H) → Nat
  | [] => 0
  | x :: r => uptoBulkEntry x + uptoBulkEntries r
def uptoBulkEntry {H : Type} : Lit × DataW H → Nat
  | (.string bytes, d) => bytes.length + uptoBulk d + 1
  | (_, d) => uptoBulk d + 1
 end
def uptoSmall : (H : Type) → List (DataW H) → Bool := fun _ ds => decide (uptoBulkAll ds ≤ 1048576)
def OpenSpec.upto (s : _root_.Go.ChangeSpec) : _root_.Go.OpenSpec := { _root_.Go.OpenSpec.ofChange s with cond := some uptoSmall }

/-- 'capsulelaw05.SpareEncodes', WHERE WHAT IT READS IS OF BULK AT MOST 1048576: true; the input reads as it did. -/
def spareEncodesUptoRow : OpenClaim := { program := "ytcebockdfkjoiaadoor", sum := "f1898c8632518eb9854460953f8d126857ad43e62570a3c45ecb0ff54042cb95", func := "capsule/capsulelaw05.SpareEncodes", spec := "spareEncodes", unfollowed := true, recurses := true, named := ["capsule/digest.table32"], apart := false, laid := [("capsule/digest.table32", laid_capsule_digest_table32)], narrowed := true }
def SpareEncodesUptoSaid : Prop := spareEncodesUptoRow.holds Tryd.pinned (OpenSpec.upto spareEncodesSpec)

/-- 'capsulelaw05.SpareDecodes', WHERE WHAT IT READS IS OF BULK AT MOST 1048576: true; the input reads as it did. -/
def spareDecodesUptoRow : OpenClaim := { program := "ytcebockdfkjoiaadoor", sum := "f1898c8632518eb9854460953f8d126857ad43e62570a3c45ecb0ff54042cb95", func := "capsule/capsulelaw05.SpareDecodes", spec := "spareDecodes", inPlace := ["internal/bytealg.MakeNoZero"], unfollowed := true, recurses := true, named := ["capsule/digest.table32"], apart := false, laid := [("capsule/digest.table32", laid_capsule_digest_table32)], narrowed := true }
def SpareDecodesUptoSaid : Prop := spareDecodesUptoRow.holds Tryd.pinned (OpenSpec.upto spareDecodesSpec)

/-- 'capsulelaw05.SpareNames', WHERE WHAT IT READS IS OF BULK AT MOST 1048576: true; the input reads as it did. -/
def spareNamesUptoRow : OpenClaim := { program := "ytcebockdfkjoiaadoor", sum := "f1898c8632518eb9854460953f8d126857ad43e62570a3c45ecb0ff54042cb95", func := "capsule/capsulelaw05.SpareNames", spec := "spareNames", unfollowed := true, recurses := true, named := ["capsule/spare.names", "capsule/digest.table32"], apart := false, laid := [("capsule/digest.table32", laid_capsule_digest_table32), ("capsule/spare.names", laid_capsule_spare_names)], narrowed := true }
def SpareNamesUptoSaid : Prop := spareNamesUptoRow.holds Tryd.pinned (OpenSpec.upto spareNamesSpec)

/-- 'capsulelaw05.SpareTorn', WHERE WHAT IT READS IS OF BULK AT MOST 1048576: true; the input reads as it did. -/
def spareTornUptoRow : OpenClaim := { program := "ytcebockdfkjoiaadoor", sum := "f1898c8632518eb9854460953f8d126857ad43e62570a3c45ecb0ff54042cb95", func := "capsule/capsulelaw05.SpareTorn", spec := "spareTorn", unfollowed := true, recurses := true, named := ["capsule/digest.table32"], apart := false, laid := [("capsule/digest.table32", laid_capsule_digest_table32)], narrowed := true }
def SpareTornUptoSaid : Prop := spareTornUptoRow.holds Tryd.pinned (OpenSpec.upto spareTornSpec)

/-- 'capsulelaw05.SpareHolds', WHERE WHAT IT READS IS OF BULK AT MOST 1048576: true; the input reads as it did. -/
def spareHoldsUptoRow : OpenClaim := { program := "ytcebockdfkjoiaadoor", sum := "f1898c8632518eb9854460953f8d126857ad43e62570a3c45ecb0ff54042cb95", func := "capsule/capsulelaw05.SpareHolds", spec := "spareHolds", unfollowed := true, recurses := true, named := ["capsule/digest.table32"], apart := false, laid := [("capsule/digest.table32", laid_capsule_digest_table32)], narrowed := true }
def SpareHoldsUptoSaid : Prop := spareHoldsUptoRow.holds Tryd.pinned (OpenSpec.upto spareHoldsSpec)

end Rows
end Go.Proofs.YtcebockdfkjoiaaDoor
