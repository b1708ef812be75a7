/-
  No cell of these rows narrows 'for every input' (looked for: loops, veiled, ifaces, maps, wideKeys, modest, calm, conditions, laid).
  DERIVED. THE GIVEN ROWS OF THIS SEAT. 5 by the template 'for every input the law returns true; each argument reads behind the call as it read before'; 0 by the template 'total and deterministic' (their statements: YtngaifokkkmmcaaTotals.lean).
  GIVEN WITH THE SEED: the statements are not yours to turn. If you find one false, say at which input.
  Laid BY PROGRAM, IN A SANDBOX (cutbox-rows.mjs): the forced cells as the released guide's own fill.sh prints them over the translation 065f0345b33722d2… (all of the seat's roots in one cut). By AI agents, Wed Nov 11 2026. No macro, syntax, notation, axiom, sorry.
-/
import Derived.Test.YtngaifokkkmmcaaChecked
import GoSem.Claim
import GoSem.ClaimJoined
import GoSem.ClaimMapViews
import Derived.JoinedTies
import Derived.KernelRfl
namespace Go.Proofs.Ytngaifokkkmmcaa
/- THE CELL 'sum', in the pinned program and in every row, IS THE sha256 OF THE DUMP (.gsa) THAT YtngaifokkkmmcaaProg.lean LOADS. Nothing in Lean hashes anything: it is a label: what it is worth is what the hold of that sum in a sandbox is worth. -/
noncomputable def Try.pinned : Pinned := { name := "ytngaifokkkmmcaa", sum := "065f0345b33722d244b1e6888e47b1d6af295659b5f8c3ae8b582a797e95493c", checked := Try.checked }
namespace Rows
def none {H : Type} : Left H := { results := [], args := [] }

/-- 'capsulelaw14.PrpEach': WHATEVER THE INPUT: true; the input reads as it did. -/
def prpEachSpec : ChangeSpec := { name := "prpEach", fn := fun _ => fun
  | [d1, d2, d3, d4, d5, d6] => { results := [.lit (.bool true)], args := [d1, d2, d3, d4, d5, d6] }
  | _ => none }
def prpEachRow : OpenClaim := { program := "ytngaifokkkmmcaa", sum := "065f0345b33722d244b1e6888e47b1d6af295659b5f8c3ae8b582a797e95493c", func := "capsule/capsulelaw14.PrpEach", spec := "prpEach", unfollowed := true, recurses := true, apart := false }
def PrpEachSaid : Prop := prpEachRow.holds Try.pinned (OpenSpec.ofChange prpEachSpec)

/-- ITS FALSE NEIGHBOUR: 'it returns false'. Refute it at one input. -/
def prpEachWrong : ChangeSpec := { name := "prpEach", fn := fun _ => fun
  | [d1, d2, d3, d4, d5, d6] => { results := [.lit (.bool false)], args := [d1, d2, d3, d4, d5, d6] }
  | _ => none }
def PrpEachWrongFalsely : Prop := prpEachRow.holds Try.pinned (OpenSpec.ofChange prpEachWrong)

/-- 'capsulelaw14.PrpBuilds': WHATEVER THE INPUT: true; the input reads as it did. -/
def prpBuildsSpec : ChangeSpec := { name := "prpBuilds", fn := fun _ => fun
  | [d1, d2, d3, d4, d5] => { results := [.lit (.bool true)], args := [d1, d2, d3, d4, d5] }
  | _ => none }
def prpBuildsRow : OpenClaim := { program := "ytngaifokkkmmcaa", sum := "065f0345b33722d244b1e6888e47b1d6af295659b5f8c3ae8b582a797e95493c", func := "capsule/capsulelaw14.PrpBuilds", spec := "prpBuilds", unfollowed := true, recurses := true, apart := false }
def PrpBuildsSaid : Prop := prpBuildsRow.holds Try.pinned (OpenSpec.ofChange prpBuildsSpec)

/-- ITS FALSE NEIGHBOUR: 'it returns false'. Refute it at one input. -/
def prpBuildsWrong : ChangeSpec := { name := "prpBuilds", fn := fun _ => fun
  | [d1, d2, d3, d4, d5] => { results := [.lit (.bool false)], args := [d1, d2, d3, d4, d5] }
  | _ => none }
def PrpBuildsWrongFalsely : Prop := prpBuildsRow.holds Try.pinned (OpenSpec.ofChange prpBuildsWrong)

/-- 'capsulelaw14.PrpNone': WHATEVER THE INPUT: true; the input reads as it did. -/
def prpNoneSpec : ChangeSpec := { name := "prpNone", fn := fun _ => fun
  | [d1, d2, d3, d4] => { results := [.lit (.bool true)], args := [d1, d2, d3, d4] }
  | _ => none }
def prpNoneRow : OpenClaim := { program := "ytngaifokkkmmcaa", sum := "065f0345b33722d244b1e6888e47b1d6af295659b5f8c3ae8b582a797e95493c", func := "capsule/capsulelaw14.PrpNone", spec := "prpNone", unfollowed := true, recurses := true, apart := false }
def PrpNoneSaid : Prop := prpNoneRow.holds Try.pinned (OpenSpec.ofChange prpNoneSpec)

/-- ITS FALSE NEIGHBOUR: 'it returns false'. Refute it at one input. -/
def prpNoneWrong : ChangeSpec := { name := "prpNone", fn := fun _ => fun
  | [d1, d2, d3, d4] => { results := [.lit (.bool false)], args := [d1, d2, d3, d4] }
  | _ => none }
def PrpNoneWrongFalsely : Prop := prpNoneRow.holds Try.pinned (OpenSpec.ofChange prpNoneWrong)

/-- 'capsulelaw14.PrpBounds': WHATEVER THE INPUT: true; the input reads as it did. -/
def prpBoundsSpec : ChangeSpec := { name := "prpBounds", fn := fun _ => fun
  | [d1, d2, d3] => { results := [.lit (.bool true)], args := [d1, d2, d3] }
  | _ => none }
def prpBoundsRow : OpenClaim := { program := "ytngaifokkkmmcaa", sum := "065f0345b33722d244b1e6888e47b1d6af295659b5f8c3ae8b582a797e95493c", func := "capsule/capsulelaw14.PrpBounds", spec := "prpBounds", unfollowed := true, recurses := true, apart := false }
def PrpBoundsSaid : Prop := prpBoundsRow.holds Try.pinned (OpenSpec.ofChange prpBoundsSpec)

/-- ITS FALSE NEIGHBOUR: 'it returns false'. Refute it at one input. -/
def prpBoundsWrong : ChangeSpec := { name := "prpBounds", fn := fun _ => fun
  | [d1, d2, d3] => { results := [.lit (.bool false)], args := [d1, d2, d3] }
  | _ => none }
def PrpBoundsWrongFalsely : Prop := prpBoundsRow.holds Try.pinned (OpenSpec.ofChange prpBoundsWrong)

/-- 'capsulelaw14.PrpHolds': WHATEVER THE INPUT: true; the input reads as it did. -/
def prpHoldsSpec : ChangeSpec := { name := "prpHolds", fn := fun _ => fun
  | [d1, d2, d3, d4] => { results := [.lit (.bool true)], args := [d1, d2, d3, d4] }
  | _ => none }
def prpHoldsRow : OpenClaim := { program := "ytngaifokkkmmcaa", sum := "065f0345b33722d244b1e6888e47b1d6af295659b5f8c3ae8b582a797e95493c", func := "capsule/capsulelaw14.PrpHolds", spec := "prpHolds", unfollowed := true, recurses := true, apart := false }
def PrpHoldsSaid : Prop := prpHoldsRow.holds Try.pinned (OpenSpec.ofChange prpHoldsSpec)

/-- ITS FALSE NEIGHBOUR: 'it returns false'. Refute it at one input. -/
def prpHoldsWrong : ChangeSpec := { name := "prpHolds", fn := fun _ => fun
  | [d1, d2, d3, d4] => { results := [.lit (.bool false)], args := [d1, d2, d3, d4] }
  | _ => none }
def PrpHoldsWrongFalsely : Prop := prpHoldsRow.holds Try.pinned (OpenSpec.ofChange prpHoldsWrong)

/- THE SECOND FORM. 'bulk': how many values and letters a reading holds, each counted each time it is reached (what is shared counts as often as it is met; a slice's spare places count too). A statement '..UptoSaid' is the law's where the arguments, and the package variables that the reading takes, are together of bulk at most 1048576: NARROWER than '..Said'. Prove '..Said' where nothing that the law and all that it calls make is longer than what came in: it says more and counts as full. Else prove '..UptoSaid'. A law counts once. -/
mutual
def uptoBulk {H : Type} : DataW H → Nat
  | .lit (.string bytes) => bytes.length + 1
  | .lit _ => 1
  | .nil => 1
  | .ptr d => uptoBulk d + 1
  | .slice elems spare => uptoBulkAll elems + uptoBulkAll spare + 1
  | .agg parts => uptoBulkAll parts + 1
  | .iface _ d => uptoBulk d + 1
  | .map entries => uptoBulkEntries entries + 1
  | .held _ => 1
def uptoBulkAll {H : Type} : List (DataW H) → Nat
  | [] => 0
  | d :: r => uptoBulk d + uptoBulkAll r
def uptoBulkEntries {H : Type} : List (Lit × DataW H) → Nat
  | [] => 0
  | x :: r => uptoBulkEntry x + uptoBulkEntries r
def uptoBulkEntry {H : Type} : Lit × DataW H → Nat
  | (.string bytes, d) => bytes.length + uptoBulk d + 1
  | (_, d) => uptoBulk d + 1
 end
def uptoSmall : (H : Type) → List (DataW H) → Bool := fun _ ds => decide (uptoBulkAll ds ≤ 1048576)
def OpenSpec.upto (s : _root_.Go.ChangeSpec) : _root_.Go.OpenSpec := { _root_.Go.OpenSpec.ofChange s with cond := some uptoSmall }

/-- 'capsulelaw14.PrpEach', WHERE WHAT IT READS IS OF BULK AT MOST 1048576: true; the input reads as it did. -/
def prpEachUptoRow : OpenClaim := { program := "ytngaifokkkmmcaa", sum := "065f0345b33722d244b1e6888e47b1d6af295659b5f8c3ae8b582a797e95493c", func := "capsule/capsulelaw14.PrpEach", spec := "prpEach", unfollowed := true, recurses := true, apart := false, narrowed := true }
def PrpEachUptoSaid : Prop := prpEachUptoRow.holds Try.pinned (OpenSpec.upto prpEachSpec)

/-- 'capsulelaw14.PrpBuilds', WHERE WHAT IT READS IS OF BULK AT MOST 1048576: true; the input reads as it did. -/
def prpBuildsUptoRow : OpenClaim := { program := "ytngaifokkkmmcaa", sum := "065f0345b33722d244b1e6888e47b1d6af295659b5f8c3ae8b582a797e95493c", func := "capsule/capsulelaw14.PrpBuilds", spec := "prpBuilds", unfollowed := true, recurses := true, apart := false, narrowed := true }
def PrpBuildsUptoSaid : Prop := prpBuildsUptoRow.holds Try.pinned (OpenSpec.upto prpBuildsSpec)

/-- 'capsulelaw14.PrpNone', WHERE WHAT IT READS IS OF BULK AT MOST 1048576: true; the input reads as it did. -/
def prpNoneUptoRow : OpenClaim := { program := "ytngaifokkkmmcaa", sum := "065f0345b33722d244b1e6888e47b1d6af295659b5f8c3ae8b582a797e95493c", func := "capsule/capsulelaw14.PrpNone", spec := "prpNone", unfollowed := true, recurses := true, apart := false, narrowed := true }
def PrpNoneUptoSaid : Prop := prpNoneUptoRow.holds Try.pinned (OpenSpec.upto prpNoneSpec)

/-- 'capsulelaw14.PrpBounds', WHERE WHAT IT READS IS OF BULK AT MOST 1048576: true; the input reads as it did. -/
def prpBoundsUptoRow : OpenClaim := { program := "ytngaifokkkmmcaa", sum := "065f0345b33722d244b1e6888e47b1d6af295659b5f8c3ae8b582a797e95493c", func := "capsule/capsulelaw14.PrpBounds", spec := "prpBounds", unfollowed := true, recurses := true, apart := false, narrowed := true }
def PrpBoundsUptoSaid : Prop := prpBoundsUptoRow.holds Try.pinned (OpenSpec.upto prpBoundsSpec)

/-- 'capsulelaw14.PrpHolds', WHERE WHAT IT READS IS OF BULK AT MOST 1048576: true; the input reads as it did. -/
def prpHoldsUptoRow : OpenClaim := { program := "ytngaifokkkmmcaa", sum := "065f0345b33722d244b1e6888e47b1d6af295659b5f8c3ae8b582a797e95493c", func := "capsule/capsulelaw14.PrpHolds", spec := "prpHolds", unfollowed := true, recurses := true, apart := false, narrowed := true }
def PrpHoldsUptoSaid : Prop := prpHoldsUptoRow.holds Try.pinned (OpenSpec.upto prpHoldsSpec)

end Rows
end Go.Proofs.Ytngaifokkkmmcaa
