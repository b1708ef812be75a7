/-
  No cell of these rows narrows 'for every input' (looked for: loops, veiled, ifaces, maps, wideKeys, modest, calm, conditions, laid).
  DERIVED. THE GIVEN ROWS OF THIS SEAT. 7 by the template 'for every input the law returns true; each argument reads behind the call as it read before'; 0 by the template 'total and deterministic' (their statements: YtildofclgofjdaaTotals.lean).
  GIVEN WITH THE SEED: the statements are not yours to turn. If you find one false, say at which input.
  Laid BY PROGRAM, IN A SANDBOX (cutbox-rows.mjs): the forced cells as the released guide's own fill.sh prints them over the translation 1c1fa43b70a36952… (all of the seat's roots in one cut). By AI agents, Wed Nov 11 2026. No macro, syntax, notation, axiom, sorry.
-/
import Derived.Test.YtildofclgofjdaaChecked
import GoSem.Claim
import GoSem.ClaimJoined
import GoSem.ClaimMapViews
import Derived.JoinedTies
import Derived.KernelRfl
namespace Go.Proofs.Ytildofclgofjdaa
/- THE CELL 'sum', in the pinned program and in every row, IS THE sha256 OF THE DUMP (.gsa) THAT YtildofclgofjdaaProg.lean LOADS. Nothing in Lean hashes anything: it is a label: what it is worth is what the hold of that sum in a sandbox is worth. -/
noncomputable def Try.pinned : Pinned := { name := "ytildofclgofjdaa", sum := "1c1fa43b70a36952dc35fb2e07f18297a8b328b4c366a6a26fc8600fd88020c4", checked := Try.checked }
namespace Rows
def none {H : Type} : Left H := { results := [], args := [] }

/-- 'capsulelaw03.ArbiterRuns': WHATEVER THE INPUT: true; the input reads as it did. -/
def arbiterRunsSpec : ChangeSpec := { name := "arbiterRuns", fn := fun _ => fun
  | [d1, d2] => { results := [.lit (.bool true)], args := [d1, d2] }
  | _ => none }
def arbiterRunsRow : OpenClaim := { program := "ytildofclgofjdaa", sum := "1c1fa43b70a36952dc35fb2e07f18297a8b328b4c366a6a26fc8600fd88020c4", func := "capsule/capsulelaw03.ArbiterRuns", spec := "arbiterRuns", inPlace := ["maps.clone"], unfollowed := true, recurses := true, apart := false }
def ArbiterRunsSaid : Prop := arbiterRunsRow.holds Try.pinned (OpenSpec.ofChange arbiterRunsSpec)

/-- ITS FALSE NEIGHBOUR: 'it returns false'. Refute it at one input. -/
def arbiterRunsWrong : ChangeSpec := { name := "arbiterRuns", fn := fun _ => fun
  | [d1, d2] => { results := [.lit (.bool false)], args := [d1, d2] }
  | _ => none }
def ArbiterRunsWrongFalsely : Prop := arbiterRunsRow.holds Try.pinned (OpenSpec.ofChange arbiterRunsWrong)

/-- 'capsulelaw03.ArbiterShares': WHATEVER THE INPUT: true; the input reads as it did. -/
def arbiterSharesSpec : ChangeSpec := { name := "arbiterShares", fn := fun _ => fun
  | [d1, d2, d3] => { results := [.lit (.bool true)], args := [d1, d2, d3] }
  | _ => none }
def arbiterSharesRow : OpenClaim := { program := "ytildofclgofjdaa", sum := "1c1fa43b70a36952dc35fb2e07f18297a8b328b4c366a6a26fc8600fd88020c4", func := "capsule/capsulelaw03.ArbiterShares", spec := "arbiterShares", inPlace := ["maps.clone"], unfollowed := true, recurses := true, apart := false }
def ArbiterSharesSaid : Prop := arbiterSharesRow.holds Try.pinned (OpenSpec.ofChange arbiterSharesSpec)

/-- ITS FALSE NEIGHBOUR: 'it returns false'. Refute it at one input. -/
def arbiterSharesWrong : ChangeSpec := { name := "arbiterShares", fn := fun _ => fun
  | [d1, d2, d3] => { results := [.lit (.bool false)], args := [d1, d2, d3] }
  | _ => none }
def ArbiterSharesWrongFalsely : Prop := arbiterSharesRow.holds Try.pinned (OpenSpec.ofChange arbiterSharesWrong)

/-- 'capsulelaw03.ArbiterTurns': WHATEVER THE INPUT: true; the input reads as it did. -/
def arbiterTurnsSpec : ChangeSpec := { name := "arbiterTurns", fn := fun _ => fun
  | [d1, d2, d3] => { results := [.lit (.bool true)], args := [d1, d2, d3] }
  | _ => none }
def arbiterTurnsRow : OpenClaim := { program := "ytildofclgofjdaa", sum := "1c1fa43b70a36952dc35fb2e07f18297a8b328b4c366a6a26fc8600fd88020c4", func := "capsule/capsulelaw03.ArbiterTurns", spec := "arbiterTurns", inPlace := ["maps.clone"], unfollowed := true, recurses := true, apart := false }
def ArbiterTurnsSaid : Prop := arbiterTurnsRow.holds Try.pinned (OpenSpec.ofChange arbiterTurnsSpec)

/-- ITS FALSE NEIGHBOUR: 'it returns false'. Refute it at one input. -/
def arbiterTurnsWrong : ChangeSpec := { name := "arbiterTurns", fn := fun _ => fun
  | [d1, d2, d3] => { results := [.lit (.bool false)], args := [d1, d2, d3] }
  | _ => none }
def ArbiterTurnsWrongFalsely : Prop := arbiterTurnsRow.holds Try.pinned (OpenSpec.ofChange arbiterTurnsWrong)

/-- 'capsulelaw03.ArbiterBounds': WHATEVER THE INPUT: true; the input reads as it did. -/
def arbiterBoundsSpec : ChangeSpec := { name := "arbiterBounds", fn := fun _ => fun
  | [d1, d2, d3] => { results := [.lit (.bool true)], args := [d1, d2, d3] }
  | _ => none }
def arbiterBoundsRow : OpenClaim := { program := "ytildofclgofjdaa", sum := "1c1fa43b70a36952dc35fb2e07f18297a8b328b4c366a6a26fc8600fd88020c4", func := "capsule/capsulelaw03.ArbiterBounds", spec := "arbiterBounds", inPlace := ["maps.clone"], unfollowed := true, recurses := true, apart := false }
def ArbiterBoundsSaid : Prop := arbiterBoundsRow.holds Try.pinned (OpenSpec.ofChange arbiterBoundsSpec)

/-- ITS FALSE NEIGHBOUR: 'it returns false'. Refute it at one input. -/
def arbiterBoundsWrong : ChangeSpec := { name := "arbiterBounds", fn := fun _ => fun
  | [d1, d2, d3] => { results := [.lit (.bool false)], args := [d1, d2, d3] }
  | _ => none }
def ArbiterBoundsWrongFalsely : Prop := arbiterBoundsRow.holds Try.pinned (OpenSpec.ofChange arbiterBoundsWrong)

/-- 'capsulelaw03.ArbiterQueues': WHATEVER THE INPUT: true; the input reads as it did. -/
def arbiterQueuesSpec : ChangeSpec := { name := "arbiterQueues", fn := fun _ => fun
  | [d1, d2, d3] => { results := [.lit (.bool true)], args := [d1, d2, d3] }
  | _ => none }
def arbiterQueuesRow : OpenClaim := { program := "ytildofclgofjdaa", sum := "1c1fa43b70a36952dc35fb2e07f18297a8b328b4c366a6a26fc8600fd88020c4", func := "capsule/capsulelaw03.ArbiterQueues", spec := "arbiterQueues", inPlace := ["maps.clone"], unfollowed := true, recurses := true, apart := false }
def ArbiterQueuesSaid : Prop := arbiterQueuesRow.holds Try.pinned (OpenSpec.ofChange arbiterQueuesSpec)

/-- ITS FALSE NEIGHBOUR: 'it returns false'. Refute it at one input. -/
def arbiterQueuesWrong : ChangeSpec := { name := "arbiterQueues", fn := fun _ => fun
  | [d1, d2, d3] => { results := [.lit (.bool false)], args := [d1, d2, d3] }
  | _ => none }
def ArbiterQueuesWrongFalsely : Prop := arbiterQueuesRow.holds Try.pinned (OpenSpec.ofChange arbiterQueuesWrong)

/-- 'capsulelaw03.ArbiterCopies': WHATEVER THE INPUT: true; the input reads as it did. -/
def arbiterCopiesSpec : ChangeSpec := { name := "arbiterCopies", fn := fun _ => fun
  | [d1, d2, d3, d4] => { results := [.lit (.bool true)], args := [d1, d2, d3, d4] }
  | _ => none }
def arbiterCopiesRow : OpenClaim := { program := "ytildofclgofjdaa", sum := "1c1fa43b70a36952dc35fb2e07f18297a8b328b4c366a6a26fc8600fd88020c4", func := "capsule/capsulelaw03.ArbiterCopies", spec := "arbiterCopies", inPlace := ["maps.clone"], unfollowed := true, recurses := true, apart := false }
def ArbiterCopiesSaid : Prop := arbiterCopiesRow.holds Try.pinned (OpenSpec.ofChange arbiterCopiesSpec)

/-- ITS FALSE NEIGHBOUR: 'it returns false'. Refute it at one input. -/
def arbiterCopiesWrong : ChangeSpec := { name := "arbiterCopies", fn := fun _ => fun
  | [d1, d2, d3, d4] => { results := [.lit (.bool false)], args := [d1, d2, d3, d4] }
  | _ => none }
def ArbiterCopiesWrongFalsely : Prop := arbiterCopiesRow.holds Try.pinned (OpenSpec.ofChange arbiterCopiesWrong)

/-- 'capsulelaw03.ArbiterNil': WHATEVER THE INPUT: true; the input reads as it did. -/
def arbiterNilSpec : ChangeSpec := { name := "arbiterNil", fn := fun _ => fun
  | [d] => { results := [.lit (.bool true)], args := [d] }
  | _ => none }
def arbiterNilRow : OpenClaim := { program := "ytildofclgofjdaa", sum := "1c1fa43b70a36952dc35fb2e07f18297a8b328b4c366a6a26fc8600fd88020c4", func := "capsule/capsulelaw03.ArbiterNil", spec := "arbiterNil", inPlace := ["maps.clone"], unfollowed := true, recurses := true, apart := false }
def ArbiterNilSaid : Prop := arbiterNilRow.holds Try.pinned (OpenSpec.ofChange arbiterNilSpec)

/-- ITS FALSE NEIGHBOUR: 'it returns false'. Refute it at one input. -/
def arbiterNilWrong : ChangeSpec := { name := "arbiterNil", fn := fun _ => fun
  | [d] => { results := [.lit (.bool false)], args := [d] }
  | _ => none }
def ArbiterNilWrongFalsely : Prop := arbiterNilRow.holds Try.pinned (OpenSpec.ofChange arbiterNilWrong)

/- THE SECOND FORM. 'bulk': how many values and letters a reading holds, each counted each time it is reached (what is shared counts as often as it is met; a slice's spare places count too). A statement '..UptoSaid' is the law's where the arguments, and the package variables that the reading takes, are together of bulk at most 1048576: NARROWER than '..Said'. Prove '..Said' where nothing that the law and all that it calls make is longer than what came in: it says more and counts as full. Else prove '..UptoSaid'. A law counts once. -/
mutual
def uptoBulk {H : Type} : DataW H → Nat
  | .lit (.string bytes) => bytes.length + 1
  | .lit _ => 1
  | .nil => 1
  | .ptr d => uptoBulk d + 1
  | .slice elems spare => uptoBulkAll elems + uptoBulkAll spare + 1
  | .agg parts => uptoBulkAll parts + 1
  | .iface _ d => uptoBulk d + 1
  | .map entries => uptoBulkEntries entries + 1
  | .held _ => 1
def uptoBulkAll {H : Type} : List (DataW H) → Nat
  | [] => 0
  | d :: r => uptoBulk d + uptoBulkAll r
def uptoBulkEntries {H : Type} : List (Lit × DataW H) → Nat
  | [] => 0
  | x :: r => uptoBulkEntry x + uptoBulkEntries r
def uptoBulkEntry {H : Type} : Lit × DataW H → Nat
  | (.string bytes, d) => bytes.length + uptoBulk d + 1
  | (_, d) => uptoBulk d + 1
 end
def uptoSmall : (H : Type) → List (DataW H) → Bool := fun _ ds => decide (uptoBulkAll ds ≤ 1048576)
def OpenSpec.upto (s : _root_.Go.ChangeSpec) : _root_.Go.OpenSpec := { _root_.Go.OpenSpec.ofChange s with cond := some uptoSmall }

/-- 'capsulelaw03.ArbiterRuns', WHERE WHAT IT READS IS OF BULK AT MOST 1048576: true; the input reads as it did. -/
def arbiterRunsUptoRow : OpenClaim := { program := "ytildofclgofjdaa", sum := "1c1fa43b70a36952dc35fb2e07f18297a8b328b4c366a6a26fc8600fd88020c4", func := "capsule/capsulelaw03.ArbiterRuns", spec := "arbiterRuns", inPlace := ["maps.clone"], unfollowed := true, recurses := true, apart := false, narrowed := true }
def ArbiterRunsUptoSaid : Prop := arbiterRunsUptoRow.holds Try.pinned (OpenSpec.upto arbiterRunsSpec)

/-- 'capsulelaw03.ArbiterShares', WHERE WHAT IT READS IS OF BULK AT MOST 1048576: true; the input reads as it did. -/
def arbiterSharesUptoRow : OpenClaim := { program := "ytildofclgofjdaa", sum := "1c1fa43b70a36952dc35fb2e07f18297a8b328b4c366a6a26fc8600fd88020c4", func := "capsule/capsulelaw03.ArbiterShares", spec := "arbiterShares", inPlace := ["maps.clone"], unfollowed := true, recurses := true, apart := false, narrowed := true }
def ArbiterSharesUptoSaid : Prop := arbiterSharesUptoRow.holds Try.pinned (OpenSpec.upto arbiterSharesSpec)

/-- 'capsulelaw03.ArbiterTurns', WHERE WHAT IT READS IS OF BULK AT MOST 1048576: true; the input reads as it did. -/
def arbiterTurnsUptoRow : OpenClaim := { program := "ytildofclgofjdaa", sum := "1c1fa43b70a36952dc35fb2e07f18297a8b328b4c366a6a26fc8600fd88020c4", func := "capsule/capsulelaw03.ArbiterTurns", spec := "arbiterTurns", inPlace := ["maps.clone"], unfollowed := true, recurses := true, apart := false, narrowed := true }
def ArbiterTurnsUptoSaid : Prop := arbiterTurnsUptoRow.holds Try.pinned (OpenSpec.upto arbiterTurnsSpec)

/-- 'capsulelaw03.ArbiterBounds', WHERE WHAT IT READS IS OF BULK AT MOST 1048576: true; the input reads as it did. -/
def arbiterBoundsUptoRow : OpenClaim := { program := "ytildofclgofjdaa", sum := "1c1fa43b70a36952dc35fb2e07f18297a8b328b4c366a6a26fc8600fd88020c4", func := "capsule/capsulelaw03.ArbiterBounds", spec := "arbiterBounds", inPlace := ["maps.clone"], unfollowed := true, recurses := true, apart := false, narrowed := true }
def ArbiterBoundsUptoSaid : Prop := arbiterBoundsUptoRow.holds Try.pinned (OpenSpec.upto arbiterBoundsSpec)

/-- 'capsulelaw03.ArbiterQueues', WHERE WHAT IT READS IS OF BULK AT MOST 1048576: true; the input reads as it did. -/
def arbiterQueuesUptoRow : OpenClaim := { program := "ytildofclgofjdaa", sum := "1c1fa43b70a36952dc35fb2e07f18297a8b328b4c366a6a26fc8600fd88020c4", func := "capsule/capsulelaw03.ArbiterQueues", spec := "arbiterQueues", inPlace := ["maps.clone"], unfollowed := true, recurses := true, apart := false, narrowed := true }
def ArbiterQueuesUptoSaid : Prop := arbiterQueuesUptoRow.holds Try.pinned (OpenSpec.upto arbiterQueuesSpec)

/-- 'capsulelaw03.ArbiterCopies', WHERE WHAT IT READS IS OF BULK AT MOST 1048576: true; the input reads as it did. -/
def arbiterCopiesUptoRow : OpenClaim := { program := "ytildofclgofjdaa", sum := "1c1fa43b70a36952dc35fb2e07f18297a8b328b4c366a6a26fc8600fd88020c4", func := "capsule/capsulelaw03.ArbiterCopies", spec := "arbiterCopies", inPlace := ["maps.clone"], unfollowed := true, recurses := true, apart := false, narrowed := true }
def ArbiterCopiesUptoSaid : Prop := arbiterCopiesUptoRow.holds Try.pinned (OpenSpec.upto arbiterCopiesSpec)

/-- 'capsulelaw03.ArbiterNil', WHERE WHAT IT READS IS OF BULK AT MOST 1048576: true; the input reads as it did. -/
def arbiterNilUptoRow : OpenClaim := { program := "ytildofclgofjdaa", sum := "1c1fa43b70a36952dc35fb2e07f18297a8b328b4c366a6a26fc8600fd88020c4", func := "capsule/capsulelaw03.ArbiterNil", spec := "arbiterNil", inPlace := ["maps.clone"], unfollowed := true, recurses := true, apart := false, narrowed := true }
def ArbiterNilUptoSaid : Prop := arbiterNilUptoRow.holds Try.pinned (OpenSpec.upto arbiterNilSpec)

end Rows
end Go.Proofs.Ytildofclgofjdaa
