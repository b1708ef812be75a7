/-
  No cell of these rows narrows 'for every input' (looked for: loops, veiled, ifaces, maps, wideKeys, modest, calm, conditions, laid).
  DERIVED. THE GIVEN ROWS OF THIS SEAT. 5 by the template 'for every input the law returns true; each argument reads behind the call as it read before'; 0 by the template 'total and deterministic' (their statements: YtfcddkehodceaaaTotals.lean).
  GIVEN WITH THE SEED: the statements are not yours to turn. If you find one false, say at which input.
  Laid BY PROGRAM, IN A SANDBOX (cutbox-rows.mjs): the forced cells as the released guide's own fill.sh prints them over the translation acf30bb6b2991268… (all of the seat's roots in one cut). By AI agents, Wed Nov 11 2026. No macro, syntax, notation, axiom, sorry.
-/
import Derived.Test.YtfcddkehodceaaaChecked
import GoSem.Claim
import GoSem.ClaimJoined
import GoSem.ClaimMapViews
import Derived.JoinedTies
import Derived.KernelRfl
namespace Go.Proofs.Ytfcddkehodceaaa
/- THE CELL 'sum', in the pinned program and in every row, IS THE sha256 OF THE DUMP (.gsa) THAT YtfcddkehodceaaaProg.lean LOADS. Nothing in Lean hashes anything: it is a label: what it is worth is what the hold of that sum in a sandbox is worth. -/
noncomputable def Try.pinned : Pinned := { name := "ytfcddkehodceaaa", sum := "acf30bb6b29912682c80b05c639d767d2cc69d83622e7ff2cb551c2f19291c55", checked := Try.checked }
namespace Rows
def none {H : Type} : Left H := { results := [], args := [] }

/-- 'capsulelaw09.VictimScores': WHATEVER THE INPUT: true; the input reads as it did. -/
def victimScoresSpec : ChangeSpec := { name := "victimScores", fn := fun _ => fun
  | [d1, d2] => { results := [.lit (.bool true)], args := [d1, d2] }
  | _ => none }
def victimScoresRow : OpenClaim := { program := "ytfcddkehodceaaa", sum := "acf30bb6b29912682c80b05c639d767d2cc69d83622e7ff2cb551c2f19291c55", func := "capsule/capsulelaw09.VictimScores", spec := "victimScores", unfollowed := true, recurses := true, apart := false }
def VictimScoresSaid : Prop := victimScoresRow.holds Try.pinned (OpenSpec.ofChange victimScoresSpec)

/-- ITS FALSE NEIGHBOUR: 'it returns false'. Refute it at one input. -/
def victimScoresWrong : ChangeSpec := { name := "victimScores", fn := fun _ => fun
  | [d1, d2] => { results := [.lit (.bool false)], args := [d1, d2] }
  | _ => none }
def VictimScoresWrongFalsely : Prop := victimScoresRow.holds Try.pinned (OpenSpec.ofChange victimScoresWrong)

/-- 'capsulelaw09.VictimChooses': WHATEVER THE INPUT: true; the input reads as it did. -/
def victimChoosesSpec : ChangeSpec := { name := "victimChooses", fn := fun _ => fun
  | [d] => { results := [.lit (.bool true)], args := [d] }
  | _ => none }
def victimChoosesRow : OpenClaim := { program := "ytfcddkehodceaaa", sum := "acf30bb6b29912682c80b05c639d767d2cc69d83622e7ff2cb551c2f19291c55", func := "capsule/capsulelaw09.VictimChooses", spec := "victimChooses", unfollowed := true, recurses := true, apart := false }
def VictimChoosesSaid : Prop := victimChoosesRow.holds Try.pinned (OpenSpec.ofChange victimChoosesSpec)

/-- ITS FALSE NEIGHBOUR: 'it returns false'. Refute it at one input. -/
def victimChoosesWrong : ChangeSpec := { name := "victimChooses", fn := fun _ => fun
  | [d] => { results := [.lit (.bool false)], args := [d] }
  | _ => none }
def VictimChoosesWrongFalsely : Prop := victimChoosesRow.holds Try.pinned (OpenSpec.ofChange victimChoosesWrong)

/-- 'capsulelaw09.VictimOrders': WHATEVER THE INPUT: true; the input reads as it did. -/
def victimOrdersSpec : ChangeSpec := { name := "victimOrders", fn := fun _ => fun
  | [d1, d2] => { results := [.lit (.bool true)], args := [d1, d2] }
  | _ => none }
def victimOrdersRow : OpenClaim := { program := "ytfcddkehodceaaa", sum := "acf30bb6b29912682c80b05c639d767d2cc69d83622e7ff2cb551c2f19291c55", func := "capsule/capsulelaw09.VictimOrders", spec := "victimOrders", unfollowed := true, recurses := true, apart := false }
def VictimOrdersSaid : Prop := victimOrdersRow.holds Try.pinned (OpenSpec.ofChange victimOrdersSpec)

/-- ITS FALSE NEIGHBOUR: 'it returns false'. Refute it at one input. -/
def victimOrdersWrong : ChangeSpec := { name := "victimOrders", fn := fun _ => fun
  | [d1, d2] => { results := [.lit (.bool false)], args := [d1, d2] }
  | _ => none }
def VictimOrdersWrongFalsely : Prop := victimOrdersRow.holds Try.pinned (OpenSpec.ofChange victimOrdersWrong)

/-- 'capsulelaw09.VictimFew': WHATEVER THE INPUT: true; the input reads as it did. -/
def victimFewSpec : ChangeSpec := { name := "victimFew", fn := fun _ => fun
  | [d1, d2, d3] => { results := [.lit (.bool true)], args := [d1, d2, d3] }
  | _ => none }
def victimFewRow : OpenClaim := { program := "ytfcddkehodceaaa", sum := "acf30bb6b29912682c80b05c639d767d2cc69d83622e7ff2cb551c2f19291c55", func := "capsule/capsulelaw09.VictimFew", spec := "victimFew", unfollowed := true, recurses := true, apart := false }
def VictimFewSaid : Prop := victimFewRow.holds Try.pinned (OpenSpec.ofChange victimFewSpec)

/-- ITS FALSE NEIGHBOUR: 'it returns false'. Refute it at one input. -/
def victimFewWrong : ChangeSpec := { name := "victimFew", fn := fun _ => fun
  | [d1, d2, d3] => { results := [.lit (.bool false)], args := [d1, d2, d3] }
  | _ => none }
def VictimFewWrongFalsely : Prop := victimFewRow.holds Try.pinned (OpenSpec.ofChange victimFewWrong)

/-- 'capsulelaw09.VictimHolds': WHATEVER THE INPUT: true; the input reads as it did. -/
def victimHoldsSpec : ChangeSpec := { name := "victimHolds", fn := fun _ => fun
  | [d1, d2] => { results := [.lit (.bool true)], args := [d1, d2] }
  | _ => none }
def victimHoldsRow : OpenClaim := { program := "ytfcddkehodceaaa", sum := "acf30bb6b29912682c80b05c639d767d2cc69d83622e7ff2cb551c2f19291c55", func := "capsule/capsulelaw09.VictimHolds", spec := "victimHolds", unfollowed := true, recurses := true, apart := false }
def VictimHoldsSaid : Prop := victimHoldsRow.holds Try.pinned (OpenSpec.ofChange victimHoldsSpec)

/-- ITS FALSE NEIGHBOUR: 'it returns false'. Refute it at one input. -/
def victimHoldsWrong : ChangeSpec := { name := "victimHolds", fn := fun _ => fun
  | [d1, d2] => { results := [.lit (.bool false)], args := [d1, d2] }
  | _ => none }
def VictimHoldsWrongFalsely : Prop := victimHoldsRow.holds Try.pinned (OpenSpec.ofChange victimHoldsWrong)

/- THE SECOND FORM. 'bulk': how many values and letters a reading holds, each counted each time it is reached (what is shared counts as often as it is met; a slice's spare places count too). A statement '..UptoSaid' is the law's where the arguments, and the package variables that the reading takes, are together of bulk at most 1048576: NARROWER than '..Said'. Prove '..Said' where nothing that the law and all that it calls make is longer than what came in: it says more and counts as full. Else prove '..UptoSaid'. A law counts once. -/
mutual
def uptoBulk {H : Type} : DataW H → Nat
  | .lit (.string bytes) => bytes.length + 1
  | .lit _ => 1
  | .nil => 1
  | .ptr d => uptoBulk d + 1
  | .slice elems spare => uptoBulkAll elems + uptoBulkAll spare + 1
  | .agg parts => uptoBulkAll parts + 1
  | .iface _ d => uptoBulk d + 1
  | .map entries => uptoBulkEntries entries + 1
  | .held _ => 1
def uptoBulkAll {H : Type} : List (DataW H) → Nat
  | [] => 0
  | d :: r => uptoBulk d + uptoBulkAll r
def uptoBulkEntries {H : Type} : List (Lit × DataW H) → Nat
  | [] => 0
  | x :: r => uptoBulkEntry x + uptoBulkEntries r
def uptoBulkEntry {H : Type} : Lit × DataW H → Nat
  | (.string bytes, d) => bytes.length + uptoBulk d + 1
  | (_, d) => uptoBulk d + 1
 end
def uptoSmall : (H : Type) → List (DataW H) → Bool := fun _ ds => decide (uptoBulkAll ds ≤ 1048576)
def OpenSpec.upto (s : _root_.Go.ChangeSpec) : _root_.Go.OpenSpec := { _root_.Go.OpenSpec.ofChange s with cond := some uptoSmall }

/-- 'capsulelaw09.VictimScores', WHERE WHAT IT READS IS OF BULK AT MOST 1048576: true; the input reads as it did. -/
def victimScoresUptoRow : OpenClaim := { program := "ytfcddkehodceaaa", sum := "acf30bb6b29912682c80b05c639d767d2cc69d83622e7ff2cb551c2f19291c55", func := "capsule/capsulelaw09.VictimScores", spec := "victimScores", unfollowed := true, recurses := true, apart := false, narrowed := true }
def VictimScoresUptoSaid : Prop := victimScoresUptoRow.holds Try.pinned (OpenSpec.upto victimScoresSpec)

/-- 'capsulelaw09.VictimChooses', WHERE WHAT IT READS IS OF BULK AT MOST 1048576: true; the input reads as it did. -/
def victimChoosesUptoRow : OpenClaim := { program := "ytfcddkehodceaaa", sum := "acf30bb6b29912682c80b05c639d767d2cc69d83622e7ff2cb551c2f19291c55", func := "capsule/capsulelaw09.VictimChooses", spec := "victimChooses", unfollowed := true, recurses := true, apart := false, narrowed := true }
def VictimChoosesUptoSaid : Prop := victimChoosesUptoRow.holds Try.pinned (OpenSpec.upto victimChoosesSpec)

/-- 'capsulelaw09.VictimOrders', WHERE WHAT IT READS IS OF BULK AT MOST 1048576: true; the input reads as it did. -/
def victimOrdersUptoRow : OpenClaim := { program := "ytfcddkehodceaaa", sum := "acf30bb6b29912682c80b05c639d767d2cc69d83622e7ff2cb551c2f19291c55", func := "capsule/capsulelaw09.VictimOrders", spec := "victimOrders", unfollowed := true, recurses := true, apart := false, narrowed := true }
def VictimOrdersUptoSaid : Prop := victimOrdersUptoRow.holds Try.pinned (OpenSpec.upto victimOrdersSpec)

/-- 'capsulelaw09.VictimFew', WHERE WHAT IT READS IS OF BULK AT MOST 1048576: true; the input reads as it did. -/
def victimFewUptoRow : OpenClaim := { program := "ytfcddkehodceaaa", sum := "acf30bb6b29912682c80b05c639d767d2cc69d83622e7ff2cb551c2f19291c55", func := "capsule/capsulelaw09.VictimFew", spec := "victimFew", unfollowed := true, recurses := true, apart := false, narrowed := true }
def VictimFewUptoSaid : Prop := victimFewUptoRow.holds Try.pinned (OpenSpec.upto victimFewSpec)

/-- 'capsulelaw09.VictimHolds', WHERE WHAT IT READS IS OF BULK AT MOST 1048576: true; the input reads as it did. -/
def victimHoldsUptoRow : OpenClaim := { program := "ytfcddkehodceaaa", sum := "acf30bb6b29912682c80b05c639d767d2cc69d83622e7ff2cb551c2f19291c55", func := "capsule/capsulelaw09.VictimHolds", spec := "victimHolds", unfollowed := true, recurses := true, apart := false, narrowed := true }
def VictimHoldsUptoSaid : Prop := victimHoldsUptoRow.holds Try.pinned (OpenSpec.upto victimHoldsSpec)

end Rows
end Go.Proofs.Ytfcddkehodceaaa
