/-
  No cell of these rows narrows 'for every input' (looked for: loops, veiled, ifaces, maps, wideKeys, modest, calm, conditions, laid).
  DERIVED. THE GIVEN ROWS OF THIS SEAT. 5 by the template 'for every input the law returns true; each argument reads behind the call as it read before'; 0 by the template 'total and deterministic' (their statements: YtddejcoagcaidaaTotals.lean).
  GIVEN WITH THE SEED: the statements are not yours to turn. If you find one false, say at which input.
  Laid BY PROGRAM, IN A SANDBOX (cutbox-rows.mjs): the forced cells as the released guide's own fill.sh prints them over the translation 8905d6d66286fc82… (all of the seat's roots in one cut). By AI agents, Wed Nov 11 2026. No macro, syntax, notation, axiom, sorry.
-/
import Derived.Test.YtddejcoagcaidaaChecked
import GoSem.Claim
import GoSem.ClaimJoined
import GoSem.ClaimMapViews
import Derived.JoinedTies
import Derived.KernelRfl
namespace Go.Proofs.Ytddejcoagcaidaa
/- THE CELL 'sum', in the pinned program and in every row, IS THE sha256 OF THE DUMP (.gsa) THAT YtddejcoagcaidaaProg.lean LOADS. Nothing in Lean hashes anything: it is a label: what it is worth is what the hold of that sum in a sandbox is worth. -/
noncomputable def Try.pinned : Pinned := { name := "ytddejcoagcaidaa", sum := "8905d6d66286fc8252e5ebe9cb1c345c35ebf05b91586545e2887cd0abfbdb8e", checked := Try.checked }
namespace Rows
def none {H : Type} : Left H := { results := [], args := [] }

/-- 'capsulelaw04.FlashPlays': WHATEVER THE INPUT: true; the input reads as it did. -/
def flashPlaysSpec : ChangeSpec := { name := "flashPlays", fn := fun _ => fun
  | [d1, d2, d3] => { results := [.lit (.bool true)], args := [d1, d2, d3] }
  | _ => none }
def flashPlaysRow : OpenClaim := { program := "ytddejcoagcaidaa", sum := "8905d6d66286fc8252e5ebe9cb1c345c35ebf05b91586545e2887cd0abfbdb8e", func := "capsule/capsulelaw04.FlashPlays", spec := "flashPlays", unfollowed := true, recurses := true, apart := false }
def FlashPlaysSaid : Prop := flashPlaysRow.holds Try.pinned (OpenSpec.ofChange flashPlaysSpec)

/-- ITS FALSE NEIGHBOUR: 'it returns false'. Refute it at one input. -/
def flashPlaysWrong : ChangeSpec := { name := "flashPlays", fn := fun _ => fun
  | [d1, d2, d3] => { results := [.lit (.bool false)], args := [d1, d2, d3] }
  | _ => none }
def FlashPlaysWrongFalsely : Prop := flashPlaysRow.holds Try.pinned (OpenSpec.ofChange flashPlaysWrong)

/-- 'capsulelaw04.FlashCopies': WHATEVER THE INPUT: true; the input reads as it did. -/
def flashCopiesSpec : ChangeSpec := { name := "flashCopies", fn := fun _ => fun
  | [d1, d2, d3, d4] => { results := [.lit (.bool true)], args := [d1, d2, d3, d4] }
  | _ => none }
def flashCopiesRow : OpenClaim := { program := "ytddejcoagcaidaa", sum := "8905d6d66286fc8252e5ebe9cb1c345c35ebf05b91586545e2887cd0abfbdb8e", func := "capsule/capsulelaw04.FlashCopies", spec := "flashCopies", inPlace := ["maps.clone"], unfollowed := true, recurses := true, apart := false }
def FlashCopiesSaid : Prop := flashCopiesRow.holds Try.pinned (OpenSpec.ofChange flashCopiesSpec)

/-- ITS FALSE NEIGHBOUR: 'it returns false'. Refute it at one input. -/
def flashCopiesWrong : ChangeSpec := { name := "flashCopies", fn := fun _ => fun
  | [d1, d2, d3, d4] => { results := [.lit (.bool false)], args := [d1, d2, d3, d4] }
  | _ => none }
def FlashCopiesWrongFalsely : Prop := flashCopiesRow.holds Try.pinned (OpenSpec.ofChange flashCopiesWrong)

/-- 'capsulelaw04.FlashWear': WHATEVER THE INPUT: true; the input reads as it did. -/
def flashWearSpec : ChangeSpec := { name := "flashWear", fn := fun _ => fun
  | [d1, d2, d3] => { results := [.lit (.bool true)], args := [d1, d2, d3] }
  | _ => none }
def flashWearRow : OpenClaim := { program := "ytddejcoagcaidaa", sum := "8905d6d66286fc8252e5ebe9cb1c345c35ebf05b91586545e2887cd0abfbdb8e", func := "capsule/capsulelaw04.FlashWear", spec := "flashWear", unfollowed := true, recurses := true, apart := false }
def FlashWearSaid : Prop := flashWearRow.holds Try.pinned (OpenSpec.ofChange flashWearSpec)

/-- ITS FALSE NEIGHBOUR: 'it returns false'. Refute it at one input. -/
def flashWearWrong : ChangeSpec := { name := "flashWear", fn := fun _ => fun
  | [d1, d2, d3] => { results := [.lit (.bool false)], args := [d1, d2, d3] }
  | _ => none }
def FlashWearWrongFalsely : Prop := flashWearRow.holds Try.pinned (OpenSpec.ofChange flashWearWrong)

/-- 'capsulelaw04.FlashNone': WHATEVER THE INPUT: true; the input reads as it did. -/
def flashNoneSpec : ChangeSpec := { name := "flashNone", fn := fun _ => fun
  | [d1, d2] => { results := [.lit (.bool true)], args := [d1, d2] }
  | _ => none }
def flashNoneRow : OpenClaim := { program := "ytddejcoagcaidaa", sum := "8905d6d66286fc8252e5ebe9cb1c345c35ebf05b91586545e2887cd0abfbdb8e", func := "capsule/capsulelaw04.FlashNone", spec := "flashNone", inPlace := ["maps.clone"], unfollowed := true, recurses := true, apart := false }
def FlashNoneSaid : Prop := flashNoneRow.holds Try.pinned (OpenSpec.ofChange flashNoneSpec)

/-- ITS FALSE NEIGHBOUR: 'it returns false'. Refute it at one input. -/
def flashNoneWrong : ChangeSpec := { name := "flashNone", fn := fun _ => fun
  | [d1, d2] => { results := [.lit (.bool false)], args := [d1, d2] }
  | _ => none }
def FlashNoneWrongFalsely : Prop := flashNoneRow.holds Try.pinned (OpenSpec.ofChange flashNoneWrong)

/-- 'capsulelaw04.FlashHolds': WHATEVER THE INPUT: true; the input reads as it did. -/
def flashHoldsSpec : ChangeSpec := { name := "flashHolds", fn := fun _ => fun
  | [d1, d2, d3] => { results := [.lit (.bool true)], args := [d1, d2, d3] }
  | _ => none }
def flashHoldsRow : OpenClaim := { program := "ytddejcoagcaidaa", sum := "8905d6d66286fc8252e5ebe9cb1c345c35ebf05b91586545e2887cd0abfbdb8e", func := "capsule/capsulelaw04.FlashHolds", spec := "flashHolds", unfollowed := true, recurses := true, apart := false }
def FlashHoldsSaid : Prop := flashHoldsRow.holds Try.pinned (OpenSpec.ofChange flashHoldsSpec)

/-- ITS FALSE NEIGHBOUR: 'it returns false'. Refute it at one input. -/
def flashHoldsWrong : ChangeSpec := { name := "flashHolds", fn := fun _ => fun
  | [d1, d2, d3] => { results := [.lit (.bool false)], args := [d1, d2, d3] }
  | _ => none }
def FlashHoldsWrongFalsely : Prop := flashHoldsRow.holds Try.pinned (OpenSpec.ofChange flashHoldsWrong)

/- THE SECOND FORM. 'bulk': how many values and letters a reading holds, each counted each time it is reached (what is shared counts as often as it is met; a slice's spare places count too). A statement '..UptoSaid' is the law's where the arguments, and the package variables that the reading takes, are together of bulk at most 1048576: NARROWER than '..Said'. Prove '..Said' where nothing that the law and all that it calls make is longer than what came in: it says more and counts as full. Else prove '..UptoSaid'. A law counts once. -/
mutual
def uptoBulk {H : Type} : DataW H → Nat
  | .lit (.string bytes) => bytes.length + 1
  | .lit _ => 1
  | .nil => 1
  | .ptr d => uptoBulk d + 1
  | .slice elems spare => uptoBulkAll elems + uptoBulkAll spare + 1
  | .agg parts => uptoBulkAll parts + 1
  | .iface _ d => uptoBulk d + 1
  | .map entries => uptoBulkEntries entries + 1
  | .held _ => 1
def uptoBulkAll {H : Type} : List (DataW H) → Nat
  | [] => 0
  | d :: r => uptoBulk d + uptoBulkAll r
def uptoBulkEntries {H : Type} : List (Lit × DataW H) → Nat
  | [] => 0
  | x :: r => uptoBulkEntry x + uptoBulkEntries r
def uptoBulkEntry {H : Type} : Lit × DataW H → Nat
  | (.string bytes, d) => bytes.length + uptoBulk d + 1
  | (_, d) => uptoBulk d + 1
 end
def uptoSmall : (H : Type) → List (DataW H) → Bool := fun _ ds => decide (uptoBulkAll ds ≤ 1048576)
def OpenSpec.upto (s : _root_.Go.ChangeSpec) : _root_.Go.OpenSpec := { _root_.Go.OpenSpec.ofChange s with cond := some uptoSmall }

/-- 'capsulelaw04.FlashPlays', WHERE WHAT IT READS IS OF BULK AT MOST 1048576: true; the input reads as it did. -/
def flashPlaysUptoRow : OpenClaim := { program := "ytddejcoagcaidaa", sum := "8905d6d66286fc8252e5ebe9cb1c345c35ebf05b91586545e2887cd0abfbdb8e", func := "capsule/capsulelaw04.FlashPlays", spec := "flashPlays", unfollowed := true, recurses := true, apart := false, narrowed := true }
def FlashPlaysUptoSaid : Prop := flashPlaysUptoRow.holds Try.pinned (OpenSpec.upto flashPlaysSpec)

/-- 'capsulelaw04.FlashCopies', WHERE WHAT IT READS IS OF BULK AT MOST 1048576: true; the input reads as it did. -/
def flashCopiesUptoRow : OpenClaim := { program := "ytddejcoagcaidaa", sum := "8905d6d66286fc8252e5ebe9cb1c345c35ebf05b91586545e2887cd0abfbdb8e", func := "capsule/capsulelaw04.FlashCopies", spec := "flashCopies", inPlace := ["maps.clone"], unfollowed := true, recurses := true, apart := false, narrowed := true }
def FlashCopiesUptoSaid : Prop := flashCopiesUptoRow.holds Try.pinned (OpenSpec.upto flashCopiesSpec)

/-- 'capsulelaw04.FlashWear', WHERE WHAT IT READS IS OF BULK AT MOST 1048576: true; the input reads as it did. -/
def flashWearUptoRow : OpenClaim := { program := "ytddejcoagcaidaa", sum := "8905d6d66286fc8252e5ebe9cb1c345c35ebf05b91586545e2887cd0abfbdb8e", func := "capsule/capsulelaw04.FlashWear", spec := "flashWear", unfollowed := true, recurses := true, apart := false, narrowed := true }
def FlashWearUptoSaid : Prop := flashWearUptoRow.holds Try.pinned (OpenSpec.upto flashWearSpec)

/-- 'capsulelaw04.FlashNone', WHERE WHAT IT READS IS OF BULK AT MOST 1048576: true; the input reads as it did. -/
def flashNoneUptoRow : OpenClaim := { program := "ytddejcoagcaidaa", sum := "8905d6d66286fc8252e5ebe9cb1c345c35ebf05b91586545e2887cd0abfbdb8e", func := "capsule/capsulelaw04.FlashNone", spec := "flashNone", inPlace := ["maps.clone"], unfollowed := true, recurses := true, apart := false, narrowed := true }
def FlashNoneUptoSaid : Prop := flashNoneUptoRow.holds Try.pinned (OpenSpec.upto flashNoneSpec)

/-- 'capsulelaw04.FlashHolds', WHERE WHAT IT READS IS OF BULK AT MOST 1048576: true; the input reads as it did. -/
def flashHoldsUptoRow : OpenClaim := { program := "ytddejcoagcaidaa", sum := "8905d6d66286fc8252e5ebe9cb1c345c35ebf05b91586545e2887cd0abfbdb8e", func := "capsule/capsulelaw04.FlashHolds", spec := "flashHolds", unfollowed := true, recurses := true, apart := false, narrowed := true }
def FlashHoldsUptoSaid : Prop := flashHoldsUptoRow.holds Try.pinned (OpenSpec.upto flashHoldsSpec)

end Rows
end Go.Proofs.Ytddejcoagcaidaa
