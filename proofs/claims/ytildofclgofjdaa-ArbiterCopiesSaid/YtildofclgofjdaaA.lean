/- The contracts of missing, isNumber, isWeight, valid, weights. Conditions stand in each theorem. -/
import Derived.Test.YtildofclgofjdaaMp
namespace Go.Proofs.Ytildofclgofjdaa
open Go.RowKit
set_option linter.unusedVariables false
set_option maxHeartbeats 400000

theorem missing_nil (w : World) : Calls Try.prog 30 #[.pointer none] w fun e w' => e = .returned (.bool true) ∧ w = w' := by
  go_enter Try.func30, Try.ntmps30
  go_wp2
  go_ret
  exact ⟨rfl, rfl⟩
theorem missing_zero (b : Nat) (w : World) (h : w.cell? ⟨b, 5, none⟩ = some (.map none)) : Calls Try.prog 30 #[.pointer (some ⟨b, 0, none⟩)] w fun e w' => e = .returned (.bool true) ∧ w = w' := by
  have hq := fun (w : World) (p : Option Nat) => run_eql_map_nil (P := Try.prog) w 68 3 39 p Try.underlying68
  go_enter Try.func30, Try.ntmps30
  go_wp2
  go_ret
  exact ⟨rfl, rfl⟩
theorem missing_not (b m : Nat) (w : World) (h : w.cell? ⟨b, 5, none⟩ = some (.map (some m))) : Calls Try.prog 30 #[.pointer (some ⟨b, 0, none⟩)] w fun e w' => e = .returned (.bool false) ∧ w = w' := by
  have hq := fun (w : World) (p : Option Nat) => run_eql_map_nil (P := Try.prog) w 68 3 39 p Try.underlying68
  go_enter Try.func30, Try.ntmps30
  go_wp2
  go_ret
  exact ⟨rfl, rfl⟩
def numB (q : Int) : Bool := decide (0 ≤ q ∧ q ≤ 65535)
theorem isNumber_any (q : Int) (w : World) : Calls Try.prog 31 #[.int .i64 q] w fun e w' => e = .returned (.bool (numB q)) ∧ w = w' := by
  unfold numB
  by_cases h1 : 0 ≤ q <;> by_cases h2 : q ≤ 65535
  all_goals
    go_enter Try.func31, Try.ntmps31
    go_wp2
    go_ret
    exact ⟨by simp [h1, h2], rfl⟩
def wgtB (q : Int) : Bool := decide (1 ≤ q ∧ q ≤ 256)
theorem isWeight_any (q : Int) (w : World) : Calls Try.prog 44 #[.int .i64 q] w fun e w' => e = .returned (.bool (wgtB q)) ∧ w = w' := by
  unfold wgtB
  by_cases h1 : 1 ≤ q <;> by_cases h2 : q ≤ 256
  all_goals
    go_enter Try.func44, Try.ntmps44
    go_wp2
    go_ret
    exact ⟨by simp [h1, h2], rfl⟩
end Go.Proofs.Ytildofclgofjdaa
