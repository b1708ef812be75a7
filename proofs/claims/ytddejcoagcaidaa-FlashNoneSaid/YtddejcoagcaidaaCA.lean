/- The methods without a device: a nil pointer, a zero value. Conditions stand in each theorem. -/
import Derived.Test.YtddejcoagcaidaaP
import Derived.Test.YtddejcoagcaidaaO
namespace Go.Proofs.Ytddejcoagcaidaa
open Go.RowKit
set_option linter.unusedVariables false
set_option maxHeartbeats 1000000
set_option maxRecDepth 100000
/-- The pointer p leads to no device, in w and in every later world. -/
def Miss (w : World) (p : Option Addr) : Prop := ∀ W, Below w.heap.size w W → Calls Try.prog 46 #[.pointer p] W fun e w' => e = .returned (.bool true) ∧ W = w'
theorem Miss.nil (w : World) : Miss w none := fun W _ => missing_nil W
theorem Miss.zero (w : World) (b : Nat) (hb : b < w.heap.size) (h : w.cell? ⟨b, 4, none⟩ = some (.slice none 0 0)) : Miss w (some ⟨b, 0, none⟩) := fun W hW => missing_zero b W ((hW.cell (by exact hb)).trans h)
theorem Miss.later {w w' : World} {p : Option Addr} (h : Miss w p) (hb : Below w.heap.size w w') : Miss w' p := fun W hW => h W (hb.trans (hW.mono hb.size))
section
variable {w : World} {p : Option Addr}
theorem hasBlock_miss (h : Miss w p) (q : Int) : Calls Try.prog 54 #[.pointer p, .int .i64 q] w fun e w' => e = .returned (.bool false) ∧ w = w' := by
  have HM := Lib.hid h
  have HM0 := Lib.hid (h w (Below.refl _ _))
  clear h
  go_enter Try.func54, Try.ntmps54
  go_wp2_with (first
    | ((go_at_call 46; with_reducible refine HM0.out.mono ?_); rintro e w' ⟨rfl, rfl⟩))
  go_ret
  exact ⟨rfl, rfl⟩
theorem hasPage_miss (h : Miss w p) (q r : Int) : Calls Try.prog 44 #[.pointer p, .int .i64 q, .int .i64 r] w fun e w' => e = .returned (.bool false) ∧ w = w' := by
  have HM := Lib.hid h
  have HM0 := Lib.hid (h w (Below.refl _ _))
  clear h
  go_enter Try.func44, Try.ntmps44
  go_wp2_with (first
    | ((go_at_call 54; with_reducible refine (hasBlock_miss HM.out _).mono ?_); rintro e w' ⟨rfl, rfl⟩))
  go_ret
  exact ⟨rfl, rfl⟩
theorem refusal_miss (h : Miss w p) (v : Bool) : Calls Try.prog 43 #[.pointer p, .bool v] w fun e w' => e = .returned (.int .i64 1) ∧ w = w' := by
  have HM := Lib.hid h
  have HM0 := Lib.hid (h w (Below.refl _ _))
  clear h
  go_enter Try.func43, Try.ntmps43
  go_wp2_with (first
    | ((go_at_call 46; with_reducible refine HM0.out.mono ?_); rintro e w' ⟨rfl, rfl⟩))
  go_ret
  exact ⟨rfl, rfl⟩
theorem Restart_miss (h : Miss w p) : Calls Try.prog 21 #[.pointer p] w fun e w' => e = .returned (.int .i64 1) ∧ w = w' := by
  have HM := Lib.hid h
  have HM0 := Lib.hid (h w (Below.refl _ _))
  clear h
  go_enter Try.func21, Try.ntmps21
  go_wp2_with (first
    | ((go_at_call 46; with_reducible refine HM0.out.mono ?_); rintro e w' ⟨rfl, rfl⟩))
  go_ret
  exact ⟨rfl, rfl⟩
theorem Powered_miss (h : Miss w p) : Calls Try.prog 25 #[.pointer p] w fun e w' => e = .returned (.bool false) ∧ w = w' := by
  have HM := Lib.hid h
  have HM0 := Lib.hid (h w (Below.refl _ _))
  clear h
  go_enter Try.func25, Try.ntmps25
  go_wp2_with (first
    | ((go_at_call 46; with_reducible refine HM0.out.mono ?_); rintro e w' ⟨rfl, rfl⟩))
  go_ret
  exact ⟨rfl, rfl⟩
theorem Operations_miss (h : Miss w p) : Calls Try.prog 27 #[.pointer p] w fun e w' => e = .returned (.int .i64 0) ∧ w = w' := by
  have HM := Lib.hid h
  have HM0 := Lib.hid (h w (Below.refl _ _))
  clear h
  go_enter Try.func27, Try.ntmps27
  go_wp2_with (first
    | ((go_at_call 46; with_reducible refine HM0.out.mono ?_); rintro e w' ⟨rfl, rfl⟩))
  go_ret
  exact ⟨rfl, rfl⟩
theorem Next_miss (h : Miss w p) (q : Int) : Calls Try.prog 28 #[.pointer p, .int .i64 q] w fun e w' => e = .returned (.int .i64 0) ∧ w = w' := by
  have HM := Lib.hid h
  have HM0 := Lib.hid (h w (Below.refl _ _))
  clear h
  go_enter Try.func28, Try.ntmps28
  go_wp2_with (first
    | ((go_at_call 54; with_reducible refine (hasBlock_miss HM.out _).mono ?_); rintro e w' ⟨rfl, rfl⟩))
  go_ret
  exact ⟨rfl, rfl⟩
theorem Erases_miss (h : Miss w p) (q : Int) : Calls Try.prog 29 #[.pointer p, .int .i64 q] w fun e w' => e = .returned (.int .i64 0) ∧ w = w' := by
  have HM := Lib.hid h
  have HM0 := Lib.hid (h w (Below.refl _ _))
  clear h
  go_enter Try.func29, Try.ntmps29
  go_wp2_with (first
    | ((go_at_call 54; with_reducible refine (hasBlock_miss HM.out _).mono ?_); rintro e w' ⟨rfl, rfl⟩))
  go_ret
  exact ⟨rfl, rfl⟩
theorem State_miss (h : Miss w p) (q r : Int) : Calls Try.prog 30 #[.pointer p, .int .i64 q, .int .i64 r] w fun e w' => e = .returned (.int .i64 0) ∧ w = w' := by
  have HM := Lib.hid h
  have HM0 := Lib.hid (h w (Below.refl _ _))
  clear h
  go_enter Try.func30, Try.ntmps30
  go_wp2_with (first
    | ((go_at_call 44; with_reducible refine (hasPage_miss HM.out _ _).mono ?_); rintro e w' ⟨rfl, rfl⟩))
  go_ret
  exact ⟨rfl, rfl⟩
theorem Read_miss (h : Miss w p) (q r : Int) : Calls Try.prog 18 #[.pointer p, .int .i64 q, .int .i64 r] w fun e w' => e = .returned (.tuple #[.slice none 0 0, .slice none 0 0, .int .i64 1]) ∧ w = w' := by
  have HM := Lib.hid h
  clear h
  go_enter Try.func18, Try.ntmps18
  go_wp2
  refine wp_scope_forward 0 rfl ?_
  go_wp2_with (first
    | ((go_at_call 44; with_reducible refine (hasPage_miss HM.out _ _).mono ?_); rintro e w' ⟨rfl, rfl⟩)
    | ((go_at_call 43; with_reducible refine (refusal_miss HM.out _).mono ?_); rintro e w' ⟨rfl, rfl⟩))
  go_step3
  refine ⟨rfl, ?_⟩
  dsimp only
  go_wp2
  rw [Exit.noGoto_ret]
  go_ret3
  exact ⟨rfl, rfl⟩
theorem Program_miss (h : Miss w p) (q r : Int) (A0 A1 : Option Addr) (n0 n1 c0 c1 : Nat) : Calls Try.prog 23 #[.pointer p, .int .i64 q, .int .i64 r, .slice A0 n0 c0, .slice A1 n1 c1] w fun e w' => e = .returned (.int .i64 1) ∧ w = w' := by
  have HM := Lib.hid h
  clear h
  go_enter Try.func23, Try.ntmps23
  go_wp2
  refine wp_scope_forward 0 rfl ?_
  go_wp2_with (first
    | ((go_at_call 44; with_reducible refine (hasPage_miss HM.out _ _).mono ?_); rintro e w' ⟨rfl, rfl⟩)
    | ((go_at_call 43; with_reducible refine (refusal_miss HM.out _).mono ?_); rintro e w' ⟨rfl, rfl⟩))
  go_step3
  refine ⟨rfl, ?_⟩
  dsimp only
  go_wp2
  rw [Exit.noGoto_ret]
  go_ret
  exact ⟨rfl, rfl⟩
theorem Erase_miss (h : Miss w p) (q : Int) : Calls Try.prog 22 #[.pointer p, .int .i64 q] w fun e w' => e = .returned (.int .i64 1) ∧ w = w' := by
  have HM := Lib.hid h
  clear h
  go_enter Try.func22, Try.ntmps22
  go_wp2
  refine wp_scope_forward 0 rfl ?_
  go_wp2_with (first
    | ((go_at_call 54; with_reducible refine (hasBlock_miss HM.out _).mono ?_); rintro e w' ⟨rfl, rfl⟩)
    | ((go_at_call 43; with_reducible refine (refusal_miss HM.out _).mono ?_); rintro e w' ⟨rfl, rfl⟩))
  go_step3
  refine ⟨rfl, ?_⟩
  dsimp only
  go_wp2
  rw [Exit.noGoto_ret]
  go_ret
  exact ⟨rfl, rfl⟩
theorem Geometry_miss (h : Miss w p) : Calls Try.prog 26 #[.pointer p] w fun e w' => e = .returned (.agg #[.int .i64 0, .int .i64 0, .int .i64 0, .int .i64 0]) ∧ Below w.heap.size w w' := by
  have HM := Lib.hid (h _ (below_alloc w (.cells #[.int .i64 0, .int .i64 0, .int .i64 0, .int .i64 0] 23)))
  clear h
  go_enter Try.func26, Try.ntmps26
  go_wp2_with (((go_at_call 46; with_reducible refine HM.out.mono ?_); rintro e w' ⟨rfl, rfl⟩))
  refine bodyPost_ret (v := .agg #[.int .i64 0, .int .i64 0, .int .i64 0, .int .i64 0]) ?_ rfl ?_
  · first
      | exact results_cell_row (P := Try.prog) (p := 2) (ty := 23) rfl _ _ w.heap.size 23 #[.int .i64 0, .int .i64 0, .int .i64 0, .int .i64 0] (0, 0) _ rfl (heap_alloc_new w _) Try.underlying23 rfl info23
      | trace_state
  · exact ⟨rfl, below_alloc w _⟩
theorem Cut_miss (h : Miss w p) (o n : Int) : Calls Try.prog 24 #[.pointer p, .int .i64 o, .int .i64 n] w fun e w' => e = .returned (.int .i64 1) ∧ Below w.heap.size w w' := by
  have HM := Lib.hid h
  have hfd := field23
  clear h
  by_cases h1 : 0 ≤ o
  · have d1 : decide (0 ≤ o) = true := decide_eq_true h1
    go_enter Try.func24, Try.ntmps24
    go_wp2
    refine wp_scope_forward 0 rfl ?_
    go_wp2_with (first
      | ((go_at_call 27; with_reducible refine (Operations_miss HM.out).mono ?_); rintro e w' ⟨rfl, rfl⟩)
      | ((go_at_call 26; with_reducible refine (Geometry_miss HM.out).mono ?_); rintro e w1 ⟨rfl, hb⟩; have HB := Lib.hid hb; clear hb)
      | ((go_at_call 57; with_reducible refine (within_any _ _ _ _).mono ?_); rintro e w' ⟨rfl, rfl⟩)
      | ((go_at_call 43; with_reducible refine (refusal_miss (HM.out.later HB.out) _).mono ?_); rintro e w' ⟨rfl, rfl⟩))
    go_step3
    refine ⟨rfl, ?_⟩
    dsimp only
    go_wp2
    rw [Exit.noGoto_ret]
    go_ret
    exact ⟨rfl, HB.out⟩
  · have d1 : decide (0 ≤ o) = false := decide_eq_false h1
    go_enter Try.func24, Try.ntmps24
    go_wp2
    refine wp_scope_forward 0 rfl ?_
    go_wp2_with (first
      | ((go_at_call 27; with_reducible refine (Operations_miss HM.out).mono ?_); rintro e w' ⟨rfl, rfl⟩)
      | ((go_at_call 43; with_reducible refine (refusal_miss HM.out _).mono ?_); rintro e w' ⟨rfl, rfl⟩))
    go_step3
    refine ⟨rfl, ?_⟩
    dsimp only
    go_wp2
    rw [Exit.noGoto_ret]
    go_ret
    exact ⟨rfl, Below.refl _ _⟩
end
end Go.Proofs.Ytddejcoagcaidaa
