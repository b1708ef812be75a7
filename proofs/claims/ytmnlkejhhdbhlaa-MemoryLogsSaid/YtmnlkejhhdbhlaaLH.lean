/- MemoryLogs, whatever the input. Conditions stand in each theorem. -/
import Derived.Test.YtmnlkejhhdbhlaaLG
namespace Go.Proofs.Ytmnlkejhhdbhlaa
open Go.RowKit Go.Shelf
attribute [local go_sem] Oper.semAt_some
set_option linter.unusedVariables false
set_option maxHeartbeats 8000000
set_option maxRecDepth 100000
theorem mlogs_any (vat : Value) (ws : List Nat) (many : Int) (w : World) (hws : U16s w vat ws) : Calls Try.prog 4 #[vat, .int .i64 many] w (OkB w) := by
  by_cases h1 : ws.length ≤ 600
  · exact logs_in vat ws many w hws h1
  · have HW := Lib.hid works_any
    obtain ⟨A, c, rfl, -⟩ := hws
    have g1 : decide ((ws.length : Int) > 600) = true := decide_eq_true (by omega)
    have g2 : decide ((600 : Int) < (ws.length : Int)) = true := decide_eq_true (by omega)
    have g3 : decide (600 < ws.length) = true := decide_eq_true (by omega)
    have hb0 := below_alloc w (.cells #[.bool false] 4)
    have HX4 := Lib.hid (Bx1.new w 4 (.bool false))
    have HB0 := Lib.hid hb0
    clear h1 hb0
    refine (callsIn_wide (n := 9)).1 ?_
    refine callsIn_of_wp_marks Try.func4 rfl trivial ?_ rfl
    simp only [Try.ntmps4, List.size_toArray, List.length_cons, List.length_nil, Nat.reduceAdd, Nat.reduceSub, Array.replicate_succ, Array.replicate_zero, List.push_toArray, List.append_toArray, List.nil_append, List.cons_append]
    refine wpIn_wide.2 ?_
    go_wp2_with ((go_at_call 10; with_reducible refine (HW.out _).mono ?_); rintro e w1 ⟨rfl, hb⟩; have HX := Lib.hid (HX4.out.below hb); have x4 := HX.out.cell; have f4 := HX.out.free; have HB := Lib.hid (HB0.out.trans (hb.mono (by simp))); clear hb)
    exact law_true (q := w.heap.size) (Ds := []) (Marks.nil _ _) HB.out HX.out (Nat.le_refl _) fun W' h => res4 W' _ _ rfl h
end Go.Proofs.Ytmnlkejhhdbhlaa
