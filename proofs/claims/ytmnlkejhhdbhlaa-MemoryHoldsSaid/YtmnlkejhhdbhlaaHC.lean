/- MemoryHolds, whatever the input. Conditions stand in each theorem. -/
import Derived.Test.YtmnlkejhhdbhlaaHB
namespace Go.Proofs.Ytmnlkejhhdbhlaa
open Go.RowKit Go.Shelf
attribute [local go_sem] Oper.semAt_some
set_option linter.unusedVariables false
set_option maxHeartbeats 8000000
set_option maxRecDepth 100000
theorem holds_any (vat vl : Value) (ws : List Nat) (ls : List (List UInt8)) (x0 : Nat) (w : World) (hws : U16s w vat ws) (hls : Rws w vl ls) (hx0 : x0 < 65536) :
    Calls Try.prog 8 #[vat, vl, .int .u16 (x0 : Int)] w (OkB w) := by
  by_cases h1 : ls.length ≤ 30
  · by_cases h2 : ls.length ≤ ws.length
    · exact holds_in vat vl ws ls x0 w hws hls h1 h2 hx0
    · have HW := Lib.hid (works_any w)
      obtain ⟨A, c, rfl, -⟩ := hws
      obtain ⟨A2, c2, rfl, -⟩ := hls
      have g1 : decide ((ls.length : Int) > 30) = false := decide_eq_false (by omega)
      have g2 : decide ((30 : Int) < (ls.length : Int)) = false := decide_eq_false (by omega)
      have g5 : decide (30 < ls.length) = false := decide_eq_false (by omega)
      have g3 : decide ((ws.length : Int) < (ls.length : Int)) = true := decide_eq_true (by omega)
      have g4 : decide (ws.length < ls.length) = true := decide_eq_true (by omega)
      clear h1 h2
      refine (callsIn_wide (n := 9)).1 ?_
      refine callsIn_of_wp_marks Try.func8 rfl trivial ?_ rfl
      simp only [Try.ntmps8, List.size_toArray, List.length_cons, List.length_nil, Nat.reduceAdd, Nat.reduceSub, Array.replicate_succ, Array.replicate_zero, List.push_toArray, List.append_toArray, List.nil_append, List.cons_append]
      refine wpIn_wide.2 ?_
      go_wp2_with ((go_at_call 10; with_reducible refine HW.out.mono ?_); rintro e w1 ⟨rfl, hb⟩; have HB := Lib.hid hb; clear hb)
      exact end8 (Ds := []) (Marks.nil _ _) HB.out rfl
  · have HW := Lib.hid (works_any w)
    obtain ⟨A, c, rfl, -⟩ := hws
    obtain ⟨A2, c2, rfl, -⟩ := hls
    have g1 : decide ((ls.length : Int) > 30) = true := decide_eq_true (by omega)
    have g2 : decide ((30 : Int) < (ls.length : Int)) = true := decide_eq_true (by omega)
    have g5 : decide (30 < ls.length) = true := decide_eq_true (by omega)
    clear h1
    refine (callsIn_wide (n := 9)).1 ?_
    refine callsIn_of_wp_marks Try.func8 rfl trivial ?_ rfl
    simp only [Try.ntmps8, List.size_toArray, List.length_cons, List.length_nil, Nat.reduceAdd, Nat.reduceSub, Array.replicate_succ, Array.replicate_zero, List.push_toArray, List.append_toArray, List.nil_append, List.cons_append]
    refine wpIn_wide.2 ?_
    go_wp2_with ((go_at_call 10; with_reducible refine HW.out.mono ?_); rintro e w1 ⟨rfl, hb⟩; have HB := Lib.hid hb; clear hb)
    exact end8 (Ds := []) (Marks.nil _ _) HB.out rfl
end Go.Proofs.Ytmnlkejhhdbhlaa
