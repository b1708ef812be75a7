/- The reference's New. Conditions stand in each theorem. -/
import Derived.Test.YteiemegkdnjpgaaYA
namespace Go.Proofs.Yteiemegkdnjpgaa
open Go.RowKit Go.Shelf
set_option linter.unusedVariables false
set_option maxHeartbeats 1000000
set_option maxRecDepth 100000
theorem results_row1 {P : Program} {fn : Func} {a b : Tmp} {ty : TypeId} (h : fn.results = #[.cell a ty, .tmp b]) (tmps : Array Value) (w : World) (g : Nat) (t : TypeId) (cs : Array Value) (fr : Nat × Nat) (d : TypeDesc) (ha : tmps.getD a undef = .pointer (some ⟨g, 0, none⟩)) (hg : w.heap[g]? = some (.cells cs t fr))
    (hu : P.underlying ty = some d) (hd : (match d with | .struct _ | .array _ _ => true | _ => false) = true) (hi : (P.info? ty).map (·.size) = some cs.size) : (results fn tmps).run P w = .ok (.tuple #[.agg cs, tmps.getD b undef]) w := by
  have e := run_loadVar_row (P := P) w g t ty cs fr d hg hu hd hi
  have ha2 : tmps[a]?.getD undef = .pointer (some ⟨g, 0, none⟩) := by simpa using ha
  simp [results, h, ha2, asAddr, e]
theorem rnew_ok {s b p : Int} (w : World) (hv : valB s b p = true) : Calls Try.prog 9 #[.int .i64 s, .int .i64 b, .int .i64 p] w fun e w' => e = .returned (.tuple #[rv s b p (.slice none 0 0), .int .i64 0]) ∧ Below w.heap.size w w' := by
  have hb := Lib.hid (below_alloc w (.cells #[.int .i64 0, .int .i64 0, .int .i64 0, .slice none 0 0] 29))
  obtain ⟨s', b', p', rfl, rfl, rfl, hF⟩ := valB_nat hv
  have h1 := hF.hs
  have h2 := hF.hb
  have h3 := hF.hp
  clear hv hF
  unfold rv
  go_enter Try.func9, Try.ntmps9
  go_wp2
  refine bodyPost_ret (results_row1 rfl _ _ w.heap.size 29 #[.int .i64 (s' : Int), .int .i64 (b' : Int), .int .i64 (p' : Int), .slice none 0 0] (0, 0) _ rfl (heap_alloc_new w _) Try.underlying29 rfl (by kernel_rfl)) rfl ⟨rfl, below_alloc w _⟩
theorem rnew_bad {s b p : Int} (w : World) (hv : valB s b p = false) : Calls Try.prog 9 #[.int .i64 s, .int .i64 b, .int .i64 p] w fun e w' => e = .returned (.tuple #[rv 0 0 0 (.slice none 0 0), .int .i64 2]) ∧ Below w.heap.size w w' := by
  have hn : ¬ (((((1 ≤ s ∧ s ≤ 16777216) ∧ 2 ≤ b) ∧ b ≤ 4096) ∧ 2 ≤ p) ∧ p ≤ 512) := by
    intro hx
    unfold valB wiB at hv
    rw [← Bool.not_eq_true] at hv
    exact hv (by simp only [Bool.and_eq_true, decide_eq_true_eq]; omega)
  clear hv
  unfold rv
  go_enter Try.func9, Try.ntmps9
  go_wp2
  all_goals
    refine bodyPost_ret (results_row1 rfl _ _ w.heap.size 29 #[.int .i64 0, .int .i64 0, .int .i64 0, .slice none 0 0] (0, 0) _ rfl (heap_alloc_new w _) Try.underlying29 rfl (by kernel_rfl)) rfl ⟨rfl, below_alloc w _⟩
end Go.Proofs.Yteiemegkdnjpgaa
