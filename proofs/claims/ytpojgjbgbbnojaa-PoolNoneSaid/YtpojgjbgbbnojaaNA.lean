/- The methods of a pool that has no blocks: the nil one and the zero one. Conditions stand in each theorem. -/
import Derived.Test.YtpojgjbgbbnojaaVC
import Derived.Test.YtpojgjbgbbnojaaF
namespace Go.Proofs.Ytpojgjbgbbnojaa
open Go.RowKit
set_option linter.unusedVariables false
set_option maxHeartbeats 1000000
set_option maxRecDepth 100000
/-- A pool that has no blocks. -/
def Ms (w : World) (v : Value) : Prop := v = .pointer none ∨ ∃ b, v = .pointer (some ⟨b, 0, none⟩) ∧ w.cell? ⟨b, 0, none⟩ = some (.slice none 0 0)
section
variable {w w' : World} {v : Value}
theorem Ms.below (h : Ms w v) (hb : Below w.heap.size w w') : Ms w' v := by
  rcases h with rfl | ⟨b, rfl, k⟩
  · exact .inl rfl
  · exact .inr ⟨b, rfl, (hb.cell (World.block_lt_of_cell? w _ k)).trans k⟩
theorem all_ms (h : Ms w v) : Calls Try.prog 38 #[v] w fun e w' => e = .returned (.slice none 0 0) ∧ w = w' := by
  rcases h with rfl | ⟨b, rfl, k0⟩
  · go_enter Try.func38, Try.ntmps38
    go_wp2
    go_ret
    exact ⟨rfl, rfl⟩
  · go_enter Try.func38, Try.ntmps38
    go_wp2
    go_ret
    exact ⟨rfl, rfl⟩
theorem missing_ms (h : Ms w v) : Calls Try.prog 41 #[v] w fun e w' => e = .returned (.bool true) ∧ w = w' := by
  have H := Lib.hid (all_ms h)
  clear h
  go_enter Try.func41, Try.ntmps41
  go_wp2_with ((go_at_call 38; with_reducible refine H.out.mono ?_); rintro e w' ⟨rfl, rfl⟩)
  go_ret
  exact ⟨rfl, rfl⟩
theorem wiB_no (q : Int) : wiB q 0 (-1) = false := by
  unfold wiB
  exact decide_eq_false (by omega)
theorem hasBlock_ms (h : Ms w v) (q : Int) : Calls Try.prog 53 #[v, .int .i64 q] w fun e w' => e = .returned (.bool false) ∧ w = w' := by
  have H := Lib.hid (all_ms h)
  clear h
  go_enter Try.func53, Try.ntmps53
  go_wp2_with (first
    | ((go_at_call 38; with_reducible refine H.out.mono ?_); rintro e w' ⟨rfl, rfl⟩)
    | ((go_at_call 27; with_reducible refine (within_any _ _ _ _).mono ?_); rintro e w' ⟨rfl, rfl⟩))
  go_ret
  exact ⟨by first | rfl | (rw [wiB_no]; rfl) | (simp [wiB_no]), rfl⟩
theorem refusal_ms (h : Ms w v) (b : Bool) (q : Int) : Calls Try.prog 51 #[v, .bool b, .int .i64 q] w fun e w' => e = .returned (.int .i64 1) ∧ w = w' := by
  have H := Lib.hid (missing_ms h)
  clear h
  go_enter Try.func51, Try.ntmps51
  go_wp2_with ((go_at_call 41; with_reducible refine H.out.mono ?_); rintro e w' ⟨rfl, rfl⟩)
  go_ret
  exact ⟨rfl, rfl⟩
theorem move_ms (h : Ms w v) (q to more : Int) (f : Value) : Calls Try.prog 48 #[v, .int .i64 q, .int .i64 to, .int .i64 more, f] w fun e w' => e = .returned (.int .i64 1) ∧ w = w' := by
  have HR := Lib.hid (refusal_ms h true q)
  clear h
  go_enter Try.func48, Try.ntmps48
  go_wp2
  refine wp_scope_forward 0 rfl ?_
  go_wp2_with ((go_at_call 51; with_reducible refine HR.out.mono ?_); rintro e w' ⟨rfl, rfl⟩)
  go_step3
  refine ⟨rfl, ?_⟩
  dsimp only
  go_wp2
  rw [Exit.noGoto_ret]
  go_ret
  exact ⟨rfl, rfl⟩
theorem Close_ms (h : Ms w v) (q : Int) : Calls Try.prog 20 #[v, .int .i64 q] w fun e w' => e = .returned (.int .i64 1) ∧ w = w' := by
  have H := Lib.hid (move_ms h)
  clear h
  go_enter Try.func20, Try.ntmps20
  go_wp2_with ((go_at_call 48; with_reducible refine (H.out _ _ _ _).mono ?_); rintro e w' ⟨rfl, rfl⟩)
  go_ret
  exact ⟨rfl, rfl⟩
theorem Release_ms (h : Ms w v) (q : Int) : Calls Try.prog 21 #[v, .int .i64 q] w fun e w' => e = .returned (.int .i64 1) ∧ w = w' := by
  have H := Lib.hid (move_ms h)
  clear h
  go_enter Try.func21, Try.ntmps21
  go_wp2_with ((go_at_call 48; with_reducible refine (H.out _ _ _ _).mono ?_); rintro e w' ⟨rfl, rfl⟩)
  go_ret
  exact ⟨rfl, rfl⟩
theorem Retire_ms (h : Ms w v) (q : Int) : Calls Try.prog 22 #[v, .int .i64 q] w fun e w' => e = .returned (.int .i64 1) ∧ w = w' := by
  have H := Lib.hid (move_ms h)
  clear h
  go_enter Try.func22, Try.ntmps22
  go_wp2_with ((go_at_call 48; with_reducible refine (H.out _ _ _ _).mono ?_); rintro e w' ⟨rfl, rfl⟩)
  go_ret
  exact ⟨rfl, rfl⟩
theorem Set_ms (h : Ms w v) (q s n : Int) : Calls Try.prog 23 #[v, .int .i64 q, .int .i64 s, .int .i64 n] w fun e w' => e = .returned (.int .i64 1) ∧ w = w' := by
  have HR := Lib.hid (fun b => refusal_ms h b q)
  have H1 := Lib.hid (isState_any s w)
  have H2 := Lib.hid (isErases_any n w)
  clear h
  generalize stB s = bs at *
  generalize erB n = be at *
  cases bs <;> cases be
  all_goals
    go_enter Try.func23, Try.ntmps23
    go_wp2
    refine wp_scope_forward 0 rfl ?_
    go_wp2_with (first
      | ((go_at_call 52; with_reducible refine H1.out.mono ?_); rintro e w' ⟨rfl, rfl⟩)
      | ((go_at_call 28; with_reducible refine H2.out.mono ?_); rintro e w' ⟨rfl, rfl⟩)
      | ((go_at_call 51; with_reducible refine (HR.out _).mono ?_); rintro e w' ⟨rfl, rfl⟩))
    go_step3
    refine ⟨rfl, ?_⟩
    dsimp only
    go_wp2
    rw [Exit.noGoto_ret]
    go_ret
    exact ⟨rfl, rfl⟩
theorem State_ms (h : Ms w v) (q : Int) : Calls Try.prog 24 #[v, .int .i64 q] w fun e w' => e = .returned (.int .i64 0) ∧ w = w' := by
  have H := Lib.hid (hasBlock_ms h q)
  clear h
  go_enter Try.func24, Try.ntmps24
  go_wp2_with ((go_at_call 53; with_reducible refine H.out.mono ?_); rintro e w' ⟨rfl, rfl⟩)
  go_ret
  exact ⟨rfl, rfl⟩
theorem Erases_ms (h : Ms w v) (q : Int) : Calls Try.prog 25 #[v, .int .i64 q] w fun e w' => e = .returned (.int .i64 0) ∧ w = w' := by
  have H := Lib.hid (hasBlock_ms h q)
  clear h
  go_enter Try.func25, Try.ntmps25
  go_wp2_with ((go_at_call 53; with_reducible refine H.out.mono ?_); rintro e w' ⟨rfl, rfl⟩)
  go_ret
  exact ⟨rfl, rfl⟩
theorem Count_ms (h : Ms w v) (s : Int) : Calls Try.prog 26 #[v, .int .i64 s] w fun e w' => e = .returned (.int .i64 0) ∧ w = w' := by
  have H := Lib.hid (missing_ms h)
  clear h
  go_enter Try.func26, Try.ntmps26
  go_wp2_with ((go_at_call 41; with_reducible refine H.out.mono ?_); rintro e w' ⟨rfl, rfl⟩)
  go_ret
  exact ⟨rfl, rfl⟩
theorem Copy_ms (h : Ms w v) : Calls Try.prog 16 #[v] w fun e w' => e = .returned (.pointer none) ∧ w = w' := by
  have H := Lib.hid (missing_ms h)
  clear h
  go_enter Try.func16, Try.ntmps16
  go_wp2_with ((go_at_call 41; with_reducible refine H.out.mono ?_); rintro e w' ⟨rfl, rfl⟩)
  go_ret
  exact ⟨rfl, rfl⟩
theorem low_nil (f : Value) (w : World) : Calls Try.prog 44 #[.slice none 0 0, f] w fun e w' => e = .returned (.tuple #[.int .i64 0, .bool false]) ∧ w = w' := by
  go_enter Try.func44, Try.ntmps44
  go_wp2
  refine wp_loop_rounds 1 ?_
  rw [rounds_succ]
  go_wp2
  go_ret2
  exact ⟨rfl, rfl⟩
theorem coldest_ms (h : Ms w v) (s : Int) : Calls Try.prog 42 #[v, .int .i64 s] w fun e w' => e = .returned (.tuple #[.int .i64 0, .bool false]) ∧ Below w.heap.size w w' := by
  have hb := below_alloc w (.cells #[.int .i64 s] 44)
  have H := Lib.hid (all_ms (h.below hb))
  have HB := Lib.hid hb
  clear h hb
  go_enter Try.func42, Try.ntmps42
  go_wp2_with (first
    | ((go_at_call 38; with_reducible refine H.out.mono ?_); rintro e w' ⟨rfl, rfl⟩)
    | ((go_at_call 44; with_reducible refine (low_nil _ _).mono ?_); rintro e w2 ⟨rfl, rfl⟩))
  go_ret2
  exact ⟨rfl, HB.out⟩
theorem Take_ms (h : Ms w v) : Calls Try.prog 17 #[v] w fun e w' => e = .returned (.tuple #[.int .i64 0, .int .i64 1]) ∧ Below w.heap.size w w' := by
  have HC := Lib.hid (coldest_ms h 1)
  have HM := Lib.hid (fun W (hW : Below w.heap.size w W) => missing_ms (h.below hW))
  clear h
  go_enter Try.func17, Try.ntmps17
  go_wp2
  refine wp_scope_forward 0 rfl ?_
  go_wp2_with (first
    | ((go_at_call 42; with_reducible refine HC.out.mono ?_); rintro e w1 ⟨rfl, hb⟩; have HB := Lib.hid hb; clear hb)
    | ((go_at_call 41; with_reducible refine (HM.out _ HB.out).mono ?_); rintro e w' ⟨rfl, rfl⟩))
  go_step3
  refine ⟨rfl, ?_⟩
  dsimp only
  go_wp2
  rw [Exit.noGoto_ret]
  go_ret2
  exact ⟨rfl, HB.out⟩
theorem Cold_ms (h : Ms w v) : Calls Try.prog 18 #[v] w fun e w' => e = .returned (.tuple #[.int .i64 0, .bool false]) ∧ Below w.heap.size w w' := by
  have HC := Lib.hid (coldest_ms h 3)
  clear h
  go_enter Try.func18, Try.ntmps18
  go_wp2_with ((go_at_call 42; with_reducible refine HC.out.mono ?_); rintro e w1 ⟨rfl, hb⟩; have HB := Lib.hid hb; clear hb)
  go_ret2
  exact ⟨rfl, HB.out⟩
theorem Spread_ms (h : Ms w v) : Calls Try.prog 19 #[v] w fun e w' => e = .returned (.tuple #[.int .i64 0, .int .i64 0]) ∧ w = w' := by
  have H := Lib.hid (all_ms h)
  clear h
  go_enter Try.func19, Try.ntmps19
  go_wp2_with (first
    | ((go_at_call 38; with_reducible refine H.out.mono ?_); rintro e w' ⟨rfl, rfl⟩)
    | ((go_at_call 44; with_reducible refine (low_nil _ _).mono ?_); rintro e w2 ⟨rfl, rfl⟩))
  go_ret2
  exact ⟨rfl, rfl⟩
/-- What Blocks leaves: an iterator that yields nothing. -/
def BlN (w : World) (s : Int) (e : Ending) (w' : World) : Prop :=
  ∃ B5 B3, e = .returned (.func (.func 39) #[] #[.pointer (some ⟨B5, 0, none⟩), .pointer (some ⟨B3, 0, none⟩)]) ∧ Below w.heap.size w w' ∧ ∀ B' W, Below w'.heap.size w' W → Yields Try.prog 39 #[.pointer (some ⟨B5, 0, none⟩), .pointer (some ⟨B3, 0, none⟩)] fe (fun _ => False) B' (fl [] s) W
theorem Blocks_ms (h : Ms w v) (s : Int) : Calls Try.prog 14 #[v, .int .i64 s] w (BlN w s) := by
  have b0 := below_alloc w (.cells #[.int .i64 s] 44)
  have HA := Lib.hid (all_ms (h.below b0))
  have HB0 := Lib.hid b0
  have HX0 := Lib.hid (Bx1.new w 44 (.int .i64 s))
  clear h b0
  refine (callsIn_wide (n := 9)).1 ?_
  have f38 : Fence.wide.fn 38 := trivial
  have f37 : Fence.wide.fn 37 := trivial
  refine callsIn_of_wp_marks Try.func14 rfl trivial ?_ rfl
  simp only [Try.ntmps14, List.size_toArray, List.length_cons, List.length_nil, Nat.reduceAdd, Nat.reduceSub, Array.replicate_succ, Array.replicate_zero, List.push_toArray, List.append_toArray, List.nil_append, List.cons_append]
  gi_wp2_with (first
    | (gi_at_call 38; refine (callsIn_wide.2 HA.out).mono ?_; rintro e w' ⟨rfl, rfl⟩)
    | (gi_at_call 37; refine (callsIn_wide.2 (Clone_nil _)).mono ?_; rintro e w2 ⟨rfl, rfl⟩))
  refine ⟨_, results_tmp rfl _ _ _, ?_⟩
  have b3 : Below w.heap.size w ((w.alloc (.cells #[.int .i64 s] 44)).alloc (.cells #[.slice none 0 0] 48)) := HB0.out.alloc (by simp) _
  have x5 := Bx1.new (w.alloc (.cells #[.int .i64 s] 44)) 48 (.slice none 0 0)
  rw [World.size_alloc] at x5
  refine ⟨_, _, rfl, b3, fun B' W hW => blocks_none (fun _ => False) B' _ _ s W (fun k hk => hk.elim) (x5.below hW) ((HX0.out.below (below_alloc _ _)).below hW)⟩
end
end Go.Proofs.Ytpojgjbgbbnojaa
