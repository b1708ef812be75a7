/- The deferred closure of Spans; how Spans leaves. Conditions stand in each theorem. -/
import Derived.Test.YtngaifokkkmmcaaSR
import Derived.RecoverIn
namespace Go.Proofs.Ytngaifokkkmmcaa
open Go.RowKit Go.Shelf
set_option linter.unusedVariables false
set_option maxHeartbeats 2000000
set_option maxRecDepth 100000
theorem assert_none38 (w : World) : (Instr.typeAssert .nilIface 20 38 true).run Try.prog w = .ok (.tuple #[.int .i64 0, .bool false]) w := by kernel_rfl
theorem catchS_panicking (n0 : Nat) (q : Int) (older : List PanicEntry) (W : World) (u v : Value) (h1 : W.heap[n0]? = some (.cells #[u] 26 (0, 0))) (h2 : W.heap[n0 + 1]? = some (.cells #[v] 38 (0, 0))) :
    CallsDIn Fence.wide 8 Try.prog 46 #[.pointer (some ⟨n0, 0, none⟩), .pointer (some ⟨n0 + 1, 0, none⟩)] (.panicking ({ v := .iface 38 (.int .i64 q), recovered := false } :: older)) W fun e u' w' =>
      e = .returned (.tuple #[]) ∧ u' = .panicking ({ v := .iface 38 (.int .i64 q), recovered := true } :: older) ∧
        w'.heap[n0]? = some (.cells #[.slice none 0 0] 26 (0, 0)) ∧ w'.heap[n0 + 1]? = some (.cells #[.int .i64 q] 38 (0, 0)) ∧ Chg (fun k => k = n0 ∨ k = n0 + 1) W w' := by
  refine callsDIn_of_wpSIn Try.func46 rfl trivial fun c₀ cs hu => ?_
  apply wpSIn_seq
  apply wpSIn_region
  have has := assert_some38 q
  simp [wpOpsSIn, go_sem, recoverD, hu, Try.ntmps46, Exit.thenS, has, Array.replicate_succ, Array.replicate_zero, List.push_toArray, List.append_toArray, List.setIfInBounds_toArray, List.set_cons_succ, List.set_cons_zero]
  refine wpSIn_of_wpIn rfl (wpIn_wide.2 ?_)
  have c1 := cell_of_row W n0 0 _ 26 (0, 0) h1
  have f1 := frozen_of_row W n0 0 _ 26 h1
  have c2 := cell_of_row W (n0 + 1) 0 _ 38 (0, 0) h2
  have f2 := frozen_of_row W (n0 + 1) 0 _ 38 h2
  have r1 : ((W.setCell ⟨n0, 0, none⟩ (.slice none 0 0)).setCell ⟨n0 + 1, 0, none⟩ (.int .i64 q)).heap[n0]? = some (.cells #[.slice none 0 0] 26 (0, 0)) :=
    (Below.heap_setCell _ _ _ _ (by show n0 ≠ n0 + 1; omega)).trans (heap_setCell_same W n0 0 _ 26 _ h1)
  have r2 : ((W.setCell ⟨n0, 0, none⟩ (.slice none 0 0)).setCell ⟨n0 + 1, 0, none⟩ (.int .i64 q)).heap[n0 + 1]? = some (.cells #[.int .i64 q] 38 (0, 0)) :=
    heap_setCell_same _ (n0 + 1) 0 _ 38 _ ((Below.heap_setCell _ _ _ _ (by show n0 + 1 ≠ n0; omega)).trans h2)
  have r3 : Chg (fun k => k = n0 ∨ k = n0 + 1) W ((W.setCell ⟨n0, 0, none⟩ (.slice none 0 0)).setCell ⟨n0 + 1, 0, none⟩ (.int .i64 q)) := ((Chg.refl (fun k => k = n0 ∨ k = n0 + 1) W).setCell (p := ⟨n0, 0, none⟩) (.inl rfl) _).setCell (p := ⟨n0 + 1, 0, none⟩) (.inr rfl) _
  have R := Lib.hid (And.intro r1 (And.intro r2 r3))
  clear r1 r2 r3 h1 h2
  go_wp2
  exact ⟨rfl, _, rfl, _, by simp [results, Try.results46, go_sem], rfl, rfl, R.out.1, R.out.2.1, R.out.2.2⟩
theorem catchS_idle (p q : Nat) (W : World) :
    CallsDIn Fence.wide 8 Try.prog 46 #[.pointer (some ⟨p, 0, none⟩), .pointer (some ⟨q, 0, none⟩)] .returning W fun e u' w' => e = .returned (.tuple #[]) ∧ u' = .returning ∧ w' = W := by
  refine callsDIn_of_wpSIn Try.func46 rfl trivial fun c₀ cs hu => ?_
  apply wpSIn_seq
  apply wpSIn_region
  simp [wpOpsSIn, go_sem, recoverD, hu, Try.ntmps46, Exit.thenS, assert_none38]
  refine wpSIn_of_wpIn rfl (wpIn_wide.2 ?_)
  change Code.wp _ _ _ { tmps := #[.pointer (some ⟨p, 0, none⟩), .pointer (some ⟨q, 0, none⟩), .int .i64 0, .bool false, .tuple #[.int .i64 0, .bool false], .nilIface, .tuple #[.int .i64 0, .bool false], .int .i64 0, .bool false, undef, undef], defers := [] } _
  go_wp2
  cases c₀
  simp_all [bodyPostS, results, Try.results46]
/-- The deferred call of Spans. -/
def dfS (n0 : Nat) : Deferred := { target := .fn (.func 46) #[.pointer (some ⟨n0, 0, none⟩), .pointer (some ⟨n0 + 1, 0, none⟩)], args := #[] }
theorem res20 {W : World} {n0 : Nat} {tmps : Array Value} {u v : Value} (h1 : W.heap[n0]? = some (.cells #[u] 26 (0, 0))) (h2 : W.heap[n0 + 1]? = some (.cells #[v] 38 (0, 0)))
    (t8 : tmps[8]? = some (.pointer (some ⟨n0, 0, none⟩))) (t9 : tmps[9]? = some (.pointer (some ⟨n0 + 1, 0, none⟩))) : (results Try.f20 tmps).run Try.prog W = .ok (.tuple #[u, v]) W := by
  have c1 := cell_of_row W n0 0 _ 26 (0, 0) h1
  have c2 := cell_of_row W (n0 + 1) 0 _ 38 (0, 0) h2
  simp [results, Try.results20, go_sem, t8, t9, c1, c2]
/-- Spans leaves without an error. -/
theorem leaveS_ok {w W : World} {n0 : Nat} {tmps : Array Value} {R : Ending → World → Prop} {u : Value} (h1 : W.heap[n0]? = some (.cells #[u] 26 (0, 0))) (h2 : W.heap[n0 + 1]? = some (.cells #[.int .i64 0] 38 (0, 0)))
    (t8 : tmps[8]? = some (.pointer (some ⟨n0, 0, none⟩))) (t9 : tmps[9]? = some (.pointer (some ⟨n0 + 1, 0, none⟩))) (hR : R (.returned (.tuple #[u, .int .i64 0])) W) :
    LeavesInM Fence.wide 9 Try.prog Try.f20 tmps R [dfS n0] .returning W := by
  refine ⟨by simp, .inr ⟨(fun h => by cases h), _, _, 46, (#[.pointer (some ⟨n0, 0, none⟩), .pointer (some ⟨n0 + 1, 0, none⟩)] : Array Value), rfl, by simp [dfS, go_sem], fun _ _ => trivial, ?_⟩⟩
  have h := catchS_idle n0 (n0 + 1) W
  refine ⟨trivial, fun c cs hu hr => ?_⟩
  obtain ⟨e, u', w', fr, ⟨rfl, rfl, rfl⟩, hs⟩ := h.2 c cs hu hr
  exact ⟨.returned (.tuple #[]), .returning, _, fr, (show LeavesInM Fence.wide 9 Try.prog Try.f20 tmps R [] (settle .returning) _ from ⟨_, res20 h1 h2 t8 t9, hR⟩), hs⟩
/-- Spans leaves with an error. -/
theorem leaveS_err {w W : World} {n0 : Nat} {q : Int} {tmps : Array Value} {R : Ending → World → Prop} (h : Sxt w W n0)
    (t8 : tmps[8]? = some (.pointer (some ⟨n0, 0, none⟩))) (t9 : tmps[9]? = some (.pointer (some ⟨n0 + 1, 0, none⟩))) (hR : ∀ W', Below n0 w W' → R (.returned (.tuple #[.slice none 0 0, .int .i64 q])) W') :
    LeavesInM Fence.wide 9 Try.prog Try.f20 tmps R [dfS n0] (.panicking [{ v := .iface 38 (.int .i64 q), recovered := false }]) W := by
  obtain ⟨u, h1⟩ := h.row
  obtain ⟨v, h2⟩ := h.err
  refine ⟨by simp, .inr ⟨(fun h => by cases h), _, _, 46, (#[.pointer (some ⟨n0, 0, none⟩), .pointer (some ⟨n0 + 1, 0, none⟩)] : Array Value), rfl, by simp [dfS, go_sem], fun _ _ => trivial, ?_⟩⟩
  have hc := catchS_panicking n0 q [] W u v h1 h2
  refine ⟨trivial, fun c cs hu hr => ?_⟩
  obtain ⟨e, u', w', fr, ⟨rfl, rfl, r1, r2, r3⟩, hs⟩ := hc.2 c cs hu hr
  exact ⟨.returned (.tuple #[]), _, _, fr, (show LeavesInM Fence.wide 9 Try.prog Try.f20 tmps R [] (settle (.panicking [{ v := .iface 38 (.int .i64 q), recovered := true }])) _ from ⟨_, res20 r1 r2 t8 t9, hR _ (h.bel.trans (r3.below (Nat.le_of_lt (Array.getElem?_eq_some_iff.1 h1).1) fun i hi => by rcases hi with rfl | rfl <;> omega))⟩), hs⟩
/-- The same behind the mark of a loop. -/
theorem leaveS_mark {n0 D : Nat} {W : World} {tmps : Array Value} {R : Ending → World → Prop} {u : FrameMode} (hu : u ≠ .run) (hD : W.heap[D]? = some (.deferred (some []))) (h : LeavesInM Fence.wide 9 Try.prog Try.f20 tmps R [dfS n0] u (W.putObj D (.deferred none))) :
    LeavesInM Fence.wide 9 Try.prog Try.f20 tmps R [mrk D, dfS n0] u W :=
  ⟨hu, .inl ⟨D, _, rfl, run_takeDeferred hD, h⟩⟩
end Go.Proofs.Ytngaifokkkmmcaa
