/- The deferred closure of Build; how Build leaves; a drawn region whose post hangs on the frame. Conditions stand in each theorem. -/
import Derived.Test.YtngaifokkkmmcaaBF
import Derived.Great.Frames
import Derived.OrdersHeld
namespace Go.Proofs.Ytngaifokkkmmcaa
open Go.RowKit Go.Shelf
set_option linter.unusedVariables false
set_option maxHeartbeats 2000000
set_option maxRecDepth 100000
/-- Build's boxes. -/
structure Bx (w W : World) (n0 : Nat) : Prop where
  fst : ∃ v, W.heap[n0]? = some (.cells #[v] 23 (0, 0))
  snd : ∃ v, W.heap[n0 + 1]? = some (.cells #[v] 23 (0, 0))
  err : ∃ v, W.heap[n0 + 2]? = some (.cells #[v] 38 (0, 0))
theorem Bx.chg {S : Nat → Prop} {w W W' : World} {n0 : Nat} (h : Bx w W n0) (hc : Chg S W W') (hS : ∀ k, S k → k < n0 ∨ n0 + 2 < k) : Bx w W' n0 := by
  obtain ⟨v, h1⟩ := h.fst
  obtain ⟨u, h2⟩ := h.snd
  obtain ⟨x, h3⟩ := h.err
  exact ⟨⟨v, (hc.block _ (Array.getElem?_eq_some_iff.1 h1).1 (fun hs => by have := hS _ hs; omega)).trans h1⟩, ⟨u, (hc.block _ (Array.getElem?_eq_some_iff.1 h2).1 (fun hs => by have := hS _ hs; omega)).trans h2⟩, ⟨x, (hc.block _ (Array.getElem?_eq_some_iff.1 h3).1 (fun hs => by have := hS _ hs; omega)).trans h3⟩⟩
/-- What three boxes hold behind three stores. -/
theorem three_boxes {W : World} {n0 : Nat} {u v x a b c : Value} (h1 : W.heap[n0]? = some (.cells #[u] 23 (0, 0))) (h2 : W.heap[n0 + 1]? = some (.cells #[v] 23 (0, 0))) (h3 : W.heap[n0 + 2]? = some (.cells #[x] 38 (0, 0))) (W' : World)
    (hW : W' = ((W.setCell ⟨n0, 0, none⟩ a).setCell ⟨n0 + 1, 0, none⟩ b).setCell ⟨n0 + 2, 0, none⟩ c) :
    W'.heap[n0]? = some (.cells #[a] 23 (0, 0)) ∧ W'.heap[n0 + 1]? = some (.cells #[b] 23 (0, 0)) ∧ W'.heap[n0 + 2]? = some (.cells #[c] 38 (0, 0)) ∧ Chg (fun k => k = n0 ∨ k = n0 + 1 ∨ k = n0 + 2) W W' := by
  subst hW
  refine ⟨?_, ?_, ?_, (((Chg.refl (fun k => k = n0 ∨ k = n0 + 1 ∨ k = n0 + 2) W).setCell (p := ⟨n0, 0, none⟩) (.inl rfl) _).setCell (p := ⟨n0 + 1, 0, none⟩) (.inr (.inl rfl)) _).setCell (p := ⟨n0 + 2, 0, none⟩) (.inr (.inr rfl)) _⟩
  · exact (Below.heap_setCell _ _ _ _ (by show n0 ≠ n0 + 2; omega)).trans ((Below.heap_setCell _ _ _ _ (by show n0 ≠ n0 + 1; omega)).trans (heap_setCell_same W n0 0 _ 23 _ h1))
  · exact (Below.heap_setCell _ _ _ _ (by show n0 + 1 ≠ n0 + 2; omega)).trans (heap_setCell_same _ (n0 + 1) 0 _ 23 _ ((Below.heap_setCell _ _ _ _ (by show n0 + 1 ≠ n0; omega)).trans h2))
  · exact heap_setCell_same _ (n0 + 2) 0 _ 38 _ ((Below.heap_setCell _ _ _ _ (by show n0 + 2 ≠ n0 + 1; omega)).trans ((Below.heap_setCell _ _ _ _ (by show n0 + 2 ≠ n0; omega)).trans h3))
theorem catchB_panicking (n0 : Nat) (q : Int) (older : List PanicEntry) (W : World) (u v x : Value) (h1 : W.heap[n0]? = some (.cells #[u] 23 (0, 0))) (h2 : W.heap[n0 + 1]? = some (.cells #[v] 23 (0, 0))) (h3 : W.heap[n0 + 2]? = some (.cells #[x] 38 (0, 0))) :
    CallsDIn Fence.wide 8 Try.prog 33 #[.pointer (some ⟨n0, 0, none⟩), .pointer (some ⟨n0 + 1, 0, none⟩), .pointer (some ⟨n0 + 2, 0, none⟩)] (.panicking ({ v := .iface 38 (.int .i64 q), recovered := false } :: older)) W fun e u' w' =>
      e = .returned (.tuple #[]) ∧ u' = .panicking ({ v := .iface 38 (.int .i64 q), recovered := true } :: older) ∧
        w'.heap[n0]? = some (.cells #[.int .u64 0] 23 (0, 0)) ∧ w'.heap[n0 + 1]? = some (.cells #[.int .u64 0] 23 (0, 0)) ∧ w'.heap[n0 + 2]? = some (.cells #[.int .i64 q] 38 (0, 0)) ∧ Chg (fun k => k = n0 ∨ k = n0 + 1 ∨ k = n0 + 2) W w' := by
  refine callsDIn_of_wpSIn Try.func33 rfl trivial fun c₀ cs hu => ?_
  apply wpSIn_seq
  apply wpSIn_region
  have has := assert_some38 q
  simp [wpOpsSIn, go_sem, recoverD, hu, Try.ntmps33, Exit.thenS, has, Array.replicate_succ, Array.replicate_zero, List.push_toArray, List.append_toArray, List.setIfInBounds_toArray, List.set_cons_succ, List.set_cons_zero]
  refine wpSIn_of_wpIn rfl (wpIn_wide.2 ?_)
  have c1 := cell_of_row W n0 0 _ 23 (0, 0) h1
  have f1 := frozen_of_row W n0 0 _ 23 h1
  have c2 := cell_of_row W (n0 + 1) 0 _ 23 (0, 0) h2
  have f2 := frozen_of_row W (n0 + 1) 0 _ 23 h2
  have c3 := cell_of_row W (n0 + 2) 0 _ 38 (0, 0) h3
  have f3 := frozen_of_row W (n0 + 2) 0 _ 38 h3
  have R := Lib.hid (three_boxes (a := .int .u64 0) (b := .int .u64 0) (c := .int .i64 q) h1 h2 h3 _ rfl)
  clear h1 h2 h3
  go_wp2
  exact ⟨rfl, _, rfl, _, by simp [results, Try.results33, go_sem], rfl, rfl, R.out⟩
theorem catchB_idle (p q r : Nat) (W : World) :
    CallsDIn Fence.wide 8 Try.prog 33 #[.pointer (some ⟨p, 0, none⟩), .pointer (some ⟨q, 0, none⟩), .pointer (some ⟨r, 0, none⟩)] .returning W fun e u' w' => e = .returned (.tuple #[]) ∧ u' = .returning ∧ w' = W := by
  refine callsDIn_of_wpSIn Try.func33 rfl trivial fun c₀ cs hu => ?_
  apply wpSIn_seq
  apply wpSIn_region
  simp [wpOpsSIn, go_sem, recoverD, hu, Try.ntmps33, Exit.thenS, assert_none38]
  refine wpSIn_of_wpIn rfl (wpIn_wide.2 ?_)
  change Code.wp _ _ _ { tmps := #[.pointer (some ⟨p, 0, none⟩), .pointer (some ⟨q, 0, none⟩), .pointer (some ⟨r, 0, none⟩), .int .i64 0, .bool false, .tuple #[.int .i64 0, .bool false], .nilIface, .tuple #[.int .i64 0, .bool false], .int .i64 0, .bool false, undef, undef], defers := [] } _
  go_wp2
  cases c₀
  simp_all [bodyPostS, results, Try.results33]
/-- The deferred call of Build. -/
def dfB (n0 : Nat) : Deferred := { target := .fn (.func 33) #[.pointer (some ⟨n0, 0, none⟩), .pointer (some ⟨n0 + 1, 0, none⟩), .pointer (some ⟨n0 + 2, 0, none⟩)], args := #[] }
/-- Build's boxes in its frame. -/
def TB (n0 : Nat) (tmps : Array Value) : Prop := tmps[10]? = some (.pointer (some ⟨n0, 0, none⟩)) ∧ tmps[11]? = some (.pointer (some ⟨n0 + 1, 0, none⟩)) ∧ tmps[12]? = some (.pointer (some ⟨n0 + 2, 0, none⟩))
theorem res15 {W : World} {n0 : Nat} {tmps : Array Value} {u v x : Value} (h1 : W.heap[n0]? = some (.cells #[u] 23 (0, 0))) (h2 : W.heap[n0 + 1]? = some (.cells #[v] 23 (0, 0))) (h3 : W.heap[n0 + 2]? = some (.cells #[x] 38 (0, 0)))
    (ht : TB n0 tmps) : (results Try.f15 tmps).run Try.prog W = .ok (.tuple #[u, v, x]) W := by
  have c1 := cell_of_row W n0 0 _ 23 (0, 0) h1
  have c2 := cell_of_row W (n0 + 1) 0 _ 23 (0, 0) h2
  have c3 := cell_of_row W (n0 + 2) 0 _ 38 (0, 0) h3
  obtain ⟨t1, t2, t3⟩ := ht
  simp [results, Try.results15, go_sem, t1, t2, t3, c1, c2, c3]
theorem leaveB_ok {W : World} {n0 : Nat} {tmps : Array Value} {R : Ending → World → Prop} {u v : Value} (h1 : W.heap[n0]? = some (.cells #[u] 23 (0, 0))) (h2 : W.heap[n0 + 1]? = some (.cells #[v] 23 (0, 0))) (h3 : W.heap[n0 + 2]? = some (.cells #[.int .i64 0] 38 (0, 0)))
    (ht : TB n0 tmps) (hR : R (.returned (.tuple #[u, v, .int .i64 0])) W) :
    LeavesInM Fence.wide 9 Try.prog Try.f15 tmps R [dfB n0] .returning W := by
  refine ⟨by simp, .inr ⟨(fun h => by cases h), _, _, 33, (#[.pointer (some ⟨n0, 0, none⟩), .pointer (some ⟨n0 + 1, 0, none⟩), .pointer (some ⟨n0 + 2, 0, none⟩)] : Array Value), rfl, by simp [dfB, go_sem], fun _ _ => trivial, ?_⟩⟩
  have h := catchB_idle n0 (n0 + 1) (n0 + 2) W
  refine ⟨trivial, fun c cs hu hr => ?_⟩
  obtain ⟨e, u', w', fr, ⟨rfl, rfl, rfl⟩, hs⟩ := h.2 c cs hu hr
  exact ⟨.returned (.tuple #[]), .returning, _, fr, (show LeavesInM Fence.wide 9 Try.prog Try.f15 tmps R [] (settle .returning) _ from ⟨_, res15 h1 h2 h3 ht, hR⟩), hs⟩
theorem leaveB_err {w W : World} {n0 : Nat} {q : Int} {tmps : Array Value} {R : Ending → World → Prop} (h : Bx w W n0)
    (ht : TB n0 tmps) (hR : ∀ W', Chg (fun k => k = n0 ∨ k = n0 + 1 ∨ k = n0 + 2) W W' → R (.returned (.tuple #[.int .u64 0, .int .u64 0, .int .i64 q])) W') :
    LeavesInM Fence.wide 9 Try.prog Try.f15 tmps R [dfB n0] (.panicking [{ v := .iface 38 (.int .i64 q), recovered := false }]) W := by
  obtain ⟨u, h1⟩ := h.fst
  obtain ⟨v, h2⟩ := h.snd
  obtain ⟨x, h3⟩ := h.err
  refine ⟨by simp, .inr ⟨(fun h => by cases h), _, _, 33, (#[.pointer (some ⟨n0, 0, none⟩), .pointer (some ⟨n0 + 1, 0, none⟩), .pointer (some ⟨n0 + 2, 0, none⟩)] : Array Value), rfl, by simp [dfB, go_sem], fun _ _ => trivial, ?_⟩⟩
  have hc := catchB_panicking n0 q [] W u v x h1 h2 h3
  refine ⟨trivial, fun c cs hu hr => ?_⟩
  obtain ⟨e, u', w', fr, ⟨rfl, rfl, r1, r2, r3, r4⟩, hs⟩ := hc.2 c cs hu hr
  exact ⟨.returned (.tuple #[]), _, _, fr, (show LeavesInM Fence.wide 9 Try.prog Try.f15 tmps R [] (settle (.panicking [{ v := .iface 38 (.int .i64 q), recovered := true }])) _ from ⟨_, res15 r1 r2 r3 ht, hR _ r4⟩), hs⟩
/-- How a function leaves hangs on its results alone. -/
theorem leavesM_congr {F : Fence} {n : Nat} {P : Program} {fn : Func} {t t' : Array Value} {R : Ending → World → Prop} (he : results fn t = results fn t') : ∀ (ds : List Deferred) (u : FrameMode) (w : World), LeavesInM F n P fn t R ds u w → LeavesInM F n P fn t' R ds u w
  | [], u, w, h => by
    cases u with
    | run => exact h
    | returning =>
      obtain ⟨v, h1, h2⟩ := (show ∃ v, (results fn t).run P w = .ok v w ∧ R (.returned v) w from h)
      exact (show ∃ v, (results fn t').run P w = .ok v w ∧ R (.returned v) w from ⟨v, he ▸ h1, h2⟩)
    | panicking c => exact h
  | d :: ds, u, w, ⟨h0, h⟩ => by
    refine ⟨h0, ?_⟩
    rcases h with ⟨r, w', h1, h2, h3⟩ | ⟨hn, fv, cap, f, args, h1, h2, h3, h4⟩
    · exact .inl ⟨r, w', h1, h2, leavesM_congr he ds u w' h3⟩
    · refine .inr ⟨hn, fv, cap, f, args, h1, h2, h3, h4.mono ?_⟩
      intro e u' w' h5
      cases e with
      | returned v => exact leavesM_congr he ds _ w' h5
      | panicked c => exact leavesM_congr he ds _ w' h5
      | outgrown => exact h5
theorem res15_put (a : Act) (k : Nat) (v : Value) (hk : 13 ≤ k) : results Try.f15 (a.put (some k) v).tmps = results Try.f15 a.tmps := by
  have e : ∀ i, i < 13 → (a.put (some k) v).tmps[i]? = a.tmps[i]? := fun i hi => by
    simp only [Act.put]
    rw [Array.getElem?_setIfInBounds_ne (by omega)]
  have e10 := e 10 (by omega)
  have e11 := e 11 (by omega)
  have e12 := e 12 (by omega)
  unfold results
  simp [Try.results15, e10, e11, e12]
/-- A put that the results do not look at. -/
theorem hq15 {R : Ending → World → Prop} {K : Act → World → Prop} (k : Nat) (hk : 13 ≤ k) (v : Value) (c : List PanicEntry) (a : Act) (w : World) (h : Exit.then K (bodyPostM Fence.wide 9 Try.prog Try.f15 R) (.panic c) (a.put (some k) v) w) : Exit.then K (bodyPostM Fence.wide 9 Try.prog Try.f15 R) (.panic c) a w := by
  have h' : LeavesInM Fence.wide 9 Try.prog Try.f15 (a.put (some k) v).tmps R (a.put (some k) v).defers (.panicking c) w := h
  rw [Act.defers_put'] at h'
  exact leavesM_congr (res15_put a k v hk) _ _ _ h'
end Go.Proofs.Ytngaifokkkmmcaa
