/- The reference's Apply. Conditions stand in each theorem. -/
import Derived.Test.YteiemegkdnjpgaaYS
namespace Go.Proofs.Yteiemegkdnjpgaa
open Go.RowKit Go.Shelf
set_option linter.unusedVariables false
set_option maxHeartbeats 16000000
set_option maxRecDepth 100000
attribute [local go_sem ↓ 100000] builtin_appX
theorem Ent.chg0 {S : Nat → Prop} {W W' : World} {v : Value} {l : List (Int × Int)} (h : Ent W v l) (hk : Chg S W W') (hS : 0 < l.length → ∀ b, v.ownBlock = some b → ¬ S b) : Ent W' v l := by
  rcases Nat.eq_zero_or_pos l.length with h0 | h0
  · obtain ⟨A, c, rfl, hc, _⟩ := h
    exact ⟨A, c, rfl, hc, fun h => by omega⟩
  · exact h.chg hk (hS h0)
/-- Apply's own copy of the map, its result, and the map so far. -/
structure Rm (w : World) (s b p : Int) (v0 v : Value) (L : List (Int × Int)) (W : World) : Prop where
  m : W.heap[w.heap.size]? = some (.cells #[.int .i64 s, .int .i64 b, .int .i64 p, v0] 29 (0, 0))
  r : W.heap[w.heap.size + 1]? = some (.cells #[.int .i64 0, .int .i64 0, .int .i64 0, .slice none 0 0] 29 (0, 0))
  o : W.heap[w.heap.size + 2]? = some (.cells #[.int .i64 s, .int .i64 b, .int .i64 p, v] 29 (0, 0))
  ent : Ent W v L
  own : 0 < L.length → ∀ k, v.ownBlock = some k → k < w.heap.size ∨ w.heap.size + 3 ≤ k
  org : v = v0 ∨ (0 < L.length → ∀ k, v.ownBlock = some k → w.heap.size ≤ k)
  bel : Below w.heap.size w W
section
variable {w W W' : World} {s b p : Int} {v0 v v' : Value} {L L' : List (Int × Int)}
theorem Rm.lt (h : Rm w s b p v0 v L W) : w.heap.size + 2 < W.heap.size := (Array.getElem?_eq_some_iff.1 h.o).1
theorem Rm.later (h : Rm w s b p v0 v L W) (hb : Below W.heap.size W W') : Rm w s b p v0 v L W' := by
  have := h.lt
  exact ⟨(hb.block _ (by omega)).trans h.m, (hb.block _ (by omega)).trans h.r, (hb.block _ (by omega)).trans h.o, h.ent.below hb, h.own, h.org, h.bel.trans (hb.mono h.bel.size)⟩
/-- Another list is put into the map so far. -/
theorem Rm.put (h : Rm w s b p v0 v L W) (he : Ent W v' L') (hv : 0 < L'.length → ∀ k, v'.ownBlock = some k → w.heap.size + 3 ≤ k) (hc : Chg (fun k => k = w.heap.size + 2) W W') (ho : W'.heap[w.heap.size + 2]? = some (.cells #[.int .i64 s, .int .i64 b, .int .i64 p, v'] 29 (0, 0))) : Rm w s b p v0 v' L' W' := by
  have := h.lt
  refine ⟨(hc.block _ (by omega) (by omega)).trans h.m, (hc.block _ (by omega) (by omega)).trans h.r, ho, he.chg0 hc (fun h0 k hk hS => by have := hv h0 k hk; omega), fun h0 k hk => .inr (hv h0 k hk), .inr (fun h0 k hk => by have := hv h0 k hk; omega), h.bel.trans (hc.below h.bel.size (fun k hk => by omega))⟩
theorem Rm.put4 (h : Rm w s b p v0 v L W) (he : Ent W v' L') (hv : 0 < L'.length → ∀ k, v'.ownBlock = some k → w.heap.size + 3 ≤ k) : Rm w s b p v0 v' L' ((((W.setCell ⟨w.heap.size + 2, 0, none⟩ (.int .i64 s)).setCell ⟨w.heap.size + 2, 1, none⟩ (.int .i64 b)).setCell ⟨w.heap.size + 2, 2, none⟩ (.int .i64 p)).setCell ⟨w.heap.size + 2, 3, none⟩ v') :=
  h.put he hv (((((Chg.refl (fun k => k = w.heap.size + 2) W).setCell (p := ⟨w.heap.size + 2, 0, none⟩) rfl _).setCell (p := ⟨w.heap.size + 2, 1, none⟩) rfl _).setCell (p := ⟨w.heap.size + 2, 2, none⟩) rfl _).setCell (p := ⟨w.heap.size + 2, 3, none⟩) rfl _)
    (heap_setCell_same _ _ _ _ _ _ (heap_setCell_same _ _ _ _ _ _ (heap_setCell_same _ _ _ _ _ _ (heap_setCell_same _ _ _ _ _ _ h.o))))
theorem Rm.put1 (h : Rm w s b p v0 v L W) (he : Ent W v' L') (hv : 0 < L'.length → ∀ k, v'.ownBlock = some k → w.heap.size + 3 ≤ k) : Rm w s b p v0 v' L' (W.setCell ⟨w.heap.size + 2, 3, none⟩ v') :=
  h.put he hv ((Chg.refl (fun k => k = w.heap.size + 2) W).setCell (p := ⟨w.heap.size + 2, 3, none⟩) rfl _) (heap_setCell_same _ _ _ _ _ _ h.o)
/-- The result is set to a map. -/
theorem Rm.fin (h : Rm w s b p v0 v L W) (u : Value) : ((((W.setCell ⟨w.heap.size + 1, 0, none⟩ (.int .i64 s)).setCell ⟨w.heap.size + 1, 1, none⟩ (.int .i64 b)).setCell ⟨w.heap.size + 1, 2, none⟩ (.int .i64 p)).setCell ⟨w.heap.size + 1, 3, none⟩ u).heap[w.heap.size + 1]? = some (.cells #[.int .i64 s, .int .i64 b, .int .i64 p, u] 29 (0, 0)) ∧
    Chg (fun k => k = w.heap.size + 1) W ((((W.setCell ⟨w.heap.size + 1, 0, none⟩ (.int .i64 s)).setCell ⟨w.heap.size + 1, 1, none⟩ (.int .i64 b)).setCell ⟨w.heap.size + 1, 2, none⟩ (.int .i64 p)).setCell ⟨w.heap.size + 1, 3, none⟩ u) :=
  ⟨heap_setCell_same _ _ _ _ _ _ (heap_setCell_same _ _ _ _ _ _ (heap_setCell_same _ _ _ _ _ _ (heap_setCell_same _ _ _ _ _ _ h.r))),
   (((((Chg.refl (fun k => k = w.heap.size + 1) W).setCell (p := ⟨w.heap.size + 1, 0, none⟩) rfl _).setCell (p := ⟨w.heap.size + 1, 1, none⟩) rfl _).setCell (p := ⟨w.heap.size + 1, 2, none⟩) rfl _).setCell (p := ⟨w.heap.size + 1, 3, none⟩) rfl _)⟩
end
/-- What Apply leaves. -/
def RapP (w : World) (s b p : Nat) (v : Value) (L xs : List (Int × Int)) (e : Ending) (w' : World) : Prop := ∃ v', e = .returned (.tuple #[rv s b p v', .int .i64 (appE s b p L xs)]) ∧ Ent w' v' (appS s b p L L xs) ∧ (v' = v ∨ (0 < (appS s b p L L xs).length → ∀ k, v'.ownBlock = some k → w.heap.size ≤ k)) ∧ Below w.heap.size w w'
theorem rap_fin {w W : World} {s b p : Nat} {v0 v u : Value} {L xs M M' : List (Int × Int)} (h : Rm w s b p v0 v M W) (he : Ent W u M') (hu : 0 < M'.length → ∀ k, u.ownBlock = some k → k < w.heap.size ∨ w.heap.size + 3 ≤ k) (ho : u = v0 ∨ (0 < M'.length → ∀ k, u.ownBlock = some k → w.heap.size ≤ k)) (E : Int) (e1 : appS s b p L L xs = M') (e2 : appE s b p L xs = E) :
    RapP w s b p v0 L xs (.returned (.tuple #[.agg #[.int .i64 (s : Int), .int .i64 (b : Int), .int .i64 (p : Int), u], .int .i64 E])) ((((W.setCell ⟨w.heap.size + 1, 0, none⟩ (.int .i64 s)).setCell ⟨w.heap.size + 1, 1, none⟩ (.int .i64 b)).setCell ⟨w.heap.size + 1, 2, none⟩ (.int .i64 p)).setCell ⟨w.heap.size + 1, 3, none⟩ u) := by
  subst e1 e2
  have hc := (h.fin u).2
  exact ⟨u, rfl, he.chg0 hc (fun h0 k hk hS => by have := hu h0 k hk; omega), ho, h.bel.trans (hc.below h.bel.size (fun k hk => by omega))⟩
end Go.Proofs.Yteiemegkdnjpgaa
