/- What VictimOrders needs: the iterator under changes of blocks that are younger than it; the end behind marks. Conditions stand in each theorem. -/
import Derived.Test.YtfcddkehodceaaaKC
import Derived.Maps.AppendAt
namespace Go.Proofs.Ytfcddkehodceaaa
open Go.RowKit Go.Shelf
attribute [local go_sem] Oper.semAt_some
set_option linter.unusedVariables false
set_option maxHeartbeats 8000000
set_option maxRecDepth 100000
theorem OrdAt.same {base : Nat} {w W : World} {q : Nat} {D : List Rk} (h : OrdAt base w q D) (hk : ∀ k, base ≤ k → k < w.heap.size → W.heap[k]? = w.heap[k]?) : OrdAt base W q D := by
  obtain ⟨hq, A, c, h1, h2⟩ := h
  refine ⟨hq, A, c, (hk q hq (Array.getElem?_eq_some_iff.1 h1).1).trans h1, ?_⟩
  rcases h2 with h2 | ⟨g, cap, e, k1, k2, k3⟩
  · exact .inl h2
  · exact .inr ⟨g, cap, e, k1, k2, k3.same (hk g k1 k3.lt)⟩
theorem OrdAt.set {base : Nat} {w : World} {q : Nat} {D : List Rk} (h : OrdAt base w q D) {g o : Nat} (hg : g < base) (u : Value) : OrdAt base (w.setCell ⟨g, o, none⟩ u) q D :=
  h.same fun k hk _ => Below.heap_setCell w _ _ _ (by show k ≠ g; omega)
/-- A round may change old blocks and blocks that are younger than the world w. -/
theorem ord_yields2 (S : Nat → Prop) (B' base q : Nat) (D : List Rk) (w : World) (h : OrdAt base w q D) (hl : D.length ≤ 4096) (hS : ∀ k, S k → k < base ∨ w.heap.size ≤ k) : Yields Try.prog 24 #[.pointer (some ⟨q, 0, none⟩)] ev S B' D w := fun l0 J Jx W hW hB' hJ hJx hY h0 => by
  by_cases hD : D = []
  · subst hD
    exact ord_yields (fun _ => False) B' base q [] w h hl (fun k hk => hk.elim) l0 J Jx W hW hB' hJ hJx (fun k hk => absurd hk (by simp)) h0
  · obtain ⟨hq, A, c, h1, h2⟩ := h
    obtain ⟨g, cap, rfl, k1, k2, k3⟩ := h2.resolve_left hD
    have h1' := (hW.block q (Array.getElem?_eq_some_iff.1 h1).1).trans h1
    have hc : W.cell? ⟨q, 0, none⟩ = some (.slice (some ⟨g, 0, none⟩) D.length c) := by rw [cell_of_row W q 0 _ 46 (0, 0) h1']; rfl
    have hgw := k3.lt
    exact ord1_in S B' l0 q g cap c D hl (fun h => by have := hS g h; omega) J Jx W hJ hY hc (k3.below hW k3.lt) h0
theorem res5 (W' : World) (q : Nat) (tm : Array Value) (htm : tm.getD 4 undef = .pointer (some ⟨q, 0, none⟩)) (h : W'.cell? ⟨q, 0, none⟩ = some (.bool true)) : (results Try.f5 tm).run Try.prog W' = .ok (.bool true) W' := by
  have e : tm[4]?.getD undef = .pointer (some ⟨q, 0, none⟩) := by simpa using htm
  simp [results, Try.results5, go_sem, h, e]
/-- The end of the law, behind the marks of its loops. -/
theorem or_end {n : Nat} {w W : World} {Ds : List Nat} {tm : Array Value} {q : Nat} {v0 : Value} (hm : Marks w.heap.size Ds W) (hb : Below w.heap.size w W) (hq : Bx1 W q 4 v0) (hqw : w.heap.size ≤ q) (htm : tm.getD 4 undef = .pointer (some ⟨q, 0, none⟩)) :
    LeavesInM Fence.wide n Try.prog Try.f5 tm (RetB w (.bool true)) (Ds.map mrk) .returning (W.setCell ⟨q, 0, none⟩ (.bool true)) := by
  have hm2 : Marks w.heap.size Ds (W.setCell ⟨q, 0, none⟩ (.bool true)) := hm.keep fun D hD => Below.heap_setCell W _ _ _ (by
    show D ≠ q
    rintro rfl
    have := (hm.2 D hD).2
    rw [show W.heap[D]? = _ from hq] at this
    cases this)
  have hq2 : Bx1 (W.setCell ⟨q, 0, none⟩ (.bool true)) q 4 (.bool true) := heap_setCell_same W q 0 _ 4 _ hq
  have hb2 : Below w.heap.size w (W.setCell ⟨q, 0, none⟩ (.bool true)) := hb.setCell hqw _
  generalize W.setCell ⟨q, 0, none⟩ (.bool true) = W2 at *
  refine leaves_marks (n0 := w.heap.size) Ds W2 hm2 fun W' k1 k2 k3 k4 k5 => ?_
  have e1 : Bx1 W' q 4 (.bool true) := (k5 _ fun _ => ⟨_, hq2, rfl⟩).trans hq2
  exact ⟨_, res5 W' q tm htm e1.cell, rfl, ⟨k2.trans hb2.os, k3.trans hb2.tape, k4.trans hb2.output, by have := hb2.size; omega, fun k hk => (k5 k fun hn => by omega).trans (hb2.block k hk)⟩⟩
theorem loop_down {n : Nat} {P : Program} {c : Code} {Q : Exit → Act → World → Prop} {a : Act} {w : World} (I : Nat → Act → World → Prop) (μ : Act → World → Nat) (hμ : ∀ m a w, I m a w → μ a w = m) (m : Nat) (h0 : I m a w)
    (round : ∀ m a w, I m a w → ∀ K : Act → World → Prop, (∀ j a' w', j < m → I j a' w' → K a' w') → c.wpIn Fence.wide n P (Exit.then K Q) a w) : (Code.loop c).wpIn Fence.wide n P Q a w :=
  wpIn_loop (fun a w => ∃ m, I m a w) μ ⟨m, h0⟩ fun a w ⟨m, h⟩ => round m a w h _ fun j a' w' hj hI => ⟨⟨j, hI⟩, by rw [hμ _ _ _ hI, hμ _ _ _ h]; exact hj⟩
/-- A function value against nil. -/
theorem run_equalIn_func_nil {P : Program} (w : World) (d : Nat) (t : TypeId) {ps rs : Array TypeId} {vr : Bool} (f : Fn) (a b : Array Value) (h : P.underlying t = some (.func ps rs vr)) :
    (Op.equalIn (d + 1) t (.func f a b) .nilFunc).run P w = .ok false w := by
  simp [Op.equalIn, run_underlying h]
theorem run_eql_func_nil {P : Program} (w : World) (t : TypeId) {ps rs : Array TypeId} {vr : Bool} (f : Fn) (a b : Array Value) (h : P.underlying t = some (.func ps rs vr)) :
    (binOp .eql t (.func f a b) .nilFunc).run P w = .ok (.bool false) w := by
  simp only [binOp]
  simp [show Op.equal t (.func f a b) .nilFunc = Op.equalIn (9999 + 1) t (.func f a b) .nilFunc from rfl, run_equalIn_func_nil w 9999 t f a b h]
/-- A row of the call's own whose ages may be anything. -/
structure RowA (W : World) (g n : Nat) : Prop where
  row : ∃ cur, W.heap[g]? = some (.cells cur 23 (0, 0)) ∧ n * 4 ≤ cur.size
  el : ∀ i, i < n → ∃ x, W.cell? ⟨g, i * 4 + 3, none⟩ = some (.int .i64 x)
theorem RowA.free {W : World} {g n : Nat} (h : RowA W g n) (o : Nat) : W.frozen? ⟨g, o, none⟩ = false := by
  obtain ⟨cur, h1, _⟩ := h.row
  exact frozen_of_row W g o _ 23 h1
theorem RowA.lt {W : World} {g n : Nat} (h : RowA W g n) : g < W.heap.size := by
  obtain ⟨cur, h1, _⟩ := h.row
  exact (Array.getElem?_eq_some_iff.1 h1).1
theorem RowA.below {W W' : World} {g n : Nat} (h : RowA W g n) (hb : Below W.heap.size W W') : RowA W' g n := by
  obtain ⟨cur, h1, h2⟩ := h.row
  refine ⟨⟨cur, (hb.block g h.lt).trans h1, h2⟩, fun i hi => ?_⟩
  obtain ⟨x, hx⟩ := h.el i hi
  exact ⟨x, (hb.cell (p := ⟨g, i * 4 + 3, none⟩) h.lt).trans hx⟩
theorem RowA.set {W : World} {g n : Nat} (h : RowA W g n) (i : Nat) (hi : i < n) (y : Int) : RowA (W.setCell ⟨g, i * 4 + 3, none⟩ (.int .i64 y)) g n := by
  obtain ⟨cur, h1, h2⟩ := h.row
  have hs := heap_setCell_same W g (i * 4 + 3) cur 23 (.int .i64 y) h1
  refine ⟨⟨_, hs, by simpa using h2⟩, fun j hj => ?_⟩
  by_cases hij : j = i
  · subst hij
    refine ⟨y, ?_⟩
    rw [cell_of_row _ g _ _ 23 (0, 0) hs]
    rw [Array.getElem?_setIfInBounds, if_pos rfl, if_pos (by omega)]
  · obtain ⟨x, hx⟩ := h.el j hj
    refine ⟨x, ?_⟩
    rw [cell_of_row W g _ _ 23 (0, 0) h1] at hx
    rw [cell_of_row _ g _ _ 23 (0, 0) hs]
    rw [← hx]
    have hne : i * 4 + 3 ≠ j * 4 + 3 := by omega
    rw [Array.getElem?_setIfInBounds, if_neg hne]
theorem RowA.of {W : World} {g : Nat} {L : List Cd} (h : RowC W g L) : RowA W g L.length := ⟨h.row, fun i hi => ⟨_, (h.el i hi).c3⟩⟩
end Go.Proofs.Ytfcddkehodceaaa
