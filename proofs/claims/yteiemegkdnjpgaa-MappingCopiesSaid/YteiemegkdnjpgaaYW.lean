/- The state of MappingPlays and MappingCopies: a mapping of the call's own beside the reference's map. Conditions stand in each theorem. -/
import Derived.Test.YteiemegkdnjpgaaYV
namespace Go.Proofs.Yteiemegkdnjpgaa
open Go.RowKit Go.Shelf
set_option linter.unusedVariables false
set_option maxRecDepth 100000
theorem chgr (W : World) (n : Nat) (a b c d : Value) : Chg (fun k => k = n) W ((((W.setCell ⟨n, 0, none⟩ a).setCell ⟨n, 1, none⟩ b).setCell ⟨n, 2, none⟩ c).setCell ⟨n, 3, none⟩ d) :=
  (((((Chg.refl (fun k => k = n) W).setCell (p := ⟨n, 0, none⟩) rfl _).setCell (p := ⟨n, 1, none⟩) rfl _).setCell (p := ⟨n, 2, none⟩) rfl _).setCell (p := ⟨n, 3, none⟩) rfl _)
theorem rowr {W : World} {n : Nat} {x0 x1 x2 x3 : Value} {t : TypeId} (h : W.heap[n]? = some (.cells #[x0, x1, x2, x3] t (0, 0))) (a b c d : Value) : ((((W.setCell ⟨n, 0, none⟩ a).setCell ⟨n, 1, none⟩ b).setCell ⟨n, 2, none⟩ c).setCell ⟨n, 3, none⟩ d).heap[n]? = some (.cells #[a, b, c, d] t (0, 0)) :=
  heap_setCell_same _ _ _ _ _ _ (heap_setCell_same _ _ _ _ _ _ (heap_setCell_same _ _ _ _ _ _ (heap_setCell_same _ _ _ _ _ _ h)))
/-- A map of the reference's in the block X: its list reads as L, and lies apart from X and from what S says. -/
structure Rf (X s b p : Nat) (S : Nat → Prop) (u : Value) (L : List (Int × Int)) (W : World) : Prop where
  row : W.heap[X]? = some (.cells #[.int .i64 (s : Int), .int .i64 (b : Int), .int .i64 (p : Int), u] 29 (0, 0))
  ent : Ent W u L
  own : 0 < L.length → ∀ k, u.ownBlock = some k → k ≠ X ∧ ¬ S k
  nx : ¬ S X
section
variable {X s b p : Nat} {S : Nat → Prop} {u u' : Value} {L L' : List (Int × Int)} {W W' : World}
theorem Rf.lt (h : Rf X s b p S u L W) : X < W.heap.size := (Array.getElem?_eq_some_iff.1 h.row).1
theorem Rf.later (h : Rf X s b p S u L W) (hb : Below W.heap.size W W') : Rf X s b p S u L W' := ⟨(hb.block _ h.lt).trans h.row, h.ent.below hb, h.own, h.nx⟩
theorem Rf.chg (h : Rf X s b p S u L W) (hc : Chg S W W') : Rf X s b p S u L W' := ⟨(hc.block _ h.lt h.nx).trans h.row, h.ent.chg0 hc (fun h0 k hk => (h.own h0 k hk).2), h.own, h.nx⟩
theorem Rf.c0 (h : Rf X s b p S u L W) : W.cell? ⟨X, 0, none⟩ = some (.int .i64 (s : Int)) := by rw [cell_of_row W _ 0 _ _ _ h.row]; rfl
theorem Rf.c1 (h : Rf X s b p S u L W) : W.cell? ⟨X, 1, none⟩ = some (.int .i64 (b : Int)) := by rw [cell_of_row W _ 1 _ _ _ h.row]; rfl
theorem Rf.c2 (h : Rf X s b p S u L W) : W.cell? ⟨X, 2, none⟩ = some (.int .i64 (p : Int)) := by rw [cell_of_row W _ 2 _ _ _ h.row]; rfl
theorem Rf.c3 (h : Rf X s b p S u L W) : W.cell? ⟨X, 3, none⟩ = some u := by rw [cell_of_row W _ 3 _ _ _ h.row]; rfl
theorem Rf.free (h : Rf X s b p S u L W) (k : Nat) : W.frozen? ⟨X, k, none⟩ = false := frozen_of_row W X k _ _ h.row
theorem Rf.put (h : Rf X s b p S u L W) (he : Ent W u' L') (ho : 0 < L'.length → ∀ k, u'.ownBlock = some k → k ≠ X ∧ ¬ S k) : Rf X s b p S u' L' ((((W.setCell ⟨X, 0, none⟩ (.int .i64 (s : Int))).setCell ⟨X, 1, none⟩ (.int .i64 (b : Int))).setCell ⟨X, 2, none⟩ (.int .i64 (p : Int))).setCell ⟨X, 3, none⟩ u') :=
  ⟨rowr h.row _ _ _ _, he.chg0 (chgr W X _ _ _ _) (fun h0 k hk => (ho h0 k hk).1), ho, h.nx⟩
end
/-- What Apply of the reference gives, in a block of its own. -/
structure Qs (wr : World) (Y s b p : Nat) (u u' : Value) (L1 : List (Int × Int)) (wx : World) : Prop where
  bel : Below wr.heap.size wr wx
  row : wx.heap[Y]? = some (.cells #[.int .i64 (s : Int), .int .i64 (b : Int), .int .i64 (p : Int), u'] 29 (0, 0))
  ent : Ent wx u' L1
  own : u' = u ∨ (0 < L1.length → ∀ k, u'.ownBlock = some k → wr.heap.size ≤ k)
  hy : wr.heap.size ≤ Y
section
variable {wr wx : World} {X Y s b p : Nat} {S : Nat → Prop} {u u' : Value} {L L1 : List (Int × Int)}
theorem Qs.c0 (h : Qs wr Y s b p u u' L1 wx) : wx.cell? ⟨Y, 0, none⟩ = some (.int .i64 (s : Int)) := by rw [cell_of_row wx _ 0 _ _ _ h.row]; rfl
theorem Qs.c1 (h : Qs wr Y s b p u u' L1 wx) : wx.cell? ⟨Y, 1, none⟩ = some (.int .i64 (b : Int)) := by rw [cell_of_row wx _ 1 _ _ _ h.row]; rfl
theorem Qs.c2 (h : Qs wr Y s b p u u' L1 wx) : wx.cell? ⟨Y, 2, none⟩ = some (.int .i64 (p : Int)) := by rw [cell_of_row wx _ 2 _ _ _ h.row]; rfl
theorem Qs.c3 (h : Qs wr Y s b p u u' L1 wx) : wx.cell? ⟨Y, 3, none⟩ = some u' := by rw [cell_of_row wx _ 3 _ _ _ h.row]; rfl
/-- The result's list lies apart from X and from S, if the map's own one did. -/
theorem Qs.apart (h : Qs wr Y s b p u u' L1 wx) (hr : Rf X s b p S u L wr) (hS : ∀ k, S k → k < wr.heap.size) : 0 < L1.length → ∀ k, u'.ownBlock = some k → k ≠ X ∧ ¬ S k := by
  intro h0 k hk
  rcases h.own with e | e
  · obtain ⟨A, c, e1, _⟩ := h.ent.form
    obtain ⟨A', c', e2, _⟩ := hr.ent.form
    rw [e, e2] at e1
    injection e1 with _ el _
    rw [e] at hk
    exact hr.own (by omega) k hk
  · have h1 := e h0 k hk
    have h2 := hr.lt
    exact ⟨by omega, fun hs => by have := hS k hs; omega⟩
end
/-- The block first, then the call. -/
theorem qs_first {wr W0 w5 : World} {s b p : Nat} {u u' : Value} {L L1 : List (Int × Int)} (hu : Ent wr u L) (h0 : Below wr.heap.size wr W0) (hz : W0.heap[wr.heap.size]? = some (.cells #[.int .i64 0, .int .i64 0, .int .i64 0, .slice none 0 0] 29 (0, 0))) (hs : wr.heap.size < W0.heap.size)
    (he : Ent w5 u' L1) (ho : u' = u ∨ (0 < L1.length → ∀ k, u'.ownBlock = some k → W0.heap.size ≤ k)) (hb : Below W0.heap.size W0 w5) :
    Qs wr wr.heap.size s b p u u' L1 ((((w5.setCell ⟨wr.heap.size, 0, none⟩ (.int .i64 (s : Int))).setCell ⟨wr.heap.size, 1, none⟩ (.int .i64 (b : Int))).setCell ⟨wr.heap.size, 2, none⟩ (.int .i64 (p : Int))).setCell ⟨wr.heap.size, 3, none⟩ u') := by
  have hb5 : Below wr.heap.size wr w5 := h0.trans (hb.mono (by omega))
  refine ⟨hb5.trans ((chgr w5 wr.heap.size _ _ _ _).below hb5.size (fun i hi => by omega)), rowr ((hb.block _ hs).trans hz) _ _ _ _, he.chg0 (chgr w5 wr.heap.size _ _ _ _) (fun hl k hk e => ?_), ?_, Nat.le_refl _⟩
  · rcases ho with e2 | e2
    · subst e2
      obtain ⟨A, c, e1, _⟩ := he.form
      obtain ⟨A', c', e3, _⟩ := hu.form
      rw [e3] at e1
      injection e1 with _ el _
      have := old_own hu (by omega) hk
      omega
    · have := e2 hl k hk
      omega
  · exact ho.imp id (fun h hl k hk => by have := h hl k hk; omega)
/-- The call first, then the block. -/
theorem qs_second {wr W0 w5 : World} {s b p : Nat} {u u' : Value} {L1 : List (Int × Int)} (h0 : Below wr.heap.size wr W0)
    (he : Ent w5 u' L1) (ho : u' = u ∨ (0 < L1.length → ∀ k, u'.ownBlock = some k → W0.heap.size ≤ k)) (hb : Below W0.heap.size W0 w5) :
    Qs wr w5.heap.size s b p u u' L1 (w5.alloc (.cells #[.int .i64 (s : Int), .int .i64 (b : Int), .int .i64 (p : Int), u'] 29)) := by
  have hb5 : Below wr.heap.size wr w5 := h0.trans (hb.mono h0.size)
  have h0s := h0.size
  exact ⟨hb5.alloc hb5.size _, heap_alloc_new w5 _, he.below (below_alloc w5 _), ho.imp id (fun h hl k hk => by have := h hl k hk; omega), hb5.size⟩
end Go.Proofs.Yteiemegkdnjpgaa
