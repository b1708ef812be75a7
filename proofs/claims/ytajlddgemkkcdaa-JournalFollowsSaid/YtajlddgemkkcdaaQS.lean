/- The contract of the reference's Follow. Conditions stand in each theorem. -/
import Derived.Test.YtajlddgemkkcdaaQP
import Derived.Deep.LoopGhost
namespace Go.Proofs.Ytajlddgemkkcdaa
open Go.RowKit
set_option linter.unusedVariables false
set_option maxHeartbeats 16000000
set_option maxRecDepth 100000
attribute [local go_sem ↓ 100000] builtin_appX
theorem info4b : (Try.prog.info? 4).map (fun i => (i.zero, i.size, i.bytes)) = some (some (.bool false), 1, 1) := by kernel_rfl
/-- The marks of places. -/
def mks (n : Nat) (us : List Nat) : Array Value := ((List.range n).map fun i => Value.bool (decide (i ∈ us))).toArray
theorem mks_set {n p : Nat} {us : List Nat} (hp : p < n) : (mks n us).setIfInBounds p (.bool true) = mks n (us ++ [p]) := by
  apply Array.ext
  · simp [mks]
  · intro i h1 h2
    by_cases e : p = i
    · subst e; simp [mks]
    · have e2 : ¬ i = p := fun h => e h.symm
      simp [mks, e, e2]
theorem make_bools (n : Nat) (hn : n ≤ 10000) (W : World) : (Instr.makeSlice 57 (.int .i64 (n : Int)) (.int .i64 (n : Int))).run Try.prog W = .ok (.slice (some ⟨W.heap.size, 0, none⟩) n n) (W.alloc (.cells (mks n []) 4)) := by
  obtain ⟨i0, hi0, hz0, hz1, hz2⟩ := info_parts8 info4b
  have hr := run_makeSlice (P := Try.prog) W 57 4 i0 _ Try.underlying57 hi0 hz0 .i64 .i64 n n (by omega) (Int.le_refl _) (by rw [hz1]; omega) (by rw [hz2]; omega) (by omega)
  have e : madeCells #[.bool false] n = mks n [] := by
    apply Array.ext
    · simp [size_madeCells, mks]
    · intro i h1 h2
      simp [mks, madeCells, Nat.mod_one]
  rw [hr, hz1]
  simp [Value.cells, e]
/-- The state of the reference's Follow: its result's box, the chain's, the marks. -/
structure FS (w W : World) (rb cb ub n : Nat) (en : List (Int × Int)) (la : Int) (us ul : List Nat) (Ae : Option Addr) (ce : Nat) (Au : Option Addr) (cu : Nat) : Prop where
  rbx : W.heap[rb]? = some (.cells #[.slice none 0 0, .int .u64 0, .slice none 0 0] 52 (0, 0))
  cs : ChS W cb (w.heap.size + 3) en la ul (.slice Ae en.length ce) (.slice Au ul.length cu)
  ubx : W.heap[ub]? = some (.cells (mks n us) 4 (0, 0))
  ord : rb = w.heap.size ∧ cb = rb + 1 ∧ ub = cb + 1
  bel : Below w.heap.size w W
  sz : w.heap.size + 3 ≤ W.heap.size
section
variable {w W W' : World} {rb cb ub n : Nat} {en : List (Int × Int)} {la : Int} {us ul : List Nat} {Ae : Option Addr} {ce : Nat} {Au : Option Addr} {cu : Nat}
theorem FS.below (h : FS w W rb cb ub n en la us ul Ae ce Au cu) (hb : Below W.heap.size W W') : FS w W' rb cb ub n en la us ul Ae ce Au cu :=
  ⟨(hb.block _ (Array.getElem?_eq_some_iff.1 h.rbx).1).trans h.rbx, ⟨(hb.block _ (Array.getElem?_eq_some_iff.1 h.cs.blk).1).trans h.cs.blk, own_below8 h.cs.ve hb, own_below8 h.cs.vu hb⟩, (hb.block _ (Array.getElem?_eq_some_iff.1 h.ubx).1).trans h.ubx, h.ord, h.bel.trans (hb.mono h.bel.size), Nat.le_trans h.sz hb.size⟩
/-- A place is marked. -/
theorem FS.mark (h : FS w W rb cb ub n en la us ul Ae ce Au cu) {p : Nat} (hp : p < n) : FS w (W.setCell ⟨ub, p, none⟩ (.bool true)) rb cb ub n en la (us ++ [p]) ul Ae ce Au cu := by
  have e : ∀ k, k ≠ ub → (W.setCell ⟨ub, p, none⟩ (.bool true)).heap[k]? = W.heap[k]? := fun k hk => heap_setCell_other W ⟨ub, p, none⟩ k _ hk
  refine ⟨(e _ (by have := h.ord; omega)).trans h.rbx, ⟨(e _ (by have := h.ord; omega)).trans h.cs.blk, own_set h.cs.ve h.ubx (by decide), own_set h.cs.vu h.ubx (by decide)⟩, ?_, h.ord, h.bel.setCell (p := ⟨ub, p, none⟩) (by have := h.ord; show w.heap.size ≤ ub; omega) _, by rw [World.size_setCell]; exact h.sz⟩
  have := heap_setCell_same W ub p (mks n us) 4 (.bool true) h.ubx
  rwa [mks_set hp] at this
/-- Entries are appended to the chain. -/
theorem FS.ents (h : FS w W rb cb ub n en la us ul Ae ce Au cu) {es : List (Int × Int)} {A : Option Addr} {c : Nat} (hx : Ent W (.slice A es.length c) es) (hn : en.length + es.length ≤ 100000000) :
    ∃ B d W2, (appX #[22, 22] 22 #[.slice Ae en.length ce, .slice A es.length c]).run Try.prog W = .ok (.value (.slice B (en.length + es.length) d)) W2 ∧ W2.cell? ⟨cb, 0, none⟩ = some (.slice Ae en.length ce) ∧ W2.frozen? ⟨cb, 0, none⟩ = false ∧
      FS w (W2.setCell ⟨cb, 0, none⟩ (.slice B (en.length + es.length) d)) rb cb ub n (en ++ es) la us ul B d Au cu ∧
      (∀ (k : Nat) (cs : Array Value), W.heap[k]? = some (Obj.cells cs 3 (0, 0)) → (W2.setCell ⟨cb, 0, none⟩ (.slice B (en.length + es.length) d)).heap[k]? = some (Obj.cells cs 3 (0, 0))) := by
  obtain ⟨B, d, W2, hrun, ho2, hg2⟩ := app_ent h.cs.ve hx hn h.sz
  have hcb2 := row_apart h.cs.ve hg2 h.cs.blk (by decide)
  have hrb2 := row_apart h.cs.ve hg2 h.rbx (by decide)
  have hub2 := row_apart h.cs.ve hg2 h.ubx (by decide)
  have hap := own_apart h.cs.vu h.cs.ve (by decide)
  have e : ∀ k, k ≠ cb → (W2.setCell ⟨cb, 0, none⟩ (.slice B (en.length + es.length) d)).heap[k]? = W2.heap[k]? := fun k hk => heap_setCell_other W2 ⟨cb, 0, none⟩ k _ hk
  have hbel2 : Below w.heap.size w W2 := h.bel.grown hg2 (by have := h.sz; omega) (fun b hb => by have := (h.cs.ve.lt b hb).1; omega)
  refine ⟨B, d, W2, hrun, cell_of_row _ _ 0 _ _ _ hcb2, frozen_of_row _ _ 0 _ _ hcb2, ⟨(e _ (by have := h.ord; omega)).trans hrb2, ⟨?_, ?_, ?_⟩, (e _ (by have := h.ord; omega)).trans hub2, h.ord, hbel2.setCell (p := ⟨cb, 0, none⟩) (by have := h.ord; show w.heap.size ≤ cb; omega) _, by rw [World.size_setCell]; exact Nat.le_trans h.sz hg2.size⟩, fun k cs hk => ?_⟩
  · have := heap_setCell_same W2 cb 0 _ 52 (.slice B (en.length + es.length) d) hcb2
    rw [List.length_append]
    exact this
  · rw [List.length_append]
    rw [List.length_append] at ho2
    exact own_set ho2 hcb2 (by decide)
  · exact own_set (h.cs.vu.kept hg2 hap) hcb2 (by decide)
  · have h3 := row_apart h.cs.ve hg2 hk (by decide)
    rw [e k (fun e' => by subst e'; rw [hcb2] at h3; injection h3 with h3; injection h3 with _ h3 _; exact absurd h3 (by decide))]
    exact h3
/-- The last number is stored. -/
theorem FS.last (h : FS w W rb cb ub n en la us ul Ae ce Au cu) (q : Int) : FS w (W.setCell ⟨cb, 1, none⟩ (.int .u64 q)) rb cb ub n en q us ul Ae ce Au cu := by
  have e : ∀ k, k ≠ cb → (W.setCell ⟨cb, 1, none⟩ (.int .u64 q)).heap[k]? = W.heap[k]? := fun k hk => heap_setCell_other W ⟨cb, 1, none⟩ k _ hk
  exact ⟨(e _ (by have := h.ord; omega)).trans h.rbx, ⟨heap_setCell_same W cb 1 _ 52 _ h.cs.blk, own_set h.cs.ve h.cs.blk (by decide), own_set h.cs.vu h.cs.blk (by decide)⟩, (e _ (by have := h.ord; omega)).trans h.ubx, h.ord, h.bel.setCell (p := ⟨cb, 1, none⟩) (by have := h.ord; show w.heap.size ≤ cb; omega) _, by rw [World.size_setCell]; exact h.sz⟩
/-- A place is appended to the chain. -/
theorem FS.place (h : FS w W rb cb ub n en la us ul Ae ce Au cu) {p : Nat} (hn : ul.length ≤ 10000) :
    ∃ B d W2, (appX #[50, 50] 50 #[.slice Au ul.length cu, .slice (some ⟨W.heap.size, 0, none⟩) 1 1]).run Try.prog (W.alloc (.cells #[.int .i64 (p : Int)] 3)) = .ok (.value (.slice B (ul.length + 1) d)) W2 ∧ W2.cell? ⟨cb, 2, none⟩ = some (.slice Au ul.length cu) ∧ W2.frozen? ⟨cb, 2, none⟩ = false ∧
      FS w (W2.setCell ⟨cb, 2, none⟩ (.slice B (ul.length + 1) d)) rb cb ub n en la us (ul ++ [p]) Ae ce B d := by
  have h1 := h.below (alloc_below' W (.cells #[.int .i64 (p : Int)] 3))
  have hx : Pls (W.alloc (.cells #[.int .i64 (p : Int)] 3)) (.slice (some ⟨W.heap.size, 0, none⟩) 1 1) [p] := ⟨_, 1, rfl, Nat.le_refl _, fun _ => ⟨W.heap.size, _, rfl, heap_alloc_new W _, fun j hj => by obtain rfl : j = 0 := (by simpa using hj); rfl⟩⟩
  obtain ⟨B, d, W2, hrun, ho2, hg2⟩ := app_pls (us := ul) (ps := [p]) h1.cs.vu hx (by simp; omega) h1.sz
  have hcb2 := row_apart h1.cs.vu hg2 h1.cs.blk (by decide)
  have hrb2 := row_apart h1.cs.vu hg2 h1.rbx (by decide)
  have hub2 := row_apart h1.cs.vu hg2 h1.ubx (by decide)
  have hap := own_apart h1.cs.ve h1.cs.vu (by decide)
  have e : ∀ k, k ≠ cb → (W2.setCell ⟨cb, 2, none⟩ (.slice B (ul.length + 1) d)).heap[k]? = W2.heap[k]? := fun k hk => heap_setCell_other W2 ⟨cb, 2, none⟩ k _ hk
  have hbel2 : Below w.heap.size w W2 := h1.bel.grown hg2 (by have := h1.sz; omega) (fun b hb => by have := (h1.cs.vu.lt b hb).1; omega)
  refine ⟨B, d, W2, hrun, cell_of_row _ _ 2 _ _ _ hcb2, frozen_of_row _ _ 2 _ _ hcb2, (e _ (by have := h.ord; omega)).trans hrb2, ⟨?_, ?_, ?_⟩, (e _ (by have := h.ord; omega)).trans hub2, h.ord, hbel2.setCell (p := ⟨cb, 2, none⟩) (by have := h.ord; show w.heap.size ≤ cb; omega) _, by rw [World.size_setCell]; exact Nat.le_trans h1.sz hg2.size⟩
  · have := heap_setCell_same W2 cb 2 _ 52 (.slice B (ul.length + 1) d) hcb2
    rw [List.length_append]
    exact this
  · exact own_set (h1.cs.ve.kept hg2 hap) hcb2 (by decide)
  · rw [List.length_append]
    rw [List.length_append] at ho2
    exact own_set ho2 hcb2 (by decide)
end
end Go.Proofs.Ytajlddgemkkcdaa
