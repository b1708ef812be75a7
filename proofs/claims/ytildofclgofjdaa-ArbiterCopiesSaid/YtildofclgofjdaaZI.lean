/- The contract of the reference's Pick: loads that are not accepted. Conditions stand in each theorem. -/
import Derived.Test.YtildofclgofjdaaZG
namespace Go.Proofs.Ytildofclgofjdaa
open Go.RowKit Go.Shelf
set_option linter.unusedVariables false
set_option maxHeartbeats 4000000
set_option maxRecDepth 100000
theorem info3 : (Try.prog.info? 3).map (fun i => (i.zero, i.size, i.bytes)) = some (some (.int .i64 0), 1, 8) := by kernel_rfl
theorem info4 : (Try.prog.info? 4).map (fun i => (i.zero, i.size, i.bytes)) = some (some (.bool false), 1, 1) := by kernel_rfl
/-- Rows of integers, of truth values. -/
def irow (ns : List Int) : Array Value := (ns.map fun x => Value.int .i64 x).toArray
def brow (bs : List Bool) : Array Value := (bs.map fun x => Value.bool x).toArray
theorem made_irow (n : Nat) : madeCells #[.int .i64 0] n = irow (List.replicate n 0) := by
  apply Array.ext
  · simp [size_madeCells, irow]
  · intro i h1 h2
    simp [irow, madeCells, Nat.mod_one]
theorem made_brow (n : Nat) : madeCells #[.bool false] n = brow (List.replicate n false) := by
  apply Array.ext
  · simp [size_madeCells, brow]
  · intro i h1 h2
    simp [brow, madeCells, Nat.mod_one]
theorem make_52 (n : Nat) (hn : n ≤ 1000000) (W : World) : (Instr.makeSlice 52 (.int .i64 (n : Int)) (.int .i64 (n : Int))).run Try.prog W = .ok (.slice (some ⟨W.heap.size, 0, none⟩) n n) (W.alloc (.cells (irow (List.replicate n 0)) 3)) := by
  obtain ⟨i0, hi0, hz0, hz1, hz2⟩ := info_parts info3
  have hr := run_makeSlice (P := Try.prog) W 52 3 i0 _ Try.underlying52 hi0 hz0 .i64 .i64 n n (by omega) (Int.le_refl _) (by rw [hz1]; omega) (by rw [hz2]; omega) (by omega)
  rw [hr, hz1]
  simp [Value.cells, made_irow]
theorem make_97 (n : Nat) (hn : n ≤ 1000000) (W : World) : (Instr.makeSlice 97 (.int .i64 (n : Int)) (.int .i64 (n : Int))).run Try.prog W = .ok (.slice (some ⟨W.heap.size, 0, none⟩) n n) (W.alloc (.cells (brow (List.replicate n false)) 4)) := by
  obtain ⟨i0, hi0, hz0, hz1, hz2⟩ := info_parts info4
  have hr := run_makeSlice (P := Try.prog) W 97 4 i0 _ Try.underlying97 hi0 hz0 .i64 .i64 n n (by omega) (Int.le_refl _) (by rw [hz1]; omega) (by rw [hz2]; omega) (by omega)
  rw [hr, hz1]
  simp [Value.cells, made_brow]
theorem nsOf_nil (L : List (Int × Int)) : nsOf L [] = List.replicate L.length 0 := by
  apply List.ext_getElem <;> simp [nsOf, look]
theorem snOf_nil (L : List (Int × Int)) : snOf L [] = List.replicate L.length false := by
  apply List.ext_getElem <;> simp [snOf, look]
theorem irow_set (ns : List Int) (k : Nat) (x : Int) : (irow ns).setIfInBounds k (.int .i64 x) = irow (ns.set k x) := by
  simp [irow, List.map_set]
theorem brow_set (bs : List Bool) (k : Nat) (x : Bool) : (brow bs).setIfInBounds k (.bool x) = brow (bs.set k x) := by
  simp [brow, List.map_set]
/-- Between two rounds of the reference's first loop. -/
structure PI (w : World) (s : St) (v : Value) (l : List (Int × Int)) (W : World) : Prop where
  row : W.heap[w.heap.size]? = some (.cells (RC s v) 35 (0, 0))
  res : ∃ cs, cs.size = 14 ∧ W.heap[w.heap.size + 1]? = some (.cells cs 35 (0, 0))
  nsr : W.heap[w.heap.size + 2]? = some (.cells (irow (nsOf s.L l)) 3 (0, 0))
  snr : W.heap[w.heap.size + 3]? = some (.cells (brow (snOf s.L l)) 4 (0, 0))
  below : Below w.heap.size w W
theorem PI.later {w W W' : World} {s : St} {v : Value} {l : List (Int × Int)} (h : PI w s v l W) (hb : Below W.heap.size W W') : PI w s v l W' := by
  have k : ∀ {i : Nat} {o : Obj}, W.heap[i]? = some o → W'.heap[i]? = some o := fun ho => (hb.block _ (Array.getElem?_eq_some_iff.1 ho).1).trans ho
  obtain ⟨cs, h1, h2⟩ := h.res
  exact ⟨k h.row, ⟨cs, h1, k h2⟩, k h.nsr, k h.snr, h.below.trans (hb.mono h.below.size)⟩
theorem PI.put {w W : World} {s : St} {v : Value} {l : List (Int × Int)} (h : PI w s v l W) (hs : Srt s.L) {x : Int × Int} {k : Nat} (hk : k < s.L.length) (he : s.L[k].1 = x.1) (hn : look l x.1 = none) :
    PI w s v (l ++ [x]) ((W.setCell ⟨w.heap.size + 2, k, none⟩ (.int .i64 x.2)).setCell ⟨w.heap.size + 3, k, none⟩ (.bool true)) := by
  have k1 : ∀ i, i ≠ w.heap.size + 2 → i ≠ w.heap.size + 3 → ((W.setCell ⟨w.heap.size + 2, k, none⟩ (.int .i64 x.2)).setCell ⟨w.heap.size + 3, k, none⟩ (.bool true)).heap[i]? = W.heap[i]? := fun i h1 h2 =>
    (Below.heap_setCell _ _ _ _ h2).trans (Below.heap_setCell _ _ _ _ h1)
  obtain ⟨cs, h1, h2⟩ := h.res
  refine ⟨(k1 _ (by omega) (by omega)).trans h.row, ⟨cs, h1, (k1 _ (by omega) (by omega)).trans h2⟩, ?_, ?_, (h.below.setCell (by show _ ≤ w.heap.size + 2; omega) _).setCell (by show _ ≤ w.heap.size + 3; omega) _⟩
  · rw [nsOf_snoc hs hk he hn, ← irow_set]
    exact (Below.heap_setCell _ _ _ _ (by show w.heap.size + 2 ≠ w.heap.size + 3; omega)).trans (heap_setCell_same W _ k _ 3 _ h.nsr)
  · rw [snOf_snoc hs hk he, ← brow_set]
    exact heap_setCell_same _ _ k _ 4 _ ((Below.heap_setCell _ _ _ _ (by show w.heap.size + 3 ≠ w.heap.size + 2; omega)).trans h.snr)
theorem PI.start {w : World} {s : St} {v : Value} {cs : Array Value} (hcs : cs.size = 14) : PI w s v [] ((((w.alloc (.cells (RC s v) 35)).alloc (.cells cs 35)).alloc (.cells (irow (List.replicate s.L.length 0)) 3)).alloc (.cells (brow (List.replicate s.L.length false)) 4)) := by
  have h1 := heap_alloc_new w (.cells (RC s v) 35)
  have h2 := heap_alloc_new (w.alloc (.cells (RC s v) 35)) (.cells cs 35)
  have h3 := heap_alloc_new ((w.alloc (.cells (RC s v) 35)).alloc (.cells cs 35)) (.cells (irow (List.replicate s.L.length 0)) 3)
  have h4 := heap_alloc_new (((w.alloc (.cells (RC s v) 35)).alloc (.cells cs 35)).alloc (.cells (irow (List.replicate s.L.length 0)) 3)) (.cells (brow (List.replicate s.L.length false)) 4)
  simp only [World.size_alloc] at h2 h3 h4
  have b2 := below_alloc (w.alloc (.cells (RC s v) 35)) (.cells cs 35)
  have b3 := below_alloc ((w.alloc (.cells (RC s v) 35)).alloc (.cells cs 35)) (.cells (irow (List.replicate s.L.length 0)) 3)
  have b4 := below_alloc (((w.alloc (.cells (RC s v) 35)).alloc (.cells cs 35)).alloc (.cells (irow (List.replicate s.L.length 0)) 3)) (.cells (brow (List.replicate s.L.length false)) 4)
  refine ⟨(b4.block _ (by simp; omega)).trans ((b3.block _ (by simp; omega)).trans ((b2.block _ (by simp)).trans h1)), ⟨cs, hcs, (b4.block _ (by simp)).trans ((b3.block _ (by simp)).trans h2)⟩, ?_, ?_, (((below_alloc w _).alloc (by simp) _).alloc (by simp; omega) _).alloc (by simp; omega) _⟩
  · rw [nsOf_nil]
    exact (b4.block _ (by simp)).trans h3
  · rw [snOf_nil]
    exact h4
end Go.Proofs.Ytildofclgofjdaa
