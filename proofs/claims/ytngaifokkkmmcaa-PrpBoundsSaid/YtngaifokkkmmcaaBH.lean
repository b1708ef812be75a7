/- Build at a memory. Conditions stand in each theorem. -/
import Derived.Test.YtngaifokkkmmcaaBG
namespace Go.Proofs.Ytngaifokkkmmcaa
open Go.RowKit Go.Shelf
set_option linter.unusedVariables false
set_option maxHeartbeats 4000000
set_option maxRecDepth 100000
theorem req6_yB (q : Int) (W : World) : Calls Try.prog 35 #[.int .i64 q, .slice (some ⟨W.heap.size, 0, none⟩) 6 6] (W.alloc (.cells #[.bool true, .bool true, .bool true, .bool true, .bool true, .bool true] 4)) fun e w' => e = .returned (.tuple #[]) ∧ Below W.heap.size W w' := (req6_y q W).mono fun e w' h => ⟨h.1, h.2 ▸ below_alloc _ _⟩
/-- What Build leaves. -/
def BdP (w : World) (base b d cap : Nat) (r : Except Int (Mm × Nat × Nat)) (e : Ending) (w' : World) : Prop :=
  match r with
  | .ok (m', x, y) => e = .returned (.tuple #[.int .u64 (x : Int), .int .u64 (y : Int), .int .i64 0]) ∧ Mem w' base b d cap m' ∧ Chg (fun k => k = b ∨ k = d) w w'
  | .error q => e = .returned (.tuple #[.int .u64 0, .int .u64 0, .int .i64 q]) ∧ Below w.heap.size w w'
def bdR (r : Except Int (Mm × Nat)) (x : Nat) : Except Int (Mm × Nat × Nat) := match r with | .ok (m', y) => .ok (m', x, y) | .error q => .error q
/-- Build's boxes, just made. -/
theorem boxes_new (w : World) (W0 : World) (h : W0 = ((w.alloc (.cells #[.int .u64 0] 23)).alloc (.cells #[.int .u64 0] 23)).alloc (.cells #[.int .i64 0] 38)) : Below w.heap.size w W0 ∧ W0.heap.size = w.heap.size + 3 ∧ W0.heap[w.heap.size]? = some (.cells #[.int .u64 0] 23 (0, 0)) ∧ W0.heap[w.heap.size + 1]? = some (.cells #[.int .u64 0] 23 (0, 0)) ∧ W0.heap[w.heap.size + 2]? = some (.cells #[.int .i64 0] 38 (0, 0)) := by
  subst h
  have s1 : (w.alloc (.cells #[.int .u64 0] 23)).heap.size = w.heap.size + 1 := World.size_alloc _ _
  have s2 : ((w.alloc (.cells #[.int .u64 0] 23)).alloc (.cells #[.int .u64 0] 23)).heap.size = w.heap.size + 2 := by rw [World.size_alloc, s1]
  refine ⟨((below_alloc w _).alloc (by omega) _).alloc (by omega) _, by rw [World.size_alloc, s2], ?_, ?_, ?_⟩
  · exact (Below.heap_alloc _ _ _ (by omega)).trans ((Below.heap_alloc _ _ _ (by omega)).trans (heap_alloc_new w _))
  · have := heap_alloc_new (w.alloc (.cells #[.int .u64 0] 23)) (.cells #[.int .u64 0] 23)
    rw [s1] at this
    exact (Below.heap_alloc _ _ _ (by omega)).trans this
  · have := heap_alloc_new ((w.alloc (.cells #[.int .u64 0] 23)).alloc (.cells #[.int .u64 0] 23)) (.cells #[.int .i64 0] 38)
    rw [s2] at this
    exact this
section
variable {w : World} {base b d cap : Nat} {m : Mm}
/-- Build, where requireTransfer raises an error. -/
theorem Build_req (pv vl vp : Value) (F n q : Int) (HR : ∀ W, Below w.heap.size w W → Calls Try.prog 34 #[pv, .int .i64 n] W fun e w' => e = Pan q ∧ Below W.heap.size W w') :
    Calls Try.prog 15 #[pv, vl, vp, .int .i64 F, .int .i64 n] w (BdP w base b d cap (.error q)) := by
  obtain ⟨W0, hW0⟩ : ∃ W0, W0 = ((w.alloc (.cells #[.int .u64 0] 23)).alloc (.cells #[.int .u64 0] 23)).alloc (.cells #[.int .i64 0] 38) := ⟨_, rfl⟩
  obtain ⟨bl, sz, x0, x1, x2⟩ := boxes_new w W0 hW0
  have HW0 := Lib.hid hW0
  have HX := Lib.hid (And.intro bl (And.intro sz (And.intro x0 (And.intro x1 x2))))
  have HRR := Lib.hid (HR W0 bl)
  clear hW0 bl sz x0 x1 x2 HR
  refine calls_of_wpF Try.func15 rfl ?_
  simp only [Try.ntmps15, List.size_toArray, List.length_cons, List.length_nil, Nat.reduceAdd, Nat.reduceSub, Array.replicate_succ, Array.replicate_zero, List.push_toArray, List.append_toArray, List.nil_append, List.cons_append]
  refine wpF_of ?_
  go_wp2_with fail
  rw [← HW0.out]
  with_reducible refine HRR.out.mono ?_
  rintro e w1 ⟨rfl, hb⟩
  obtain ⟨bl, sz, x0, x1, x2⟩ := HX.out
  refine leaveB_err (w := w) (n0 := w.heap.size) (⟨⟨_, (hb.block _ (by omega)).trans x0⟩, ⟨_, (hb.block _ (by omega)).trans x1⟩, ⟨_, (hb.block _ (by omega)).trans x2⟩⟩) ⟨rfl, rfl, rfl⟩ fun W' hc => ⟨rfl, ?_⟩
  exact (bl.trans (hb.mono (by omega))).trans (hc.below (by have := hb.size; omega) fun i hi => by omega)
end
end Go.Proofs.Ytngaifokkkmmcaa
