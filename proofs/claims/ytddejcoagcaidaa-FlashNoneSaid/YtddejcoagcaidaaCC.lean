/- The walk of FlashNone, a call that is too long. Conditions stand in each theorem. -/
import Derived.Test.YtddejcoagcaidaaCE
namespace Go.Proofs.Ytddejcoagcaidaa
open Go.RowKit Go.Shelf
attribute [local go_sem] Oper.semAt_some
set_option linter.unusedVariables false
set_option maxHeartbeats 4000000
set_option maxRecDepth 100000
theorem none_few (wh bl pg : Int) (Ax Ay : Option Addr) (nx ny : Nat) (x y : List UInt8) (z : Bool) (w : World) (hx : Byt w (.slice Ax x.length nx) x) (hy : Byt w (.slice Ay y.length ny) y) (hfb : fewB [⟨wh, bl, pg, .slice Ax x.length nx, .slice Ay y.length ny, x, y⟩] 1 = false) :
    Calls Try.prog 6 #[.agg #[.int .i64 wh, .int .i64 bl, .int .i64 pg, .slice Ax x.length nx, .slice Ay y.length ny], .bool z] w fun e w' => e = .returned (.bool true) ∧ Below w.heap.size w w' := by
  have f9 : Fence.wide.fn 9 := trivial
  have f10 : Fence.wide.fn 10 := trivial
  have f13 : Fence.wide.fn 13 := trivial
  have f18 : Fence.wide.fn 18 := trivial
  have f19 : Fence.wide.fn 19 := trivial
  have f20 : Fence.wide.fn 20 := trivial
  have f21 : Fence.wide.fn 21 := trivial
  have f22 : Fence.wide.fn 22 := trivial
  have f23 : Fence.wide.fn 23 := trivial
  have f24 : Fence.wide.fn 24 := trivial
  have f25 : Fence.wide.fn 25 := trivial
  have f26 : Fence.wide.fn 26 := trivial
  have f27 : Fence.wide.fn 27 := trivial
  have f28 : Fence.wide.fn 28 := trivial
  have f29 : Fence.wide.fn 29 := trivial
  have f30 : Fence.wide.fn 30 := trivial
  have hqn := fun (W : World) (f : Fn) (x y : Array Value) => run_eql_func_nil (P := Try.prog) W 54 f x y Try.underlying54
  have hge := geo_eql
  obtain ⟨E, hE⟩ : ∃ E : World, E = (((w.alloc (.cells #[.int .i64 wh, .int .i64 bl, .int .i64 pg, .slice Ax x.length nx, .slice Ay y.length ny] 43)).alloc (.cells #[.bool false] 4)).alloc (.cells #[.int .i64 wh, .int .i64 bl, .int .i64 pg, .slice Ax x.length nx, .slice Ay y.length ny] 43)) := ⟨_, rfl⟩
  have hbE : Below w.heap.size w E := by rw [hE]; exact ((below_alloc w _).alloc (by simp) _).alloc (by simp; omega) _
  have hl : E.heap.size = w.heap.size + 3 := by rw [hE]; simp
  have hX2 : XAt E (w.heap.size + 1 + 1) wh bl pg (.slice Ax x.length nx) (.slice Ay y.length ny) := by
    have := heap_alloc_new ((w.alloc (.cells #[.int .i64 wh, .int .i64 bl, .int .i64 pg, .slice Ax x.length nx, .slice Ay y.length ny] 43)).alloc (.cells #[.bool false] 4)) (.cells #[.int .i64 wh, .int .i64 bl, .int .i64 pg, .slice Ax x.length nx, .slice Ay y.length ny] 43)
    rw [World.size_alloc, World.size_alloc] at this
    rw [hE]
    exact this
  have hX : XAt E w.heap.size wh bl pg (.slice Ax x.length nx) (.slice Ay y.length ny) := by
    rw [hE]
    exact XAt.below (XAt.below (heap_alloc_new w _) (below_alloc _ _)) (below_alloc _ _)
  have hR : RAt E (w.heap.size + 1) := by
    have := heap_alloc_new (w.alloc (.cells #[.int .i64 wh, .int .i64 bl, .int .i64 pg, .slice Ax x.length nx, .slice Ay y.length ny] 43)) (.cells #[.bool false] 4)
    rw [World.size_alloc] at this
    rw [hE]
    exact RAt.below this (below_alloc _ _)
  have hfew := few_one wh bl pg Ax Ay nx ny x y E _ hX2 (hx.below hbE) (hy.below hbE)
  have HB0 := Lib.hid hbE
  have HX := Lib.hid hX
  have HR := Lib.hid hR
  have HL := Lib.hid hl
  clear hbE hX hX2 hR hl
  rw [hfb] at hfew
  have HF := Lib.hid hfew
  clear hfew hfb
  refine (callsIn_wide (n := 12)).1 ?_
  refine callsIn_of_wp_marks Try.func6 rfl trivial ?_ rfl
  simp only [Try.ntmps6, List.size_toArray, List.length_cons, List.length_nil, Nat.reduceAdd, Nat.reduceSub, Array.replicate_succ, Array.replicate_zero, List.push_toArray, List.append_toArray, List.nil_append, List.cons_append]
  gi_wp2
  rw [← hE]
  clear hE
  gi_wp2_with (first
    | (gi_at_call 9; refine (callsIn_wide.2 HF.out).mono ?_; rintro e w' ⟨rfl, rfl⟩)
    | (gi_at_call 10; refine (callsIn_wide.2 (works_any _)).mono ?_; rintro e w5 ⟨rfl, hb5⟩; have HB5 := Lib.hid hb5; obtain ⟨r5, fr5⟩ := (HR.out.below hb5).cell; clear hb5))
  have hcell : (w5.setCell ⟨w.heap.size + 1, 0, none⟩ (.bool true)).cell? ⟨w.heap.size + 1, 0, none⟩ = some (.bool true) := World.cell?_setCell_same' _ _ _ (by rw [r5]; rfl)
  have hb : Below w.heap.size w w5 := HB0.out.trans (HB5.out.mono HB0.out.size)
  exact ⟨.bool true, by simp [results, Try.results6, go_sem, hcell], rfl, hb.setCell (p := ⟨w.heap.size + 1, 0, none⟩) (by show w.heap.size ≤ w.heap.size + 1; omega) _⟩
end Go.Proofs.Ytddejcoagcaidaa
