/- The walk of FlashNone, a nil device. Conditions stand in each theorem. -/
import Derived.Test.YtddejcoagcaidaaCE
import Derived.Test.YtddejcoagcaidaaCQ
import Derived.BigQuiet
namespace Go.Proofs.Ytddejcoagcaidaa
open Go.RowKit Go.Shelf
attribute [local go_sem] Oper.semAt_some
set_option linter.unusedVariables false
set_option maxHeartbeats 4000000
set_option maxRecDepth 100000
theorem none_nil (wh bl pg : Int) (Ax Ay : Option Addr) (nx ny : Nat) (x y : List UInt8) (w : World) (hx : Byt w (.slice Ax x.length nx) x) (hy : Byt w (.slice Ay y.length ny) y) (hfb : fewB [⟨wh, bl, pg, .slice Ax x.length nx, .slice Ay y.length ny, x, y⟩] 1 = true) :
    Calls Try.prog 6 #[.agg #[.int .i64 wh, .int .i64 bl, .int .i64 pg, .slice Ax x.length nx, .slice Ay y.length ny], .bool false] w fun e w' => e = .returned (.bool true) ∧ Below w.heap.size w w' := by
  have f9 : Fence.wide.fn 9 := trivial
  have f10 : Fence.wide.fn 10 := trivial
  have f13 : Fence.wide.fn 13 := trivial
  have f18 : Fence.wide.fn 18 := trivial
  have f19 : Fence.wide.fn 19 := trivial
  have f20 : Fence.wide.fn 20 := trivial
  have f21 : Fence.wide.fn 21 := trivial
  have f22 : Fence.wide.fn 22 := trivial
  have f23 : Fence.wide.fn 23 := trivial
  have f24 : Fence.wide.fn 24 := trivial
  have f25 : Fence.wide.fn 25 := trivial
  have f26 : Fence.wide.fn 26 := trivial
  have f27 : Fence.wide.fn 27 := trivial
  have f28 : Fence.wide.fn 28 := trivial
  have f29 : Fence.wide.fn 29 := trivial
  have f30 : Fence.wide.fn 30 := trivial
  have hqn := fun (W : World) (f : Fn) (x y : Array Value) => run_eql_func_nil (P := Try.prog) W 54 f x y Try.underlying54
  have hge := geo_eql
  obtain ⟨E, hE⟩ : ∃ E : World, E = (((w.alloc (.cells #[.int .i64 wh, .int .i64 bl, .int .i64 pg, .slice Ax x.length nx, .slice Ay y.length ny] 43)).alloc (.cells #[.bool false] 4)).alloc (.cells #[.int .i64 wh, .int .i64 bl, .int .i64 pg, .slice Ax x.length nx, .slice Ay y.length ny] 43)) := ⟨_, rfl⟩
  have hbE : Below w.heap.size w E := by rw [hE]; exact ((below_alloc w _).alloc (by simp) _).alloc (by simp; omega) _
  have hl : E.heap.size = w.heap.size + 3 := by rw [hE]; simp
  have hX2 : XAt E (w.heap.size + 1 + 1) wh bl pg (.slice Ax x.length nx) (.slice Ay y.length ny) := by
    have := heap_alloc_new ((w.alloc (.cells #[.int .i64 wh, .int .i64 bl, .int .i64 pg, .slice Ax x.length nx, .slice Ay y.length ny] 43)).alloc (.cells #[.bool false] 4)) (.cells #[.int .i64 wh, .int .i64 bl, .int .i64 pg, .slice Ax x.length nx, .slice Ay y.length ny] 43)
    rw [World.size_alloc, World.size_alloc] at this
    rw [hE]
    exact this
  have hX : XAt E w.heap.size wh bl pg (.slice Ax x.length nx) (.slice Ay y.length ny) := by
    rw [hE]
    exact XAt.below (XAt.below (heap_alloc_new w _) (below_alloc _ _)) (below_alloc _ _)
  have hR : RAt E (w.heap.size + 1) := by
    have := heap_alloc_new (w.alloc (.cells #[.int .i64 wh, .int .i64 bl, .int .i64 pg, .slice Ax x.length nx, .slice Ay y.length ny] 43)) (.cells #[.bool false] 4)
    rw [World.size_alloc] at this
    rw [hE]
    exact RAt.below this (below_alloc _ _)
  have hfew := few_one wh bl pg Ax Ay nx ny x y E _ hX2 (hx.below hbE) (hy.below hbE)
  have HB0 := Lib.hid hbE
  have HX := Lib.hid hX
  have HR := Lib.hid hR
  have HL := Lib.hid hl
  clear hbE hX hX2 hR hl
  rw [hfb] at hfew
  have HF := Lib.hid hfew
  clear hfew hfb
  obtain ⟨e0, e1, e2, e3, e4⟩ := HX.out.cells
  refine (callsIn_wide (n := 12)).1 ?_
  refine callsIn_of_wp_marks Try.func6 rfl trivial ?_ rfl
  simp only [Try.ntmps6, List.size_toArray, List.length_cons, List.length_nil, Nat.reduceAdd, Nat.reduceSub, Array.replicate_succ, Array.replicate_zero, List.push_toArray, List.append_toArray, List.nil_append, List.cons_append]
  gi_wp2
  rw [← hE]
  clear hE
  gi_wp2_with (first
    | (gi_at_call 9; refine (callsIn_wide.2 HF.out).mono ?_; rintro e w' ⟨rfl, rfl⟩)
    | (gi_at_call 18; refine (callsIn_wide.2 (Read_miss (Miss.nil _) _ _)).mono ?_; rintro e w' ⟨rfl, rfl⟩)
    | (gi_at_call 20; refine (callsIn_wide.2 (Wear_miss (Miss.nil _))).mono ?_; rintro e w' ⟨rfl, rfl⟩))
  refine range_nothing_skip (gf := 52) (by omega) rfl rfl trivial (enters_of Try.func52 (by kernel_rfl) rfl) (wear_stops _ _ (by simp) (heap_cell_new _ _ _)) ?_
  intro D w4 hD hb4 hD0
  have hbe : Below E.heap.size E w4 := (below_alloc E _).trans (hb4.mono (by simp))
  have HB4 := Lib.hid hbe
  have HX4 := Lib.hid (HX.out.below hbe)
  obtain ⟨x0, x1, x2, x3, x4⟩ := (HX.out.below hbe).cells
  have hD2 : w.heap.size + 1 < D := by have := HL.out; simp at hD; omega
  have HD0 := Lib.hid hD0
  clear hb4 hD0 hD hbe e0 e1 e2 e3 e4
  gi_wp2
  refine wpIn_wide.2 ?_
  simp only [List.append]
  have hne : Nonempty (Gw w4) := ⟨⟨w4, Below.refl _ _⟩⟩
  have g0 := fun p : Gw w4 => ((HX4.out.below p.h).cells).1
  have g1 := fun p : Gw w4 => ((HX4.out.below p.h).cells).2.1
  have g2 := fun p : Gw w4 => ((HX4.out.below p.h).cells).2.2.1
  have g3 := fun p : Gw w4 => ((HX4.out.below p.h).cells).2.2.2.1
  have g4 := fun p : Gw w4 => ((HX4.out.below p.h).cells).2.2.2.2
  refine wp_region_quiet_tail (C := fun W => ∃ p : Gw w4, W = p.W) 90 (by as_aux_lemma => kernel_rfl) (by as_aux_lemma => kernel_rfl) ⟨⟨w4.drew, (Below.refl _ _).drew⟩, rfl⟩ ?_
  simp only [List.take_succ_cons, List.take_zero, List.drop_succ_cons, List.drop_zero]
  repeat (go_big_quiet_step ((first | (go_at_call 13; exact gw_same _ (num_any _ _)) | (go_at_call 23; exact gw_same _ (Program_miss (Miss.nil _) _ _ _ _ _ _ _ _)) | (go_at_call 22; exact gw_same _ (Erase_miss (Miss.nil _) _)) | (go_at_call 24; exact gw_of _ (Cut_miss (Miss.nil _) _ _)) | (go_at_call 21; exact gw_same _ (Restart_miss (Miss.nil _))) | (go_at_call 25; exact gw_same _ (Powered_miss (Miss.nil _))) | (go_at_call 26; exact gw_of _ (Geometry_miss (Miss.nil _))) | (go_at_call 27; exact gw_same _ (Operations_miss (Miss.nil _))) | (go_at_call 28; exact gw_same _ (Next_miss (Miss.nil _) _)) | (go_at_call 29; exact gw_same _ (Erases_miss (Miss.nil _) _)) | (go_at_call 30; exact gw_same _ (State_miss (Miss.nil _) _ _)) | (go_at_call 19; exact gw_same _ (Copy_miss (Miss.nil _))))))
  refine wpQuiet_nil ?_
  rintro _ ⟨⟨w6, hb6⟩, rfl⟩
  have HC6 := Lib.hid hb6
  have HB6 := Lib.hid (HB4.out.trans (HC6.out.mono HB4.out.size))
  clear hb6 g0 g1 g2 g3 g4
  go_wp2_with ((go_at_call 10; refine (works_any _).mono ?_; rintro e w7 ⟨rfl, hb7⟩; have HB7 := Lib.hid (HB6.out.trans (hb7.mono HB6.out.size)); have HC7 := Lib.hid (HC6.out.trans (hb7.mono HC6.out.size)); obtain ⟨r7, fr7⟩ := (HR.out.below HB7.out).cell; clear hb7))
  gi_wp2
  have l4 : D < w4.heap.size := (Array.getElem?_eq_some_iff.1 HD0.out).1
  have k7 : (w7.setCell ⟨w.heap.size + 1, 0, none⟩ (.bool true)).heap[D]? = some (.deferred (some [])) := (Below.heap_setCell _ _ _ _ (by show D ≠ w.heap.size + 1; omega)).trans ((HC7.out.block _ l4).trans HD0.out)
  refine ⟨by simp, .inl ⟨_, _, rfl, run_takeDeferred k7, ?_⟩⟩
  have hBf : Below w.heap.size w ((w7.setCell ⟨w.heap.size + 1, 0, none⟩ (.bool true)).putObj D (.deferred none)) :=
    ((HB0.out.trans (HB7.out.mono HB0.out.size)).setCell (p := ⟨w.heap.size + 1, 0, none⟩) (by show w.heap.size ≤ w.heap.size + 1; omega) _).trans (belowK_b (w := w) (Nat.le_refl _) _ D _ _ (by omega) k7 rfl rfl)
  have hcell : ((w7.setCell ⟨w.heap.size + 1, 0, none⟩ (.bool true)).putObj D (.deferred none)).cell? ⟨w.heap.size + 1, 0, none⟩ = some (.bool true) := by
    rw [World.cell?_of_block (w := w7.setCell ⟨w.heap.size + 1, 0, none⟩ (.bool true)) (World.putObj_heap_other (by show w.heap.size + 1 ≠ D; omega))]
    exact World.cell?_setCell_same' _ _ _ (by rw [r7]; rfl)
  exact ⟨.bool true, by simp [results, Try.results6, go_sem, hcell], rfl, hBf⟩
end Go.Proofs.Ytddejcoagcaidaa
