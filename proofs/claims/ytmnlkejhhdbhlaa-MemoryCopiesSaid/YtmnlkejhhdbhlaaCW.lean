/- The walk of MemoryCopies. Conditions stand in each theorem. -/
import Derived.Test.YtmnlkejhhdbhlaaCK
import Derived.Test.YtmnlkejhhdbhlaaOT
namespace Go.Proofs.Ytmnlkejhhdbhlaa
open Go.RowKit Go.Shelf
attribute [local go_sem] Oper.semAt_some
set_option linter.unusedVariables false
set_option maxHeartbeats 8000000
set_option maxRecDepth 100000
theorem acts_below {w X : World} {v : Value} {L : List KA} (h : Acts w v L) (hb : Below w.heap.size w X) : Acts X v L := by
  obtain ⟨A, c, rfl, hr⟩ := h
  refine ⟨A, c, rfl, fun h0 => ?_⟩
  obtain ⟨g, o, hA, hg, hc⟩ := hr h0
  refine ⟨g, o, hA, Nat.lt_of_lt_of_le hg hb.size, fun j hj => ?_⟩
  obtain ⟨h0, h1, h2, h3, h4⟩ := hc j hj
  have key := fun i => hb.cell (p := ⟨g, o + j * 5 + i, none⟩) hg
  exact ⟨(key 0).trans h0, (key 1).trans h1, (key 2).trans h2, (key 3).trans h3, (key 4).trans h4⟩
theorem ok_below {w X : World} {e : KA} (h : KA.ok w e) (hb : Below w.heap.size w X) : KA.ok X e := ⟨h.1.below hb, h.2⟩
theorem copies_works (p : Int) (v : Value) (L : List KA) (x y : KA) (w : World) (h : p < 1 ∨ 2 < p ∨ fewB L 8 = false ∨ fewB [x, y] 2 = false) (hL : Acts w v L) (hok : ∀ e ∈ L, KA.ok w e) (hx : KA.ok w x) (hy : KA.ok w y) : Calls Try.prog 5 #[.int .i64 p, v, .agg (two2 x y)] w (OkB w) := by
  obtain ⟨w1, hw1⟩ : ∃ w1, w1 = w.alloc (.cells (two2 x y) 54) := ⟨_, rfl⟩
  have hb1 : Below w.heap.size w w1 := hw1 ▸ below_alloc _ _
  have HF := Lib.hid (few_any2 v L 8 w1 (acts_below hL hb1) (fun e he => ok_below (hok e he) hb1) (by decide))
  have HF2 := Lib.hid (few_any2 (.slice (some ⟨w.heap.size, 0, none⟩) 2 2) [x, y] 2 w1 (hw1 ▸ acts_two x y hx hy) (fun e he => by
    rcases List.mem_cons.1 he with rfl | he
    · exact ok_below hx hb1
    · rcases List.mem_cons.1 he with rfl | he
      · exact ok_below hy hb1
      · cases he) (by decide))
  have HW := Lib.hid (works_any w1)
  have HB := Lib.hid hb1
  have HW1 := Lib.hid hw1
  unfold two2 at HW1 ⊢
  generalize fewB L 8 = f1 at HF h
  generalize fewB [x, y] 2 = f2 at HF2 h
  clear hL hok hx hy hb1 hw1
  have hg : (decide (p < 1) = true) ∨ (decide (p < 1) = false ∧ decide (p > 2) = true ∧ decide (2 < p) = true) ∨ (decide (p < 1) = false ∧ decide (p > 2) = false ∧ decide (2 < p) = false ∧ (f1 = false ∨ f1 = true ∧ f2 = false)) := by
    by_cases h1 : p < 1
    · exact .inl (decide_eq_true h1)
    · by_cases h2 : 2 < p
      · exact .inr (.inl ⟨decide_eq_false h1, decide_eq_true h2, decide_eq_true h2⟩)
      · refine .inr (.inr ⟨decide_eq_false h1, decide_eq_false h2, decide_eq_false h2, ?_⟩)
        rcases h with h | h | h | h
        · omega
        · omega
        · exact .inl h
        · cases f1
          · exact .inl rfl
          · exact .inr ⟨rfl, h⟩
  clear h
  rcases hg with d1 | ⟨d1, d2, d3⟩ | ⟨d1, d2, d3, rfl | ⟨rfl, rfl⟩⟩
  all_goals
    go_enter Try.func5, Try.ntmps5
    go_upto_region 1 with fail
    rw [← HW1.out]
    go_wp2_with (first | ((go_at_call 10; with_reducible refine HW.out.mono ?_); rintro e w' ⟨rfl, hb⟩) | ((go_at_call 9; with_reducible refine HF.out.mono ?_); rintro e w' ⟨rfl, rfl⟩) | ((go_at_call 9; with_reducible refine HF2.out.mono ?_); rintro e w' ⟨rfl, rfl⟩))
    go_ret
    exact ⟨rfl, HB.out.trans (hb.mono HB.out.size)⟩
end Go.Proofs.Ytmnlkejhhdbhlaa
