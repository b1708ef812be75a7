/- The contracts of Geometry, Cut, Read. Conditions stand in each theorem. -/
import Derived.Test.YtddejcoagcaidaaN
namespace Go.Proofs.Ytddejcoagcaidaa
open Go.RowKit
set_option linter.unusedVariables false
set_option maxHeartbeats 2000000
set_option maxRecDepth 100000
def Dev.geo (s : Dev) : Value := .agg #[.int .i64 (s.nb : Int), .int .i64 (s.np : Int), .int .i64 (s.sz : Int), .int .i64 s.en]
theorem info23 : (Try.prog.info? 23).map (·.size) = some 4 := by kernel_rfl
section
variable {w : World} {base b g m : Nat} {V : Nat → Value} {s : Dev}
theorem Geometry_any (h : Dv w base b g m V s) : Calls Try.prog 26 #[.pointer (some ⟨b, 0, none⟩)] w fun e w' => e = .returned (.agg #[.int .i64 (s.nb : Int), .int .i64 (s.np : Int), .int .i64 (s.sz : Int), .int .i64 s.en]) ∧ Below w.heap.size w w' := by
  have k0 := h.c0
  have k1 := h.c1
  have k2 := h.c2
  have k3 := h.c3
  have hl := h.lt
  have h2 := h.below (below_alloc w (.cells #[.int .i64 0, .int .i64 0, .int .i64 0, .int .i64 0] 23))
  have k4 := h2.c4
  clear h h2
  go_enter Try.func26, Try.ntmps26
  go_wp2_with (((go_at_call 46; with_reducible refine (missing_not _ g _ _ k4).mono ?_); rintro e w' ⟨rfl, rfl⟩))
  refine bodyPost_ret (v := .agg #[.int .i64 (s.nb : Int), .int .i64 (s.np : Int), .int .i64 (s.sz : Int), .int .i64 s.en]) ?_ rfl ?_
  · first
      | exact results_cell_row (P := Try.prog) (p := 2) (ty := 23) rfl _ _ w.heap.size 23 #[.int .i64 (s.nb : Int), .int .i64 (s.np : Int), .int .i64 (s.sz : Int), .int .i64 s.en] (0, 0) _ rfl (heap_alloc_new w _) Try.underlying23 rfl info23
      | trace_state
  · exact ⟨rfl, below_alloc w _⟩
theorem field23 (W : World) (x y z u : Int) : (Instr.field 23 (.agg #[.int .i64 x, .int .i64 y, .int .i64 z, .int .i64 u]) 2).run Try.prog W = .ok (.int .i64 z) W := by kernel_rfl
def Dev.cuB (s : Dev) (o n : Int) : Bool := decide (s.n ≤ o) && wiB n 0 ((s.sz : Int) + 64)
def Dev.cuE (s : Dev) (o n : Int) : Int := if s.cuB o n = false then 2 else if s.off = true then 50 else 0
def Dev.cuS (s : Dev) (o n : Int) : Dev := if s.cuB o n = true ∧ s.off = false then s.ctl o n s.n s.off else s
theorem ctl_self (s : Dev) : s.ctl s.po s.pb s.n s.off = s := rfl
theorem Dv.head {w w' : World} {base b g m : Nat} {V : Nat → Value} {s : Dev} (h : Dv w base b g m V s) (hb : Below w.heap.size w w') (k : Int) : HeadPost w base b g m V s k (.returned (.int .i64 k)) w' := ⟨rfl, h.below hb, Chg.of_below hb⟩
theorem Cut_any (h : Dv w base b g m V s) (hG : Gd s) (o n : Int) : Calls Try.prog 24 #[.pointer (some ⟨b, 0, none⟩), .int .i64 o, .int .i64 n] w (HeadPost w base b g m V (s.cuS o n) (s.cuE o n)) := by
  have hsz := hG.sz
  have z0 : (0 : Int) ≤ s.sz := by omega
  have z1 : (s.sz : Int) ≤ 8192 := by omega
  have H := Lib.hid h
  have hb0 := Below.refl w.heap.size w
  have hl := h.lt
  have hfd := field23
  by_cases h1 : s.n ≤ o
  · have d1 : decide (s.n ≤ o) = true := decide_eq_true h1
    cases hw : wiB n 0 ((s.sz : Int) + 64)
    · have e0 : s.cuB o n = false := by unfold Dev.cuB; rw [hw, Bool.and_false]
      have e1 : s.cuE o n = 2 := if_pos e0
      have e2 : s.cuS o n = s := if_neg (by rw [e0]; simp)
      rw [e1, e2]
      clear h hG hsz e0 e1 e2 h1 hb0
      go_enter Try.func24, Try.ntmps24
      go_wp2
      refine wp_scope_forward 0 rfl ?_
      go_wp2_with (first
        | ((go_at_call 27; with_reducible refine (Operations_any H.out).mono ?_); rintro e w' ⟨rfl, rfl⟩)
        | ((go_at_call 26; with_reducible refine (Geometry_any H.out).mono ?_); rintro e w1 ⟨rfl, hb⟩; have HB := Lib.hid hb; clear hb)
        | ((go_at_call 57; with_reducible refine (within_any _ _ _ _).mono ?_); rintro e w' ⟨rfl, rfl⟩)
        | ((go_at_call 43; with_reducible refine (refusal_no (H.out.below HB.out)).mono ?_); rintro e w' ⟨rfl, rfl⟩))
      go_step3
      refine ⟨rfl, ?_⟩
      dsimp only
      go_wp2
      rw [Exit.noGoto_ret]
      go_ret
      exact H.out.head HB.out 2
    · have e0 : s.cuB o n = true := by unfold Dev.cuB; rw [hw, d1]; rfl
      cases ho : s.off
      · have e1 : s.cuE o n = 0 := by unfold Dev.cuE; rw [if_neg (by rw [e0]; simp), if_neg (by rw [ho]; simp)]
        have e2 : s.cuS o n = s.ctl o n s.n s.off := if_pos ⟨e0, ho⟩
        rw [e1, e2]
        clear h hG hsz e0 e1 e2 h1 hb0
        go_enter Try.func24, Try.ntmps24
        go_wp2
        go_step3
        go_wp2_with (first
          | ((go_at_call 27; with_reducible refine (Operations_any H.out).mono ?_); rintro e w' ⟨rfl, rfl⟩)
          | ((go_at_call 26; with_reducible refine (Geometry_any H.out).mono ?_); rintro e w1 ⟨rfl, hb⟩; have HB := Lib.hid hb; have H1 := Lib.hid (H.out.below hb); have k6 := H1.out.c6; have k7 := H1.out.c7; have f6 := H1.out.free 6; have f7 := H1.out.free 7; clear hb)
          | ((go_at_call 57; with_reducible refine (within_any _ _ _ _).mono ?_); rintro e w' ⟨rfl, rfl⟩)
          | ((go_at_call 43; with_reducible refine (refusal_ok H1.out ho).mono ?_); rintro e w' ⟨rfl, rfl⟩))
        go_step3
        go_wp2
        rw [Exit.noGoto_ret]
        go_ret
        have hc : Chg (· = b) w1 ((w1.setCell ⟨b, 6, none⟩ (.int .i64 o)).setCell ⟨b, 7, none⟩ (.int .i64 n)) := ((Chg.refl (· = b) w1).setCell rfl _).setCell rfl _
        exact ⟨rfl, H1.out.rehead hc (heap_setCell_same _ b 7 _ 64 _ (heap_setCell_same _ b 6 _ 64 _ H1.out.blk)), (Chg.of_below HB.out).also hc⟩
      · have e1 : s.cuE o n = 50 := by unfold Dev.cuE; rw [if_neg (by rw [e0]; simp), if_pos ho]
        have e2 : s.cuS o n = s := if_neg (by rw [ho]; simp)
        rw [e1, e2]
        clear h hG hsz e0 e1 e2 h1 hb0
        go_enter Try.func24, Try.ntmps24
        go_wp2
        refine wp_scope_forward 0 rfl ?_
        go_wp2_with (first
          | ((go_at_call 27; with_reducible refine (Operations_any H.out).mono ?_); rintro e w' ⟨rfl, rfl⟩)
          | ((go_at_call 26; with_reducible refine (Geometry_any H.out).mono ?_); rintro e w1 ⟨rfl, hb⟩; have HB := Lib.hid hb; clear hb)
          | ((go_at_call 57; with_reducible refine (within_any _ _ _ _).mono ?_); rintro e w' ⟨rfl, rfl⟩)
          | ((go_at_call 43; with_reducible refine (refusal_off (H.out.below HB.out) ho).mono ?_); rintro e w' ⟨rfl, rfl⟩))
        go_step3
        refine ⟨rfl, ?_⟩
        dsimp only
        go_wp2
        rw [Exit.noGoto_ret]
        go_ret
        exact H.out.head HB.out 50
  · have d1 : decide (s.n ≤ o) = false := decide_eq_false h1
    have e0 : s.cuB o n = false := by unfold Dev.cuB; rw [d1]; rfl
    have e1 : s.cuE o n = 2 := if_pos e0
    have e2 : s.cuS o n = s := if_neg (by rw [e0]; simp)
    rw [e1, e2]
    have HB := Lib.hid hb0
    clear h hG hsz e0 e1 e2 h1 hb0
    go_enter Try.func24, Try.ntmps24
    go_wp2
    refine wp_scope_forward 0 rfl ?_
    go_wp2_with (first
      | ((go_at_call 27; with_reducible refine (Operations_any H.out).mono ?_); rintro e w' ⟨rfl, rfl⟩)
      | ((go_at_call 43; with_reducible refine (refusal_no H.out).mono ?_); rintro e w' ⟨rfl, rfl⟩))
    go_step3
    refine ⟨rfl, ?_⟩
    dsimp only
    go_wp2
    rw [Exit.noGoto_ret]
    go_ret
    exact H.out.head HB.out 2
end
end Go.Proofs.Ytddejcoagcaidaa
