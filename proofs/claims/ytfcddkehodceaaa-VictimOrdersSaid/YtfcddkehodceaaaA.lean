/- The small functions of package victim and of the reference: comparisons, validity, scores. Conditions stand in each theorem. -/
import Derived.Test.YtfcddkehodceaaaQT
namespace Go.Proofs.Ytfcddkehodceaaa
open Go.RowKit
set_option linter.unusedVariables false
set_option maxHeartbeats 2000000
set_option maxRecDepth 100000
/-- The order of two integers, as -1, 0, 1. -/
def cmpI (a b : Int) : Int := if a < b then -1 else if b < a then 1 else 0
theorem isNaN_any (a : Int) (w : World) : Calls Try.prog 33 #[.int .i64 a] w fun e w' => e = .returned (.bool false) ∧ w' = w := by
  go_enter Try.func33, Try.ntmps33
  go_wp2
  go_ret
  exact ⟨by simp, rfl⟩
theorem cmp_any (a b : Int) (w : World) : Calls Try.prog 31 #[.int .i64 a, .int .i64 b] w (Ret w (.int .i64 (cmpI a b))) := by
  have h1 := isNaN_any a w
  have h2 := isNaN_any b w
  unfold cmpI
  by_cases h : a < b
  · go_enter Try.func31, Try.ntmps31
    go_wp2_with (go_at_call 33; first | (refine h1.mono ?_; rintro e w' ⟨rfl, rfl⟩) | (refine h2.mono ?_; rintro e w' ⟨rfl, rfl⟩))
    go_ret
    exact ⟨by simp, Gr.refl _⟩
  · by_cases h' : b < a
    all_goals
      go_enter Try.func31, Try.ntmps31
      go_wp2_with (go_at_call 33; first | (refine h1.mono ?_; rintro e w' ⟨rfl, rfl⟩) | (refine h2.mono ?_; rintro e w' ⟨rfl, rfl⟩))
      go_ret
      exact ⟨by simp, Gr.refl _⟩
/-- The first that is not 0. -/
def orI (a b c : Int) : Int := if a = 0 then (if b = 0 then c else b) else a
theorem or_any (g n : Nat) (a b c : Int) (w : World) (h0 : w.cell? ⟨g, 0, none⟩ = some (.int .i64 a)) (h1 : w.cell? ⟨g, 1, none⟩ = some (.int .i64 b)) (h2 : w.cell? ⟨g, 2, none⟩ = some (.int .i64 c)) :
    Calls Try.prog 29 #[.slice (some ⟨g, 0, none⟩) 3 n] w (Ret w (.int .i64 (orI a b c))) := by
  unfold orI
  by_cases ha : a = 0
  · by_cases hb : b = 0
    · subst ha hb
      by_cases hc : c = 0
      · subst hc
        go_enter Try.func29, Try.ntmps29
        go_wp2
        refine wp_loop_rounds 4 ?_
        rw [rounds_succ]
        go_wp2
        rw [rounds_succ]
        go_wp2
        rw [rounds_succ]
        go_wp2
        rw [rounds_succ]
        go_wp2
        go_ret
        exact ⟨rfl, Gr.refl _⟩
      · go_enter Try.func29, Try.ntmps29
        go_wp2
        refine wp_loop_rounds 4 ?_
        rw [rounds_succ]
        go_wp2
        rw [rounds_succ]
        go_wp2
        rw [rounds_succ]
        go_wp2
        go_ret
        exact ⟨rfl, Gr.refl _⟩
    · subst ha
      go_enter Try.func29, Try.ntmps29
      go_wp2
      refine wp_loop_rounds 4 ?_
      rw [rounds_succ]
      go_wp2
      rw [rounds_succ]
      go_wp2
      go_ret
      exact ⟨by simp, Gr.refl _⟩
  · go_enter Try.func29, Try.ntmps29
    go_wp2
    refine wp_loop_rounds 4 ?_
    rw [rounds_succ]
    go_wp2
    go_ret
    exact ⟨by simp, Gr.refl _⟩
theorem scmp_any (a b c d : Int) (w : World) (h1 : IntKind.i64.wrap (a * d) = a * d) (h2 : IntKind.i64.wrap (c * b) = c * b) :
    Calls Try.prog 30 #[.agg #[.int .i64 a, .int .i64 b], .agg #[.int .i64 c, .int .i64 d]] w (Ret w (.int .i64 (cmpI (a * d) (c * b)))) := by
  obtain ⟨w1, hw1⟩ : ∃ w1 : World, w1 = (w.alloc (.cells #[.int .i64 a, .int .i64 b] 50)).alloc (.cells #[.int .i64 c, .int .i64 d] 50) := ⟨_, rfl⟩
  have hg : Gr w w1 := by rw [hw1]; exact ((Gr.refl w).alloc _).alloc _
  have hc := cmp_any (a * d) (c * b) w1
  rw [hw1] at hc
  have HG := Lib.hid hg
  clear hg hw1
  go_enter Try.func30, Try.ntmps30
  go_wp2_with (go_at_call 31; refine hc.mono ?_; rintro e w' ⟨rfl, h3⟩)
  go_ret
  exact ⟨rfl, (((Gr.refl w).alloc _).alloc _).trans h3⟩
/-- A candidate. -/
structure Cd where
  bl : Int
  va : Int
  pa : Int
  ag : Int
def Cd.cells (c : Cd) : List Value := [.int .i64 c.bl, .int .i64 c.va, .int .i64 c.pa, .int .i64 c.ag]
abbrev Cd.v (c : Cd) : Value := .agg #[.int .i64 c.bl, .int .i64 c.va, .int .i64 c.pa, .int .i64 c.ag]
def Cd.ok (c : Cd) : Prop := 1 ≤ c.pa ∧ c.pa ≤ 512 ∧ 0 ≤ c.va ∧ c.va ≤ c.pa ∧ 0 ≤ c.ag ∧ c.ag ≤ 1099511627776
instance (c : Cd) : Decidable c.ok := by unfold Cd.ok; infer_instance
theorem isValid_any (c : Cd) (w : World) : Calls Try.prog 25 #[c.v] w (Ret w (.bool (decide c.ok))) := by
  obtain ⟨bl, va, pa, ag⟩ := c
  simp only [Cd.v, Cd.ok]
  by_cases h1 : 1 ≤ pa
  · by_cases h2 : pa ≤ 512
    · by_cases h3 : 0 ≤ va
      · by_cases h4 : va ≤ pa
        · by_cases h5 : 0 ≤ ag
          · by_cases h6 : ag ≤ 1099511627776
            all_goals
              go_enter Try.func25, Try.ntmps25
              go_wp2
              go_ret
              exact ⟨by simp [h1, h2, h3, h4, h5, h6], (Gr.refl w).alloc _⟩
          · rw [decide_eq_false (show ¬ (1 ≤ pa ∧ pa ≤ 512 ∧ 0 ≤ va ∧ va ≤ pa ∧ 0 ≤ ag ∧ ag ≤ 1099511627776) by omega)]
            go_enter Try.func25, Try.ntmps25
            go_wp2
            go_ret
            exact ⟨rfl, (Gr.refl w).alloc _⟩
        · rw [decide_eq_false (show ¬ (1 ≤ pa ∧ pa ≤ 512 ∧ 0 ≤ va ∧ va ≤ pa ∧ 0 ≤ ag ∧ ag ≤ 1099511627776) by omega)]
          go_enter Try.func25, Try.ntmps25
          go_wp2
          go_ret
          exact ⟨rfl, (Gr.refl w).alloc _⟩
      · rw [decide_eq_false (show ¬ (1 ≤ pa ∧ pa ≤ 512 ∧ 0 ≤ va ∧ va ≤ pa ∧ 0 ≤ ag ∧ ag ≤ 1099511627776) by omega)]
        go_enter Try.func25, Try.ntmps25
        go_wp2
        go_ret
        exact ⟨rfl, (Gr.refl w).alloc _⟩
    · rw [decide_eq_false (show ¬ (1 ≤ pa ∧ pa ≤ 512 ∧ 0 ≤ va ∧ va ≤ pa ∧ 0 ≤ ag ∧ ag ≤ 1099511627776) by omega)]
      go_enter Try.func25, Try.ntmps25
      go_wp2
      go_ret
      exact ⟨rfl, (Gr.refl w).alloc _⟩
  · rw [decide_eq_false (show ¬ (1 ≤ pa ∧ pa ≤ 512 ∧ 0 ≤ va ∧ va ≤ pa ∧ 0 ≤ ag ∧ ag ≤ 1099511627776) by omega)]
    go_enter Try.func25, Try.ntmps25
    go_wp2
    go_ret
    exact ⟨rfl, (Gr.refl w).alloc _⟩
theorem right_any (c : Cd) (w : World) : Calls Try.prog 18 #[c.v] w (Ret w (.bool (decide c.ok))) := by
  obtain ⟨bl, va, pa, ag⟩ := c
  simp only [Cd.v, Cd.ok]
  by_cases h1 : 1 ≤ pa
  · by_cases h2 : pa ≤ 512
    · by_cases h3 : 0 ≤ va
      · by_cases h4 : va ≤ pa
        · by_cases h5 : 0 ≤ ag
          · by_cases h6 : ag ≤ 1099511627776
            all_goals
              go_enter Try.func18, Try.ntmps18
              go_wp2
              go_ret
              exact ⟨by simp [h1, h2, h3, h4, h5, h6], (Gr.refl w).alloc _⟩
          · rw [decide_eq_false (show ¬ (1 ≤ pa ∧ pa ≤ 512 ∧ 0 ≤ va ∧ va ≤ pa ∧ 0 ≤ ag ∧ ag ≤ 1099511627776) by omega)]
            go_enter Try.func18, Try.ntmps18
            go_wp2
            go_ret
            exact ⟨rfl, (Gr.refl w).alloc _⟩
        · rw [decide_eq_false (show ¬ (1 ≤ pa ∧ pa ≤ 512 ∧ 0 ≤ va ∧ va ≤ pa ∧ 0 ≤ ag ∧ ag ≤ 1099511627776) by omega)]
          go_enter Try.func18, Try.ntmps18
          go_wp2
          go_ret
          exact ⟨rfl, (Gr.refl w).alloc _⟩
      · rw [decide_eq_false (show ¬ (1 ≤ pa ∧ pa ≤ 512 ∧ 0 ≤ va ∧ va ≤ pa ∧ 0 ≤ ag ∧ ag ≤ 1099511627776) by omega)]
        go_enter Try.func18, Try.ntmps18
        go_wp2
        go_ret
        exact ⟨rfl, (Gr.refl w).alloc _⟩
    · rw [decide_eq_false (show ¬ (1 ≤ pa ∧ pa ≤ 512 ∧ 0 ≤ va ∧ va ≤ pa ∧ 0 ≤ ag ∧ ag ≤ 1099511627776) by omega)]
      go_enter Try.func18, Try.ntmps18
      go_wp2
      go_ret
      exact ⟨rfl, (Gr.refl w).alloc _⟩
  · rw [decide_eq_false (show ¬ (1 ≤ pa ∧ pa ≤ 512 ∧ 0 ≤ va ∧ va ≤ pa ∧ 0 ≤ ag ∧ ag ≤ 1099511627776) by omega)]
    go_enter Try.func18, Try.ntmps18
    go_wp2
    go_ret
    exact ⟨rfl, (Gr.refl w).alloc _⟩
theorem num_any (a : Int) (w : World) : Calls Try.prog 10 #[.int .i64 a] w (Ret w (.int .i64 a)) := by
  go_enter Try.func10, Try.ntmps10
  go_wp2
  go_ret
  exact ⟨rfl, Gr.refl _⟩
theorem four_any (a b c : Int) (w : World) : Calls Try.prog 22 #[.int .i64 a, .int .i64 b, .int .i64 c] w (Ret w (Cd.v ⟨a, b, 4, c⟩)) := by
  go_enter Try.func22, Try.ntmps22
  go_wp2
  refine bodyPost_ret (results_cell_row rfl _ _ w.heap.size 23 #[.int .i64 a, .int .i64 b, .int .i64 4, .int .i64 c] (0, 0) _ rfl (heap_alloc_new w _) Try.underlying23 rfl (by kernel_rfl)) rfl ?_
  exact ⟨rfl, (Gr.refl w).alloc _⟩
/-- A score: numerator and denominator. -/
def Cd.num (c : Cd) : Int := if c.va = 0 then 1 else (c.pa - c.va) * c.ag
def Cd.den (c : Cd) : Int := if c.va = 0 then 0 else 2 * c.va
theorem Cd.ok_mul {c : Cd} (h : c.ok) : 0 ≤ (c.pa - c.va) * c.ag ∧ (c.pa - c.va) * c.ag ≤ 562949953421312 := by
  obtain ⟨h1, h2, h3, h4, h5, h6⟩ := h
  refine ⟨Int.mul_nonneg (by omega) h5, ?_⟩
  exact Int.le_trans (Int.mul_le_mul_of_nonneg_right (by omega : c.pa - c.va ≤ 512) h5) (by omega)
theorem two_new (w : World) (o1 o2 : Obj) : ((w.alloc o1).alloc o2).heap[w.heap.size + 1]? = some o2 := by
  have h := heap_alloc_new (w.alloc o1) o2
  rw [World.size_alloc] at h
  exact h
theorem scoreOf_any (c : Cd) (h : c.ok) (w : World) : Calls Try.prog 26 #[c.v] w (Ret w (.agg #[.int .i64 c.num, .int .i64 c.den])) := by
  have hm := Cd.ok_mul h
  obtain ⟨bl, va, pa, ag⟩ := c
  obtain ⟨h1, h2, h3, h4, h5, h6⟩ := h
  simp only [Cd.v, Cd.num, Cd.den] at *
  by_cases hv : va = 0
  · go_enter Try.func26, Try.ntmps26
    go_wp2
    refine bodyPost_ret (results_cell_row rfl _ _ (w.heap.size + 1) 50 #[.int .i64 1, .int .i64 0] (0, 0) _ rfl (two_new w _ _) Try.underlying50 rfl (by kernel_rfl)) rfl ?_
    exact ⟨by simp, ((Gr.refl w).alloc _).alloc _⟩
  · have hw : IntKind.i64.wrap ((pa - va) * ag) = (pa - va) * ag := by rw [IntKind.wrap_i64]; omega
    generalize hX : (pa - va) * ag = X at *
    go_enter Try.func26, Try.ntmps26
    go_wp2
    refine bodyPost_ret (results_cell_row rfl _ _ (w.heap.size + 1) 50 #[.int .i64 X, .int .i64 (2 * va)] (0, 0) _ rfl (two_new w _ _) Try.underlying50 rfl (by kernel_rfl)) rfl ?_
    exact ⟨by simp, ((Gr.refl w).alloc _).alloc _⟩
/-- A useful candidate. -/
def Cd.use (c : Cd) : Prop := c.ok ∧ c.va < c.pa
instance (c : Cd) : Decidable c.use := by unfold Cd.use; infer_instance
/-- The error of a score, and what the score then is. -/
def Cd.err (c : Cd) : Int := if c.ok then (if c.va = c.pa then 9 else 0) else 2
def Cd.n (c : Cd) : Int := if c.use then c.num else 0
def Cd.d (c : Cd) : Int := if c.use then c.den else 0
/-- The cells of a candidate's box. -/
structure CdAt (W : World) (g : Nat) (c : Cd) : Prop where
  c0 : W.cell? ⟨g, 0, none⟩ = some (.int .i64 c.bl)
  c1 : W.cell? ⟨g, 1, none⟩ = some (.int .i64 c.va)
  c2 : W.cell? ⟨g, 2, none⟩ = some (.int .i64 c.pa)
  c3 : W.cell? ⟨g, 3, none⟩ = some (.int .i64 c.ag)
theorem CdAt.gr {W W' : World} {g : Nat} {c : Cd} (h : CdAt W g c) (hg : Gr W W') : CdAt W' g c := ⟨hg.cell h.c0, hg.cell h.c1, hg.cell h.c2, hg.cell h.c3⟩
theorem CdAt.new (w : World) (c : Cd) (t : TypeId) : CdAt (w.alloc (.cells #[.int .i64 c.bl, .int .i64 c.va, .int .i64 c.pa, .int .i64 c.ag] t)) w.heap.size c := by
  have h := heap_alloc_new w (.cells #[.int .i64 c.bl, .int .i64 c.va, .int .i64 c.pa, .int .i64 c.ag] t)
  refine ⟨?_, ?_, ?_, ?_⟩ <;> (rw [cell_of_row _ _ _ _ _ _ h]; rfl)
theorem rscore_any (c : Cd) (w : World) : Calls Try.prog 9 #[c.v] w (Ret w (.tuple #[.int .i64 c.n, .int .i64 c.d, .int .i64 c.err])) := by
  obtain ⟨w1, hw1⟩ : ∃ w1 : World, w1 = w.alloc (.cells #[.int .i64 c.bl, .int .i64 c.va, .int .i64 c.pa, .int .i64 c.ag] 23) := ⟨_, rfl⟩
  have hg1 : Gr w w1 := by rw [hw1]; exact (Gr.refl w).alloc _
  have hc1 : CdAt w1 w.heap.size c := by rw [hw1]; exact CdAt.new w c 23
  have hR := right_any c w1
  have HC1 := Lib.hid hc1
  have HG1 := Lib.hid hg1
  clear hc1 hg1
  by_cases ho : c.ok
  · have hm := Cd.ok_mul ho
    have b1 : 1 ≤ c.pa := ho.1
    have b2 : c.pa ≤ 512 := ho.2.1
    have b3 : 0 ≤ c.va := ho.2.2.1
    have b4 : c.va ≤ c.pa := ho.2.2.2.1
    rw [decide_eq_true ho] at hR
    by_cases h1 : c.va = c.pa
    · have hu : ¬ c.use := fun h => by have := h.2; omega
      have e1 : c.n = 0 := if_neg hu
      have e2 : c.d = 0 := if_neg hu
      have e3 : c.err = 9 := by unfold Cd.err; rw [if_pos ho, if_pos h1]
      rw [e1, e2, e3]
      clear hu e1 e2 e3 ho hm
      obtain ⟨bl, va, pa, ag⟩ := c
      simp only [Cd.v] at *
      subst h1
      go_enter Try.func9, Try.ntmps9
      go_wp2_with (go_at_call 18; rw [← hw1]; refine hR.mono ?_; rintro e w' ⟨rfl, hg⟩; obtain ⟨d0, d1, d2, d3⟩ := HC1.out.gr hg; have HG2 := Lib.hid hg; clear hg)
      go_ret3
      exact ⟨rfl, HG1.out.trans HG2.out⟩
    · have hu : c.use := ⟨ho, by omega⟩
      have e1 : c.n = c.num := if_pos hu
      have e2 : c.d = c.den := if_pos hu
      have e3 : c.err = 0 := by unfold Cd.err; rw [if_pos ho, if_neg h1]
      rw [e1, e2, e3]
      unfold Cd.num Cd.den
      clear hu e1 e2 e3 ho
      obtain ⟨bl, va, pa, ag⟩ := c
      simp only [Cd.v] at *
      have hw : IntKind.i64.wrap ((pa - va) * ag) = (pa - va) * ag := by rw [IntKind.wrap_i64]; omega
      by_cases hv : va = 0
      · subst hv
        clear hm hw
        go_enter Try.func9, Try.ntmps9
        go_wp2_with (go_at_call 18; rw [← hw1]; refine hR.mono ?_; rintro e w' ⟨rfl, hg⟩; obtain ⟨d0, d1, d2, d3⟩ := HC1.out.gr hg; have HG2 := Lib.hid hg; clear hg)
        go_ret3
        exact ⟨rfl, HG1.out.trans HG2.out⟩
      · rw [if_neg hv, if_neg hv]
        generalize hX : (pa - va) * ag = X at *
        go_enter Try.func9, Try.ntmps9
        go_wp2_with (go_at_call 18; rw [← hw1]; refine hR.mono ?_; rintro e w' ⟨rfl, hg⟩; obtain ⟨d0, d1, d2, d3⟩ := HC1.out.gr hg; have HG2 := Lib.hid hg; clear hg)
        go_quiet (fail)
        go_wp2
        go_ret3
        exact ⟨rfl, HG1.out.trans (HG2.out.drewN _)⟩
  · have hu : ¬ c.use := fun h => ho h.1
    have e1 : c.n = 0 := if_neg hu
    have e2 : c.d = 0 := if_neg hu
    have e3 : c.err = 2 := by unfold Cd.err; rw [if_neg ho]
    rw [e1, e2, e3]
    rw [decide_eq_false ho] at hR
    clear hu e1 e2 e3 ho
    obtain ⟨bl, va, pa, ag⟩ := c
    simp only [Cd.v] at *
    go_enter Try.func9, Try.ntmps9
    go_wp2_with (go_at_call 18; rw [← hw1]; refine hR.mono ?_; rintro e w' ⟨rfl, hg⟩; obtain ⟨d0, d1, d2, d3⟩ := HC1.out.gr hg; have HG2 := Lib.hid hg; clear hg)
    go_ret3
    exact ⟨rfl, HG1.out.trans HG2.out⟩
end Go.Proofs.Ytfcddkehodceaaa
