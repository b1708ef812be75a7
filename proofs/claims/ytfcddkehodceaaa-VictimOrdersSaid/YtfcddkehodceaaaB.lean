/- The preference: byPreference of package victim, Preferred, Useful and Compare of the reference. Conditions stand in each theorem. -/
import Derived.Test.YtfcddkehodceaaaA
namespace Go.Proofs.Ytfcddkehodceaaa
open Go.RowKit
set_option linter.unusedVariables false
set_option maxHeartbeats 4000000
set_option maxRecDepth 100000
theorem CdAt.new2 (w : World) (a b : Cd) (t : TypeId) : CdAt ((w.alloc (.cells #[.int .i64 a.bl, .int .i64 a.va, .int .i64 a.pa, .int .i64 a.ag] t)).alloc (.cells #[.int .i64 b.bl, .int .i64 b.va, .int .i64 b.pa, .int .i64 b.ag] t)) w.heap.size a ∧ CdAt ((w.alloc (.cells #[.int .i64 a.bl, .int .i64 a.va, .int .i64 a.pa, .int .i64 a.ag] t)).alloc (.cells #[.int .i64 b.bl, .int .i64 b.va, .int .i64 b.pa, .int .i64 b.ag] t)) (w.heap.size + 1) b := by
  refine ⟨(CdAt.new w a t).gr ((Gr.refl _).alloc _), ?_⟩
  have h := CdAt.new (w.alloc (.cells #[.int .i64 a.bl, .int .i64 a.va, .int .i64 a.pa, .int .i64 a.ag] t)) b t
  rw [World.size_alloc] at h
  exact h
theorem useful_any (c : Cd) (w : World) : Calls Try.prog 20 #[c.v] w (Ret w (.bool (decide c.use))) := by
  obtain ⟨w1, hw1⟩ : ∃ w1 : World, w1 = w.alloc (.cells #[.int .i64 c.bl, .int .i64 c.va, .int .i64 c.pa, .int .i64 c.ag] 23) := ⟨_, rfl⟩
  have hg1 : Gr w w1 := by rw [hw1]; exact (Gr.refl w).alloc _
  have hc1 : CdAt w1 w.heap.size c := by rw [hw1]; exact CdAt.new w c 23
  have hR := right_any c w1
  have HC1 := Lib.hid hc1
  have HG1 := Lib.hid hg1
  have hc0 := HC1.out.c0; have hc2 := HC1.out.c1; have hc3 := HC1.out.c2; have hc4 := HC1.out.c3
  clear hc1 hg1
  by_cases ho : c.ok
  · rw [decide_eq_true ho] at hR
    by_cases h1 : c.va < c.pa
    · have hu : c.use := ⟨ho, h1⟩
      rw [decide_eq_true hu]
      clear hu ho
      obtain ⟨bl, va, pa, ag⟩ := c
      simp only [Cd.v] at *
      go_enter Try.func20, Try.ntmps20
      go_wp2_with (go_at_call 18; rw [← hw1]; refine hR.mono ?_; rintro e w' ⟨rfl, hg⟩; obtain ⟨d0, d1, d2, d3⟩ := HC1.out.gr hg; have HG2 := Lib.hid hg; clear hg)
      go_ret
      exact ⟨by simp, HG1.out.trans HG2.out⟩
    · have hu : ¬ c.use := fun h => h1 h.2
      rw [decide_eq_false hu]
      clear hu ho
      obtain ⟨bl, va, pa, ag⟩ := c
      simp only [Cd.v] at *
      go_enter Try.func20, Try.ntmps20
      go_wp2_with (go_at_call 18; rw [← hw1]; refine hR.mono ?_; rintro e w' ⟨rfl, hg⟩; obtain ⟨d0, d1, d2, d3⟩ := HC1.out.gr hg; have HG2 := Lib.hid hg; clear hg)
      go_ret
      exact ⟨by simp [h1], HG1.out.trans HG2.out⟩
  · have hu : ¬ c.use := fun h => ho h.1
    rw [decide_eq_false ho] at hR
    rw [decide_eq_false hu]
    clear hu ho
    obtain ⟨bl, va, pa, ag⟩ := c
    simp only [Cd.v] at *
    go_enter Try.func20, Try.ntmps20
    go_wp2_with (go_at_call 18; rw [← hw1]; refine hR.mono ?_; rintro e w' ⟨rfl, hg⟩; obtain ⟨d0, d1, d2, d3⟩ := HC1.out.gr hg; have HG2 := Lib.hid hg; clear hg)
    go_ret
    exact ⟨rfl, HG1.out.trans HG2.out⟩
/-- The preference of two candidates: below 0 if the first is preferred. -/
def cfP (a b : Cd) : Int := orI (cmpI (b.num * a.den) (a.num * b.den)) (cmpI b.ag a.ag) (cmpI a.bl b.bl)
theorem cmpI_neg {a b : Int} : cmpI a b < 0 ↔ a < b := by unfold cmpI; split <;> (try split) <;> omega
theorem cmpI_zero {a b : Int} : cmpI a b = 0 ↔ a = b := by unfold cmpI; split <;> (try split) <;> omega
theorem orI_neg {a b c : Int} : orI a b c < 0 ↔ a < 0 ∨ a = 0 ∧ (b < 0 ∨ b = 0 ∧ c < 0) := by unfold orI; split <;> (try split) <;> omega
theorem cfP_neg {a b : Cd} : cfP a b < 0 ↔ b.num * a.den < a.num * b.den ∨ b.num * a.den = a.num * b.den ∧ (b.ag < a.ag ∨ b.ag = a.ag ∧ a.bl < b.bl) := by
  unfold cfP
  rw [orI_neg, cmpI_neg, cmpI_zero, cmpI_neg, cmpI_zero, cmpI_neg]
/-- The numbers of a useful candidate's score. -/
theorem Cd.use_bd {c : Cd} (h : c.use) : 0 ≤ c.num ∧ c.num ≤ 562949953421312 ∧ 0 ≤ c.den ∧ c.den ≤ 1024 ∧ (c.den = 0 → c.num = 1) := by
  have h1 := Cd.ok_mul h.1
  obtain ⟨⟨k1, k2, k3, k4, k5, k6⟩, k7⟩ := h
  unfold Cd.num Cd.den
  by_cases hv : c.va = 0
  · rw [if_pos hv, if_pos hv]; omega
  · rw [if_neg hv, if_neg hv]; omega
theorem mul_bd {x y : Int} (h1 : 0 ≤ x) (h2 : x ≤ 562949953421312) (h3 : 0 ≤ y) (h4 : y ≤ 1024) : 0 ≤ x * y ∧ x * y ≤ 576460752303423488 ∧ IntKind.i64.wrap (x * y) = x * y := by
  have a1 := Int.mul_nonneg h1 h3
  have a2 : x * y ≤ 562949953421312 * 1024 := Int.le_trans (Int.mul_le_mul_of_nonneg_right h2 h3) (Int.mul_le_mul_of_nonneg_left h4 (by omega))
  refine ⟨a1, by omega, ?_⟩
  rw [IntKind.wrap_i64]; omega
theorem preferred_any (a b : Cd) (ha : a.use) (hb : b.use) (w : World) : Calls Try.prog 21 #[a.v, b.v] w (Ret w (.bool (decide (cfP a b < 0)))) := by
  obtain ⟨w1, hw1⟩ : ∃ w1 : World, w1 = (w.alloc (.cells #[.int .i64 a.bl, .int .i64 a.va, .int .i64 a.pa, .int .i64 a.ag] 23)).alloc (.cells #[.int .i64 b.bl, .int .i64 b.va, .int .i64 b.pa, .int .i64 b.ag] 23) := ⟨_, rfl⟩
  have hg1 : Gr w w1 := by rw [hw1]; exact ((Gr.refl w).alloc _).alloc _
  obtain ⟨ca, cb⟩ : CdAt w1 w.heap.size a ∧ CdAt w1 (w.heap.size + 1) b := by rw [hw1]; exact CdAt.new2 w a b 23
  have HA := Lib.hid ca
  have HB := Lib.hid cb
  have HG1 := Lib.hid hg1
  obtain ⟨a1, a2, a3, a4, a5⟩ := a.use_bd ha
  obtain ⟨b1, b2, b3, b4, b5⟩ := b.use_bd hb
  obtain ⟨x1, x2, x3⟩ := mul_bd a1 a2 b3 b4
  obtain ⟨y1, y2, y3⟩ := mul_bd b1 b2 a3 a4
  have rA : ∀ W, Calls Try.prog 9 #[a.v] W (Ret W (.tuple #[.int .i64 a.num, .int .i64 a.den, .int .i64 0])) := fun W => by
    have := rscore_any a W
    unfold Cd.n Cd.d Cd.err at this
    rw [if_pos ha, if_pos ha, if_pos ha.1, if_neg (by have := ha.2; omega)] at this
    exact this
  have rB : ∀ W, Calls Try.prog 9 #[b.v] W (Ret W (.tuple #[.int .i64 b.num, .int .i64 b.den, .int .i64 0])) := fun W => by
    have := rscore_any b W
    unfold Cd.n Cd.d Cd.err at this
    rw [if_pos hb, if_pos hb, if_pos hb.1, if_neg (by have := hb.2; omega)] at this
    exact this
  have HRA := Lib.hid (rA w1)
  have HRB := Lib.hid rB
  have hq : a.den = 0 → b.num * a.den = 0 ∧ a.num * b.den = b.den := fun h => by rw [h, a5 h]; simp
  have hs : b.den = 0 → a.num * b.den = 0 ∧ b.num * a.den = a.den := fun h => by rw [h, b5 h]; simp
  generalize hr : decide (cfP a b < 0) = rr
  have HR : Hid (decide (b.num * a.den < a.num * b.den ∨ b.num * a.den = a.num * b.den ∧ (b.ag < a.ag ∨ b.ag = a.ag ∧ a.bl < b.bl)) = rr) := by
    show _ = _
    rw [← hr]
    exact decide_eq_decide.2 cfP_neg.symm
  clear hr rA rB ha hb hg1 ca cb a1 a2 b1 b2 a4 b4 a5 b5
  have HQ := Lib.hid hq
  have HS := Lib.hid hs
  clear hq hs
  obtain ⟨X, hX⟩ : ∃ X, a.num * b.den = X := ⟨_, rfl⟩
  obtain ⟨Y, hY⟩ : ∃ Y, b.num * a.den = Y := ⟨_, rfl⟩
  rw [hX] at x1 x2 x3 HQ HS HR
  rw [hY] at y1 y2 y3 HQ HS HR
  obtain ⟨abl, ava, apa, aag⟩ := a
  obtain ⟨bbl, bva, bpa, bag⟩ := b
  generalize Cd.num ⟨abl, ava, apa, aag⟩ = p at *
  generalize Cd.den ⟨abl, ava, apa, aag⟩ = q at *
  generalize Cd.num ⟨bbl, bva, bpa, bag⟩ = r at *
  generalize Cd.den ⟨bbl, bva, bpa, bag⟩ = s at *
  simp only [Cd.v] at *
  by_cases hq : q = 0
  · obtain ⟨z1, z2⟩ := HQ.out hq
    subst hq
    have HY := Lib.hid hY
    have HX := Lib.hid hX
    clear hX hY HQ
    by_cases hs : 0 < s
    · clear HS
      have hrr : rr = true := by rw [← HR.out]; exact decide_eq_true (by omega)
      subst hrr
      clear HR
      go_enter Try.func21, Try.ntmps21
      go_wp2_with (go_at_call 9; (try rw [← hw1]); first | ((with_reducible refine HRA.out.mono ?_); rintro e w2 ⟨rfl, hg2⟩; obtain ⟨c0, c1, c2, c3⟩ := HA.out.gr hg2; obtain ⟨d0, d1, d2, d3⟩ := HB.out.gr hg2; have HG2 := Lib.hid hg2; clear hg2) | ((with_reducible refine (HRB.out _).mono ?_); rintro e w3 ⟨rfl, hg3⟩; obtain ⟨c0, c1, c2, c3⟩ := HA.out.gr (HG2.out.trans hg3); obtain ⟨d0, d1, d2, d3⟩ := HB.out.gr (HG2.out.trans hg3); have HG3 := Lib.hid hg3; clear hg3))
      go_ret
      exact ⟨by first | rfl | (simp; done) | (simp; omega), HG1.out.trans (HG2.out.trans HG3.out)⟩
    · have hs0 : s = 0 := by omega
      have hz := HS.out hs0
      clear HS
      subst hs0
      rcases Int.lt_trichotomy aag bag with g1 | g1 | g1
      · have hrr : rr = false := by rw [← HR.out]; exact decide_eq_false (by omega)
        subst hrr
        clear HR
        go_enter Try.func21, Try.ntmps21
        go_wp2_with (go_at_call 9; (try rw [← hw1]); first | ((with_reducible refine HRA.out.mono ?_); rintro e w2 ⟨rfl, hg2⟩; obtain ⟨c0, c1, c2, c3⟩ := HA.out.gr hg2; obtain ⟨d0, d1, d2, d3⟩ := HB.out.gr hg2; have HG2 := Lib.hid hg2; clear hg2) | ((with_reducible refine (HRB.out _).mono ?_); rintro e w3 ⟨rfl, hg3⟩; obtain ⟨c0, c1, c2, c3⟩ := HA.out.gr (HG2.out.trans hg3); obtain ⟨d0, d1, d2, d3⟩ := HB.out.gr (HG2.out.trans hg3); have HG3 := Lib.hid hg3; clear hg3))
        go_ret
        exact ⟨by first | rfl | (simp; done) | (simp; omega), HG1.out.trans (HG2.out.trans HG3.out)⟩
      · subst g1
        by_cases g2 : abl < bbl
        · have hrr : rr = true := by rw [← HR.out]; exact decide_eq_true (by omega)
          subst hrr
          clear HR
          go_enter Try.func21, Try.ntmps21
          go_wp2_with (go_at_call 9; (try rw [← hw1]); first | ((with_reducible refine HRA.out.mono ?_); rintro e w2 ⟨rfl, hg2⟩; obtain ⟨c0, c1, c2, c3⟩ := HA.out.gr hg2; obtain ⟨d0, d1, d2, d3⟩ := HB.out.gr hg2; have HG2 := Lib.hid hg2; clear hg2) | ((with_reducible refine (HRB.out _).mono ?_); rintro e w3 ⟨rfl, hg3⟩; obtain ⟨c0, c1, c2, c3⟩ := HA.out.gr (HG2.out.trans hg3); obtain ⟨d0, d1, d2, d3⟩ := HB.out.gr (HG2.out.trans hg3); have HG3 := Lib.hid hg3; clear hg3))
          go_ret
          exact ⟨by first | rfl | (simp; done) | (simp; omega), HG1.out.trans (HG2.out.trans HG3.out)⟩
        · have hrr : rr = false := by rw [← HR.out]; exact decide_eq_false (by omega)
          subst hrr
          clear HR
          go_enter Try.func21, Try.ntmps21
          go_wp2_with (go_at_call 9; (try rw [← hw1]); first | ((with_reducible refine HRA.out.mono ?_); rintro e w2 ⟨rfl, hg2⟩; obtain ⟨c0, c1, c2, c3⟩ := HA.out.gr hg2; obtain ⟨d0, d1, d2, d3⟩ := HB.out.gr hg2; have HG2 := Lib.hid hg2; clear hg2) | ((with_reducible refine (HRB.out _).mono ?_); rintro e w3 ⟨rfl, hg3⟩; obtain ⟨c0, c1, c2, c3⟩ := HA.out.gr (HG2.out.trans hg3); obtain ⟨d0, d1, d2, d3⟩ := HB.out.gr (HG2.out.trans hg3); have HG3 := Lib.hid hg3; clear hg3))
          go_ret
          exact ⟨by first | rfl | (simp; done) | (simp; omega), HG1.out.trans (HG2.out.trans HG3.out)⟩
      · have hrr : rr = true := by rw [← HR.out]; exact decide_eq_true (by omega)
        subst hrr
        clear HR
        go_enter Try.func21, Try.ntmps21
        go_wp2_with (go_at_call 9; (try rw [← hw1]); first | ((with_reducible refine HRA.out.mono ?_); rintro e w2 ⟨rfl, hg2⟩; obtain ⟨c0, c1, c2, c3⟩ := HA.out.gr hg2; obtain ⟨d0, d1, d2, d3⟩ := HB.out.gr hg2; have HG2 := Lib.hid hg2; clear hg2) | ((with_reducible refine (HRB.out _).mono ?_); rintro e w3 ⟨rfl, hg3⟩; obtain ⟨c0, c1, c2, c3⟩ := HA.out.gr (HG2.out.trans hg3); obtain ⟨d0, d1, d2, d3⟩ := HB.out.gr (HG2.out.trans hg3); have HG3 := Lib.hid hg3; clear hg3))
        go_ret
        exact ⟨by first | rfl | (simp; done) | (simp; omega), HG1.out.trans (HG2.out.trans HG3.out)⟩
  · have hq' : 0 < q := by omega
    by_cases hs : s = 0
    · obtain ⟨z1, z2⟩ := HS.out hs
      subst hs
      clear HQ HS
      have hrr : rr = false := by rw [← HR.out]; exact decide_eq_false (by omega)
      subst hrr
      clear HR
      go_enter Try.func21, Try.ntmps21
      go_wp2_with (go_at_call 9; (try rw [← hw1]); first | ((with_reducible refine HRA.out.mono ?_); rintro e w2 ⟨rfl, hg2⟩; obtain ⟨c0, c1, c2, c3⟩ := HA.out.gr hg2; obtain ⟨d0, d1, d2, d3⟩ := HB.out.gr hg2; have HG2 := Lib.hid hg2; clear hg2) | ((with_reducible refine (HRB.out _).mono ?_); rintro e w3 ⟨rfl, hg3⟩; obtain ⟨c0, c1, c2, c3⟩ := HA.out.gr (HG2.out.trans hg3); obtain ⟨d0, d1, d2, d3⟩ := HB.out.gr (HG2.out.trans hg3); have HG3 := Lib.hid hg3; clear hg3))
      go_ret
      exact ⟨by first | rfl | (simp; done) | (simp; omega), HG1.out.trans (HG2.out.trans HG3.out)⟩
    · have hs' : 0 < s := by omega
      clear HQ HS
      rcases Int.lt_trichotomy X Y with g0 | g0 | g0
      · have hrr : rr = false := by rw [← HR.out]; exact decide_eq_false (by omega)
        subst hrr
        clear HR
        go_enter Try.func21, Try.ntmps21
        go_wp2_with (go_at_call 9; (try rw [← hw1]); first | ((with_reducible refine HRA.out.mono ?_); rintro e w2 ⟨rfl, hg2⟩; obtain ⟨c0, c1, c2, c3⟩ := HA.out.gr hg2; obtain ⟨d0, d1, d2, d3⟩ := HB.out.gr hg2; have HG2 := Lib.hid hg2; clear hg2) | ((with_reducible refine (HRB.out _).mono ?_); rintro e w3 ⟨rfl, hg3⟩; obtain ⟨c0, c1, c2, c3⟩ := HA.out.gr (HG2.out.trans hg3); obtain ⟨d0, d1, d2, d3⟩ := HB.out.gr (HG2.out.trans hg3); have HG3 := Lib.hid hg3; clear hg3))
        go_ret
        exact ⟨by first | rfl | (simp; done) | (simp; omega), HG1.out.trans (HG2.out.trans HG3.out)⟩
      · subst g0
        rcases Int.lt_trichotomy aag bag with g1 | g1 | g1
        · have hrr : rr = false := by rw [← HR.out]; exact decide_eq_false (by omega)
          subst hrr
          clear HR
          go_enter Try.func21, Try.ntmps21
          go_wp2_with (go_at_call 9; (try rw [← hw1]); first | ((with_reducible refine HRA.out.mono ?_); rintro e w2 ⟨rfl, hg2⟩; obtain ⟨c0, c1, c2, c3⟩ := HA.out.gr hg2; obtain ⟨d0, d1, d2, d3⟩ := HB.out.gr hg2; have HG2 := Lib.hid hg2; clear hg2) | ((with_reducible refine (HRB.out _).mono ?_); rintro e w3 ⟨rfl, hg3⟩; obtain ⟨c0, c1, c2, c3⟩ := HA.out.gr (HG2.out.trans hg3); obtain ⟨d0, d1, d2, d3⟩ := HB.out.gr (HG2.out.trans hg3); have HG3 := Lib.hid hg3; clear hg3))
          go_ret
          exact ⟨by first | rfl | (simp; done) | (simp; omega), HG1.out.trans (HG2.out.trans HG3.out)⟩
        · subst g1
          by_cases g2 : abl < bbl
          · have hrr : rr = true := by rw [← HR.out]; exact decide_eq_true (by omega)
            subst hrr
            clear HR
            go_enter Try.func21, Try.ntmps21
            go_wp2_with (go_at_call 9; (try rw [← hw1]); first | ((with_reducible refine HRA.out.mono ?_); rintro e w2 ⟨rfl, hg2⟩; obtain ⟨c0, c1, c2, c3⟩ := HA.out.gr hg2; obtain ⟨d0, d1, d2, d3⟩ := HB.out.gr hg2; have HG2 := Lib.hid hg2; clear hg2) | ((with_reducible refine (HRB.out _).mono ?_); rintro e w3 ⟨rfl, hg3⟩; obtain ⟨c0, c1, c2, c3⟩ := HA.out.gr (HG2.out.trans hg3); obtain ⟨d0, d1, d2, d3⟩ := HB.out.gr (HG2.out.trans hg3); have HG3 := Lib.hid hg3; clear hg3))
            go_ret
            exact ⟨by first | rfl | (simp; done) | (simp; omega), HG1.out.trans (HG2.out.trans HG3.out)⟩
          · have hrr : rr = false := by rw [← HR.out]; exact decide_eq_false (by omega)
            subst hrr
            clear HR
            go_enter Try.func21, Try.ntmps21
            go_wp2_with (go_at_call 9; (try rw [← hw1]); first | ((with_reducible refine HRA.out.mono ?_); rintro e w2 ⟨rfl, hg2⟩; obtain ⟨c0, c1, c2, c3⟩ := HA.out.gr hg2; obtain ⟨d0, d1, d2, d3⟩ := HB.out.gr hg2; have HG2 := Lib.hid hg2; clear hg2) | ((with_reducible refine (HRB.out _).mono ?_); rintro e w3 ⟨rfl, hg3⟩; obtain ⟨c0, c1, c2, c3⟩ := HA.out.gr (HG2.out.trans hg3); obtain ⟨d0, d1, d2, d3⟩ := HB.out.gr (HG2.out.trans hg3); have HG3 := Lib.hid hg3; clear hg3))
            go_ret
            exact ⟨by first | rfl | (simp; done) | (simp; omega), HG1.out.trans (HG2.out.trans HG3.out)⟩
        · have hrr : rr = true := by rw [← HR.out]; exact decide_eq_true (by omega)
          subst hrr
          clear HR
          go_enter Try.func21, Try.ntmps21
          go_wp2_with (go_at_call 9; (try rw [← hw1]); first | ((with_reducible refine HRA.out.mono ?_); rintro e w2 ⟨rfl, hg2⟩; obtain ⟨c0, c1, c2, c3⟩ := HA.out.gr hg2; obtain ⟨d0, d1, d2, d3⟩ := HB.out.gr hg2; have HG2 := Lib.hid hg2; clear hg2) | ((with_reducible refine (HRB.out _).mono ?_); rintro e w3 ⟨rfl, hg3⟩; obtain ⟨c0, c1, c2, c3⟩ := HA.out.gr (HG2.out.trans hg3); obtain ⟨d0, d1, d2, d3⟩ := HB.out.gr (HG2.out.trans hg3); have HG3 := Lib.hid hg3; clear hg3))
          go_ret
          exact ⟨by first | rfl | (simp; done) | (simp; omega), HG1.out.trans (HG2.out.trans HG3.out)⟩
      · have hrr : rr = true := by rw [← HR.out]; exact decide_eq_true (by omega)
        subst hrr
        clear HR
        go_enter Try.func21, Try.ntmps21
        go_wp2_with (go_at_call 9; (try rw [← hw1]); first | ((with_reducible refine HRA.out.mono ?_); rintro e w2 ⟨rfl, hg2⟩; obtain ⟨c0, c1, c2, c3⟩ := HA.out.gr hg2; obtain ⟨d0, d1, d2, d3⟩ := HB.out.gr hg2; have HG2 := Lib.hid hg2; clear hg2) | ((with_reducible refine (HRB.out _).mono ?_); rintro e w3 ⟨rfl, hg3⟩; obtain ⟨c0, c1, c2, c3⟩ := HA.out.gr (HG2.out.trans hg3); obtain ⟨d0, d1, d2, d3⟩ := HB.out.gr (HG2.out.trans hg3); have HG3 := Lib.hid hg3; clear hg3))
        go_ret
        exact ⟨by first | rfl | (simp; done) | (simp; omega), HG1.out.trans (HG2.out.trans HG3.out)⟩
end Go.Proofs.Ytfcddkehodceaaa
