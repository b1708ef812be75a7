/- byPreference of package victim over ranked candidates; the closure that filters them; Compare of the reference. Conditions stand in each theorem. -/
import Derived.Test.YtfcddkehodceaaaB
namespace Go.Proofs.Ytfcddkehodceaaa
open Go.RowKit
set_option linter.unusedVariables false
set_option maxHeartbeats 4000000
set_option maxRecDepth 100000
/-- A ranked candidate: the candidate, its place. -/
structure Rk where
  c : Cd
  pl : Int
def Rk.cells (r : Rk) : List Value := [.int .i64 r.c.bl, .int .i64 r.c.va, .int .i64 r.c.pa, .int .i64 r.c.ag, .int .i64 r.pl, .int .i64 r.c.num, .int .i64 r.c.den]
abbrev Rk.row (r : Rk) : Array Value := #[.int .i64 r.c.bl, .int .i64 r.c.va, .int .i64 r.c.pa, .int .i64 r.c.ag, .int .i64 r.pl, .int .i64 r.c.num, .int .i64 r.c.den]
abbrev Rk.v (r : Rk) : Value := .agg r.row
/-- The cells of a ranked candidate's box. -/
structure RkAt (W : World) (g o : Nat) (r : Rk) : Prop where
  c0 : W.cell? ⟨g, o, none⟩ = some (.int .i64 r.c.bl)
  c1 : W.cell? ⟨g, o + 1, none⟩ = some (.int .i64 r.c.va)
  c2 : W.cell? ⟨g, o + 2, none⟩ = some (.int .i64 r.c.pa)
  c3 : W.cell? ⟨g, o + 3, none⟩ = some (.int .i64 r.c.ag)
  c4 : W.cell? ⟨g, o + 4, none⟩ = some (.int .i64 r.pl)
  c5 : W.cell? ⟨g, o + 5, none⟩ = some (.int .i64 r.c.num)
  c6 : W.cell? ⟨g, o + 6, none⟩ = some (.int .i64 r.c.den)
theorem RkAt.gr {W W' : World} {g o : Nat} {r : Rk} (h : RkAt W g o r) (hg : Gr W W') : RkAt W' g o r := ⟨hg.cell h.c0, hg.cell h.c1, hg.cell h.c2, hg.cell h.c3, hg.cell h.c4, hg.cell h.c5, hg.cell h.c6⟩
theorem RkAt.new (w : World) (r : Rk) (t : TypeId) : RkAt (w.alloc (.cells r.row t)) w.heap.size 0 r := by
  have h := heap_alloc_new w (.cells r.row t)
  refine ⟨?_, ?_, ?_, ?_, ?_, ?_, ?_⟩ <;> (rw [cell_of_row _ _ _ _ _ _ h]; rfl)
theorem RkAt.new2 (w : World) (a b : Rk) (t : TypeId) : RkAt ((w.alloc (.cells a.row t)).alloc (.cells b.row t)) w.heap.size 0 a ∧ RkAt ((w.alloc (.cells a.row t)).alloc (.cells b.row t)) (w.heap.size + 1) 0 b := by
  refine ⟨(RkAt.new w a t).gr ((Gr.refl _).alloc _), ?_⟩
  have h := RkAt.new (w.alloc (.cells a.row t)) b t
  rw [World.size_alloc] at h
  exact h
theorem useful1_any (r : Rk) (w : World) : Calls Try.prog 28 #[r.v] w (Ret w (.bool (decide (r.c.va < r.c.pa)))) := by
  obtain ⟨⟨bl, va, pa, ag⟩, pl⟩ := r
  generalize hn : Cd.num ⟨bl, va, pa, ag⟩ = n
  generalize hd : Cd.den ⟨bl, va, pa, ag⟩ = d
  simp only [Rk.v, Rk.row, hn, hd]
  clear hn hd
  go_enter Try.func28, Try.ntmps28
  go_wp2
  go_ret
  exact ⟨rfl, (Gr.refl w).alloc _⟩
theorem byPref_any (a b : Rk) (ha : a.c.use) (hb : b.c.use) (w : World) : Calls Try.prog 19 #[a.v, b.v] w (Ret w (.int .i64 (cfP a.c b.c))) := by
  obtain ⟨w1, hw1⟩ : ∃ w1 : World, w1 = (w.alloc (.cells a.row 52)).alloc (.cells b.row 52) := ⟨_, rfl⟩
  have hg1 : Gr w w1 := by rw [hw1]; exact ((Gr.refl w).alloc _).alloc _
  obtain ⟨ca, cb⟩ : RkAt w1 w.heap.size 0 a ∧ RkAt w1 (w.heap.size + 1) 0 b := by rw [hw1]; exact RkAt.new2 w a b 52
  have HG1 := Lib.hid hg1
  obtain ⟨a1, a2, a3, a4, a5⟩ := a.c.use_bd ha
  obtain ⟨b1, b2, b3, b4, b5⟩ := b.c.use_bd hb
  obtain ⟨x1, x2, x3⟩ := mul_bd a1 a2 b3 b4
  obtain ⟨y1, y2, y3⟩ := mul_bd b1 b2 a3 a4
  have hS : ∀ W, Calls Try.prog 30 #[.agg #[.int .i64 b.c.num, .int .i64 b.c.den], .agg #[.int .i64 a.c.num, .int .i64 a.c.den]] W (Ret W (.int .i64 (cmpI (b.c.num * a.c.den) (a.c.num * b.c.den)))) := fun W => scmp_any _ _ _ _ W y3 x3
  unfold cfP
  generalize hcp : cmpI (b.c.num * a.c.den) (a.c.num * b.c.den) = cp at *
  clear a1 a2 a3 a4 a5 b1 b2 b3 b4 b5 x1 x2 x3 y1 y2 y3 ha hb hg1 hcp
  have hne := gw_ne w1
  have ca0 := fun r : Gw w1 => (ca.gr r.h).c0
  have ca3 := fun r : Gw w1 => (ca.gr r.h).c3
  have ca5 := fun r : Gw w1 => (ca.gr r.h).c5
  have ca6 := fun r : Gw w1 => (ca.gr r.h).c6
  have cb0 := fun r : Gw w1 => (cb.gr r.h).c0
  have cb3 := fun r : Gw w1 => (cb.gr r.h).c3
  have cb5 := fun r : Gw w1 => (cb.gr r.h).c5
  have cb6 := fun r : Gw w1 => (cb.gr r.h).c6
  have HS := Lib.hid hS
  have HN := Lib.hid (show w1.heap.size = w.heap.size + 2 by rw [hw1]; simp)
  clear ca cb hS
  obtain ⟨⟨abl, ava, apa, aag⟩, apl⟩ := a
  obtain ⟨⟨bbl, bva, bpa, bag⟩, bpl⟩ := b
  generalize Cd.num ⟨abl, ava, apa, aag⟩ = p at *
  generalize Cd.den ⟨abl, ava, apa, aag⟩ = q at *
  generalize Cd.num ⟨bbl, bva, bpa, bag⟩ = r at *
  generalize Cd.den ⟨bbl, bva, bpa, bag⟩ = s at *
  simp only [Rk.v, Rk.row] at *
  have HW := Lib.hid hw1
  clear hw1
  go_enter Try.func19, Try.ntmps19
  go_wp2_with fail
  rw [← HW.out]
  refine wp_region_gw_tail 19 (by kernel_rfl) (by kernel_rfl) ?_
  simp only [List.take_succ_cons, List.take_zero, List.drop_succ_cons, List.drop_zero]
  repeat (go_big_quiet_step ((first | (go_at_call 30; exact gw_of _ (HS.out _)) | (go_at_call 31; exact gw_of _ (cmp_any _ _ _)))))
  refine wpQuiet_nil ?_
  rintro w2 ⟨⟨_, hg2⟩, rfl⟩
  have hc := or_any w2.heap.size 3 cp (cmpI bag aag) (cmpI abl bbl) (w2.alloc (.cells #[.int .i64 cp, .int .i64 (cmpI bag aag), .int .i64 (cmpI abl bbl)] 3)) (by simp) (by simp) (by simp)
  generalize cmpI bag aag = c2 at *
  generalize cmpI abl bbl = c3 at *
  have HG2 := Lib.hid hg2
  clear hg2 ca0 ca3 ca5 ca6 cb0 cb3 cb5 cb6 hne
  go_wp2_with (go_at_call 29; refine hc.mono ?_; rintro e w3 ⟨rfl, hg3⟩)
  go_ret
  exact ⟨rfl, HG1.out.trans ((HG2.out.alloc _).trans hg3)⟩
theorem rcompare_any (a b : Cd) (w : World) : Calls Try.prog 12 #[a.v, b.v] w (Ret w (.int .i64 (if a.use ∧ b.use then (if cfP a b < 0 then -1 else if cfP b a < 0 then 1 else 0) else 0))) := by
  obtain ⟨w1, hw1⟩ : ∃ w1 : World, w1 = (w.alloc (.cells #[.int .i64 a.bl, .int .i64 a.va, .int .i64 a.pa, .int .i64 a.ag] 23)).alloc (.cells #[.int .i64 b.bl, .int .i64 b.va, .int .i64 b.pa, .int .i64 b.ag] 23) := ⟨_, rfl⟩
  have hg1 : Gr w w1 := by rw [hw1]; exact ((Gr.refl w).alloc _).alloc _
  obtain ⟨ca, cb⟩ : CdAt w1 w.heap.size a ∧ CdAt w1 (w.heap.size + 1) b := by rw [hw1]; exact CdAt.new2 w a b 23
  have HA := Lib.hid ca
  have HB := Lib.hid cb
  have HG1 := Lib.hid hg1
  have k0 := ca.c0; have k1 := ca.c1; have k2 := ca.c2; have k3 := ca.c3
  have l0 := cb.c0; have l1 := cb.c1; have l2 := cb.c2; have l3 := cb.c3
  have hu1 := useful_any a w1
  have hu2 := fun W => useful_any b W
  have hp : a.use → b.use → ∀ W, Calls Try.prog 21 #[a.v, b.v] W (Ret W (.bool (decide (cfP a b < 0)))) := fun h1 h2 W => preferred_any a b h1 h2 W
  have hp' : a.use → b.use → ∀ W, Calls Try.prog 21 #[b.v, a.v] W (Ret W (.bool (decide (cfP b a < 0)))) := fun h1 h2 W => preferred_any b a h2 h1 W
  have HW := Lib.hid hw1
  generalize hx : cfP a b = x at *
  generalize hy : cfP b a = y at *
  clear ca cb hg1 hx hy hw1
  by_cases ha : a.use
  · rw [decide_eq_true ha] at hu1
    by_cases hb : b.use
    · have HU1 := Lib.hid hu1
      simp only [decide_eq_true hb] at hu2
      have HU2 := Lib.hid hu2
      have HP1 := Lib.hid (hp ha hb)
      have HP2 := Lib.hid (hp' ha hb)
      rw [if_pos ⟨ha, hb⟩]
      clear ha hb hp hp' hu1 hu2
      obtain ⟨abl, ava, apa, aag⟩ := a
      obtain ⟨bbl, bva, bpa, bag⟩ := b
      simp only [Cd.v] at *
      by_cases h1 : x < 0
      · rw [if_pos h1]
        rw [decide_eq_true h1] at HP1
        go_enter Try.func12, Try.ntmps12
        go_wp2_with (first | ((go_at_call 20; (try rw [← HW.out]); (with_reducible refine HU1.out.mono ?_); rintro e w2 ⟨rfl, hg2⟩; obtain ⟨k0, k1, k2, k3⟩ := HA.out.gr hg2; obtain ⟨l0, l1, l2, l3⟩ := HB.out.gr hg2; have HG2 := Lib.hid hg2; clear hg2)) | ((go_at_call 20; (with_reducible refine (HU2.out _).mono ?_); rintro e w3 ⟨rfl, hg3⟩; have hg4 := HG2.out.trans hg3; obtain ⟨m0, m1, m2, m3⟩ := HA.out.gr hg4; obtain ⟨n0, n1, n2, n3⟩ := HB.out.gr hg4; have HG3 := Lib.hid hg4; clear hg3 hg4)) | ((go_at_call 21; (with_reducible refine (HP1.out _).mono ?_); rintro e w4 ⟨rfl, hg4⟩; have hg5 := HG3.out.trans hg4; obtain ⟨o0, o1, o2, o3⟩ := HA.out.gr hg5; obtain ⟨p0, p1, p2, p3⟩ := HB.out.gr hg5; have HG4 := Lib.hid hg5; clear hg4 hg5)))
        go_ret
        exact ⟨rfl, HG1.out.trans HG4.out⟩
      · rw [if_neg h1]
        rw [decide_eq_false h1] at HP1
        by_cases h2 : y < 0
        · rw [if_pos h2]
          rw [decide_eq_true h2] at HP2
          go_enter Try.func12, Try.ntmps12
          go_wp2_with (first | ((go_at_call 20; (try rw [← HW.out]); (with_reducible refine HU1.out.mono ?_); rintro e w2 ⟨rfl, hg2⟩; obtain ⟨k0, k1, k2, k3⟩ := HA.out.gr hg2; obtain ⟨l0, l1, l2, l3⟩ := HB.out.gr hg2; have HG2 := Lib.hid hg2; clear hg2)) | ((go_at_call 20; (with_reducible refine (HU2.out _).mono ?_); rintro e w3 ⟨rfl, hg3⟩; have hg4 := HG2.out.trans hg3; obtain ⟨m0, m1, m2, m3⟩ := HA.out.gr hg4; obtain ⟨n0, n1, n2, n3⟩ := HB.out.gr hg4; have HG3 := Lib.hid hg4; clear hg3 hg4)) | ((go_at_call 21; (with_reducible refine (HP1.out _).mono ?_); rintro e w4 ⟨rfl, hg4⟩; have hg5 := HG3.out.trans hg4; obtain ⟨o0, o1, o2, o3⟩ := HA.out.gr hg5; obtain ⟨p0, p1, p2, p3⟩ := HB.out.gr hg5; have HG4 := Lib.hid hg5; clear hg4 hg5)) | ((go_at_call 21; (with_reducible refine (HP2.out _).mono ?_); rintro e w5 ⟨rfl, hg4⟩; have hg5 := HG4.out.trans hg4; have HG5 := Lib.hid hg5; clear hg4 hg5)))
          go_ret
          exact ⟨rfl, HG1.out.trans HG5.out⟩
        · rw [if_neg h2]
          rw [decide_eq_false h2] at HP2
          go_enter Try.func12, Try.ntmps12
          go_wp2_with (first | ((go_at_call 20; (try rw [← HW.out]); (with_reducible refine HU1.out.mono ?_); rintro e w2 ⟨rfl, hg2⟩; obtain ⟨k0, k1, k2, k3⟩ := HA.out.gr hg2; obtain ⟨l0, l1, l2, l3⟩ := HB.out.gr hg2; have HG2 := Lib.hid hg2; clear hg2)) | ((go_at_call 20; (with_reducible refine (HU2.out _).mono ?_); rintro e w3 ⟨rfl, hg3⟩; have hg4 := HG2.out.trans hg3; obtain ⟨m0, m1, m2, m3⟩ := HA.out.gr hg4; obtain ⟨n0, n1, n2, n3⟩ := HB.out.gr hg4; have HG3 := Lib.hid hg4; clear hg3 hg4)) | ((go_at_call 21; (with_reducible refine (HP1.out _).mono ?_); rintro e w4 ⟨rfl, hg4⟩; have hg5 := HG3.out.trans hg4; obtain ⟨o0, o1, o2, o3⟩ := HA.out.gr hg5; obtain ⟨p0, p1, p2, p3⟩ := HB.out.gr hg5; have HG4 := Lib.hid hg5; clear hg4 hg5)) | ((go_at_call 21; (with_reducible refine (HP2.out _).mono ?_); rintro e w5 ⟨rfl, hg4⟩; have hg5 := HG4.out.trans hg4; have HG5 := Lib.hid hg5; clear hg4 hg5)))
          go_ret
          exact ⟨rfl, HG1.out.trans HG5.out⟩
    · simp only [decide_eq_false hb] at hu2
      rw [if_neg (fun h => hb h.2)]
      have HU1 := Lib.hid hu1
      have HU2 := Lib.hid hu2
      clear ha hb hp hp' hu1 hu2
      obtain ⟨abl, ava, apa, aag⟩ := a
      obtain ⟨bbl, bva, bpa, bag⟩ := b
      simp only [Cd.v] at *
      go_enter Try.func12, Try.ntmps12
      go_wp2_with (first | ((go_at_call 20; (try rw [← HW.out]); (with_reducible refine HU1.out.mono ?_); rintro e w2 ⟨rfl, hg2⟩; obtain ⟨k0, k1, k2, k3⟩ := HA.out.gr hg2; obtain ⟨l0, l1, l2, l3⟩ := HB.out.gr hg2; have HG2 := Lib.hid hg2; clear hg2)) | ((go_at_call 20; (with_reducible refine (HU2.out _).mono ?_); rintro e w3 ⟨rfl, hg3⟩; have hg4 := HG2.out.trans hg3; obtain ⟨m0, m1, m2, m3⟩ := HA.out.gr hg4; obtain ⟨n0, n1, n2, n3⟩ := HB.out.gr hg4; have HG3 := Lib.hid hg4; clear hg3 hg4)))
      go_ret
      exact ⟨rfl, HG1.out.trans HG3.out⟩
  · rw [decide_eq_false ha] at hu1
    rw [if_neg (fun h => ha h.1)]
    have HU1 := Lib.hid hu1
    clear ha hp hp' hu1 hu2
    obtain ⟨abl, ava, apa, aag⟩ := a
    obtain ⟨bbl, bva, bpa, bag⟩ := b
    simp only [Cd.v] at *
    go_enter Try.func12, Try.ntmps12
    go_wp2_with ((go_at_call 20; (try rw [← HW.out]); (with_reducible refine HU1.out.mono ?_); rintro e w2 ⟨rfl, hg2⟩; obtain ⟨k0, k1, k2, k3⟩ := HA.out.gr hg2; obtain ⟨l0, l1, l2, l3⟩ := HB.out.gr hg2; have HG2 := Lib.hid hg2; clear hg2))
    go_ret
    exact ⟨rfl, HG1.out.trans HG2.out⟩
end Go.Proofs.Ytfcddkehodceaaa
