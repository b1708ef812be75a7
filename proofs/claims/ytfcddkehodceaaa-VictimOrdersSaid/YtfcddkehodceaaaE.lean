/- Score and Compare of package victim. Conditions stand in each theorem. -/
import Derived.Test.YtfcddkehodceaaaD
namespace Go.Proofs.Ytfcddkehodceaaa
open Go.RowKit
set_option linter.unusedVariables false
set_option maxHeartbeats 4000000
set_option maxRecDepth 100000
/-- What a call leaves that changes nothing that was there. -/
def RetB (w : World) (v : Value) (e : Ending) (w' : World) : Prop := e = .returned v ∧ Below w.heap.size w w'
theorem usL_one (c : Cd) : usL [c] = if c.va < c.pa then [⟨c, 0⟩] else [] := by
  unfold usL useK rkL
  by_cases h : c.va < c.pa <;> simp [h]
theorem usL_two (a b : Cd) : usL [a, b] = (if a.va < a.pa then [⟨a, 0⟩] else []) ++ (if b.va < b.pa then [⟨b, 1⟩] else []) := by
  unfold usL useK rkL
  by_cases h : a.va < a.pa <;> by_cases h2 : b.va < b.pa <;> simp [h, h2]
theorem errL_one (c : Cd) : errL [c] = c.err := by
  unfold errL Cd.err
  rw [usL_one]
  by_cases h : c.ok
  · rw [if_pos (by simpa using h), if_pos h]
    by_cases h2 : c.va = c.pa
    · rw [if_neg (show ¬ c.va < c.pa by omega), if_pos rfl, if_pos h2]
    · have := h.2.2.2.1
      rw [if_pos (show c.va < c.pa by omega), if_neg (by simp), if_neg h2]
  · rw [if_neg (by simpa using h), if_neg h]
theorem rankR_one (c : Cd) : rankR [c] = if c.use then [⟨c, 0⟩] else [] := by
  unfold rankR
  rw [usL_one]
  by_cases h : c.ok
  · rw [if_pos (by simpa using h)]
    by_cases h2 : c.va < c.pa
    · rw [if_pos h2, if_pos ⟨h, h2⟩]
    · rw [if_neg h2, if_neg (fun k => h2 k.2)]
  · rw [if_neg (by simpa using h), if_neg (fun k => h k.1)]
theorem CdO.new (w : World) (c : Cd) (t : TypeId) : CdO (w.alloc (.cells #[.int .i64 c.bl, .int .i64 c.va, .int .i64 c.pa, .int .i64 c.ag] t)) w.heap.size 0 c := by
  have h := heap_alloc_new w (.cells #[.int .i64 c.bl, .int .i64 c.va, .int .i64 c.pa, .int .i64 c.ag] t)
  refine ⟨?_, ?_, ?_, ?_⟩ <;> (rw [cell_of_row _ _ _ _ _ _ h]; rfl)
theorem Cs.one (w : World) (c : Cd) (t : TypeId) : Cs (w.alloc (.cells #[.int .i64 c.bl, .int .i64 c.va, .int .i64 c.pa, .int .i64 c.ag] t)) (.slice (some ⟨w.heap.size, 0, none⟩) 1 1) [c] :=
  ⟨_, 1, rfl, fun _ => ⟨w.heap.size, 0, rfl, by simp, fun i hi => by
    have : i = 0 := by simpa using hi
    subst this
    exact CdO.new w c t⟩⟩
theorem Cs.two (w : World) (a b : Cd) (t : TypeId) : Cs (w.alloc (.cells #[.int .i64 a.bl, .int .i64 a.va, .int .i64 a.pa, .int .i64 a.ag, .int .i64 b.bl, .int .i64 b.va, .int .i64 b.pa, .int .i64 b.ag] t)) (.slice (some ⟨w.heap.size, 0, none⟩) 2 2) [a, b] :=
  ⟨_, 2, rfl, fun _ => ⟨w.heap.size, 0, rfl, by simp, fun i hi => by
    have h := heap_alloc_new w (.cells #[.int .i64 a.bl, .int .i64 a.va, .int .i64 a.pa, .int .i64 a.ag, .int .i64 b.bl, .int .i64 b.va, .int .i64 b.pa, .int .i64 b.ag] t)
    have hi2 : i = 0 ∨ i = 1 := by
      simp at hi; omega
    rcases hi2 with rfl | rfl
    · refine ⟨?_, ?_, ?_, ?_⟩ <;> (rw [cell_of_row _ _ _ _ _ _ h]; rfl)
    · refine ⟨?_, ?_, ?_, ?_⟩ <;> (rw [cell_of_row _ _ _ _ _ _ h]; rfl)⟩⟩
/-- The elements of a row. -/
theorem own_at {w : World} {base n : Nat} {v : Value} {L : List Rk} (h : w.ownsRow base 52 7 v n (fl7 L)) : n = L.length ∧ (L = [] ∧ v = .slice none 0 0 ∨ ∃ g cap, v = .slice (some ⟨g, 0, none⟩) L.length cap ∧ base ≤ g ∧ g < w.heap.size ∧ AllAt w g cap L.length L ∧ L.length ≤ cap) := by
  have hn : n = L.length := by have := h.1; rw [fl7_length] at this; omega
  refine ⟨hn, ?_⟩
  rcases h.2 with ⟨h1, h2⟩ | ⟨g, cap, cur, h1, hb, hg, hnc, hcm, hcs, ht⟩
  · exact .inl ⟨List.length_eq_zero_iff.1 (by omega), h1⟩
  · refine .inr ⟨g, cap, by rw [h1, hn], hb, (Array.getElem?_eq_some_iff.1 hg).1, ⟨⟨cur, hg, hcs⟩, Nat.le_refl _, fun i hi _ => ?_⟩, by omega⟩
    have key : ∀ j, j < 7 → w.cell? ⟨g, i * 7 + j, none⟩ = L[i].cells[j]? := fun j hj => by
      rw [cell_of_row w g _ cur 52 (0, 0) hg, ← fl7_at L i j hi hj, ← ht, List.getElem?_take_of_lt (by omega)]
      simp
    exact ⟨key 0 (by omega), key 1 (by omega), key 2 (by omega), key 3 (by omega), key 4 (by omega), key 5 (by omega), key 6 (by omega)⟩
theorem score_any (c : Cd) (w : World) : Calls Try.prog 8 #[c.v] w (RetB w (.tuple #[.int .i64 c.n, .int .i64 c.d, .int .i64 c.err])) := by
  obtain ⟨w1, hw1⟩ : ∃ w1 : World, w1 = (w.alloc (.cells #[.int .i64 c.bl, .int .i64 c.va, .int .i64 c.pa, .int .i64 c.ag] 23)).alloc (.cells #[.int .i64 c.bl, .int .i64 c.va, .int .i64 c.pa, .int .i64 c.ag] 23) := ⟨_, rfl⟩
  have hb1 : Below w.heap.size w w1 := by rw [hw1]; exact ((Gr.refl w).alloc _ |>.alloc _).below
  have hcs : Cs w1 (.slice (some ⟨w.heap.size + 1, 0, none⟩) 1 1) [c] := by
    have := Cs.one (w.alloc (.cells #[.int .i64 c.bl, .int .i64 c.va, .int .i64 c.pa, .int .i64 c.ag] 23)) c 23
    rw [World.size_alloc] at this
    rw [hw1]; exact this
  have hk := rank_any w1 _ [c] hcs (by simp)
  have HK := Lib.hid hk
  have HB := Lib.hid hb1
  have HW := Lib.hid hw1
  have hE := Lib.hid (errL_one c)
  have hR := Lib.hid (rankR_one c)
  clear hcs hk hb1 hw1
  by_cases hu : c.use
  · have e1 : c.n = c.num := if_pos hu
    have e2 : c.d = c.den := if_pos hu
    have e3 : c.err = 0 := by unfold Cd.err; rw [if_pos hu.1, if_neg (by have := hu.2; omega)]
    rw [e1, e2, e3]
    replace hE := Lib.hid (hE.out.trans e3)
    replace hR := Lib.hid (hR.out.trans (if_pos hu))
    clear e1 e2 e3 hu
    obtain ⟨bl, va, pa, ag⟩ := c
    generalize hn : Cd.num ⟨bl, va, pa, ag⟩ = nn at *
    generalize hd : Cd.den ⟨bl, va, pa, ag⟩ = dd at *
    simp only [Cd.v] at *
    have HND : Hid (Cd.num ⟨bl, va, pa, ag⟩ = nn ∧ Cd.den ⟨bl, va, pa, ag⟩ = dd) := ⟨hn, hd⟩
    clear hn hd
    go_enter Try.func8, Try.ntmps8
    go_upto_region 2 with (go_at_call 17; rw [← HW.out]; (with_reducible refine HK.out.mono ?_); rintro e w2 ⟨hb2, v2, rfl, ho2⟩; have HB2 := Lib.hid hb2; have HO2 := Lib.hid ho2; clear hb2 ho2)
    obtain ⟨-, h3⟩ := own_at HO2.out
    rw [hR.out] at h3
    rcases h3 with ⟨h3, -⟩ | ⟨g, cap, rfl, hg1, hg2, hA, hcap⟩
    · cases h3
    · have hr := hA.el 0 (by simp) (by simp)
      have c0 := hr.c0; have c5 := hr.c5; have c6 := hr.c6
      simp only [List.getElem_cons_zero, Nat.zero_mul, Nat.zero_add] at c0 c5 c6
      rw [HND.out.1] at c5
      rw [HND.out.2] at c6
      clear hr hA
      rw [hE.out]
      go_wp2
      go_quiet (fail)
      go_wp2
      go_ret3
      exact ⟨rfl, HB.out.trans ((HB2.out.mono HB.out.size).trans ((((Gr.refl w2).alloc _).drewN _).below.mono (by have := HB.out.size; have := HB2.out.size; omega)))⟩
  · have e1 : c.n = 0 := if_neg hu
    have e2 : c.d = 0 := if_neg hu
    rw [e1, e2]
    replace hR := Lib.hid (hR.out.trans (if_neg hu))
    have he : c.err ≠ 0 := by
      unfold Cd.err
      by_cases h : c.ok
      · rw [if_pos h, if_pos (by by_cases h2 : c.va = c.pa; exact h2; exact absurd ⟨h, by have := h.2.2.2.1; omega⟩ hu)]; omega
      · rw [if_neg h]; omega
    obtain ⟨ee, hee⟩ : ∃ ee, ee = c.err := ⟨_, rfl⟩
    rw [← hee] at hE he ⊢
    clear e1 e2 hu hee
    obtain ⟨bl, va, pa, ag⟩ := c
    simp only [Cd.v] at *
    go_enter Try.func8, Try.ntmps8
    go_upto_region 2 with (go_at_call 17; rw [← HW.out]; (with_reducible refine HK.out.mono ?_); rintro e w2 ⟨hb2, v2, rfl, ho2⟩; have HB2 := Lib.hid hb2; clear hb2 ho2)
    rw [hE.out]
    go_wp2
    go_ret3
    exact ⟨rfl, HB.out.trans (HB2.out.mono HB.out.size)⟩
theorem rankR_two (a b : Cd) : rankR [a, b] = if a.ok ∧ b.ok then (if a.va < a.pa then [⟨a, 0⟩] else []) ++ (if b.va < b.pa then [⟨b, 1⟩] else []) else [] := by
  unfold rankR
  rw [usL_two]
  simp
theorem cmpI_cases (a b : Int) : cmpI a b = -1 ∨ cmpI a b = 0 ∨ cmpI a b = 1 := by unfold cmpI; split; · exact .inl rfl
                                                                                   · split; · exact .inr (.inr rfl)
                                                                                     · exact .inr (.inl rfl)
theorem cmpI_swap (a b : Int) : cmpI b a = - cmpI a b := by unfold cmpI; split <;> split <;> omega
theorem orI_cases {a b c : Int} (ha : a = -1 ∨ a = 0 ∨ a = 1) (hb : b = -1 ∨ b = 0 ∨ b = 1) (hc : c = -1 ∨ c = 0 ∨ c = 1) : orI a b c = -1 ∨ orI a b c = 0 ∨ orI a b c = 1 := by unfold orI; split <;> (try split) <;> omega
theorem orI_swap (a b c : Int) : orI (-a) (-b) (-c) = - orI a b c := by unfold orI; split <;> split <;> (try split) <;> (try split) <;> omega
theorem cfP_cases (a b : Cd) : cfP a b = -1 ∨ cfP a b = 0 ∨ cfP a b = 1 := orI_cases (cmpI_cases _ _) (cmpI_cases _ _) (cmpI_cases _ _)
theorem cfP_swap (a b : Cd) : cfP b a = - cfP a b := by
  unfold cfP
  rw [← orI_swap, ← cmpI_swap, ← cmpI_swap, ← cmpI_swap]
theorem cfP_three (a b : Cd) : (if cfP a b < 0 then (-1 : Int) else if cfP b a < 0 then 1 else 0) = cfP a b := by
  rw [cfP_swap a b]
  rcases cfP_cases a b with h | h | h <;> rw [h] <;> rfl
theorem compare_any (a b : Cd) (w : World) : Calls Try.prog 11 #[a.v, b.v] w (RetB w (.int .i64 (if a.use ∧ b.use then cfP a b else 0))) := by
  obtain ⟨w1, hw1⟩ : ∃ w1 : World, w1 = ((w.alloc (.cells #[.int .i64 a.bl, .int .i64 a.va, .int .i64 a.pa, .int .i64 a.ag] 23)).alloc (.cells #[.int .i64 b.bl, .int .i64 b.va, .int .i64 b.pa, .int .i64 b.ag] 23)).alloc (.cells #[.int .i64 a.bl, .int .i64 a.va, .int .i64 a.pa, .int .i64 a.ag, .int .i64 b.bl, .int .i64 b.va, .int .i64 b.pa, .int .i64 b.ag] 23) := ⟨_, rfl⟩
  have hb1 : Below w.heap.size w w1 := by rw [hw1]; exact ((Gr.refl w).alloc _ |>.alloc _ |>.alloc _).below
  have hcs : Cs w1 (.slice (some ⟨w.heap.size + 2, 0, none⟩) 2 2) [a, b] := by
    have := Cs.two ((w.alloc (.cells #[.int .i64 a.bl, .int .i64 a.va, .int .i64 a.pa, .int .i64 a.ag] 23)).alloc (.cells #[.int .i64 b.bl, .int .i64 b.va, .int .i64 b.pa, .int .i64 b.ag] 23)) a b 23
    rw [World.size_alloc, World.size_alloc] at this
    rw [hw1]; exact this
  have hk := rank_any w1 _ [a, b] hcs (by simp)
  have HK := Lib.hid hk
  have HB := Lib.hid hb1
  have HW := Lib.hid hw1
  have hR := Lib.hid (rankR_two a b)
  obtain ⟨ee, hee⟩ : ∃ ee, ee = errL [a, b] := ⟨_, rfl⟩
  have HEE := Lib.hid hee
  clear hcs hk hb1 hw1 hee
  by_cases hu : a.use ∧ b.use
  · rw [if_pos hu]
    replace hR := Lib.hid (hR.out.trans (if_pos ⟨hu.1.1, hu.2.1⟩))
    have hP := fun W => byPref_any ⟨a, 0⟩ ⟨b, 1⟩ hu.1 hu.2 W
    have ha := hu.1.2
    have hb := hu.2.2
    rw [if_pos ha, if_pos hb] at hR
    generalize hx : cfP a b = x at *
    have HP := Lib.hid hP
    clear hu ha hb hP hx
    obtain ⟨abl, ava, apa, aag⟩ := a
    obtain ⟨bbl, bva, bpa, bag⟩ := b
    generalize hn : Cd.num ⟨abl, ava, apa, aag⟩ = p at *
    generalize hd : Cd.den ⟨abl, ava, apa, aag⟩ = q at *
    generalize hn2 : Cd.num ⟨bbl, bva, bpa, bag⟩ = r at *
    generalize hd2 : Cd.den ⟨bbl, bva, bpa, bag⟩ = s at *
    have HND : Hid (Cd.num ⟨abl, ava, apa, aag⟩ = p ∧ Cd.den ⟨abl, ava, apa, aag⟩ = q ∧ Cd.num ⟨bbl, bva, bpa, bag⟩ = r ∧ Cd.den ⟨bbl, bva, bpa, bag⟩ = s) := by exact ⟨hn, hd, hn2, hd2⟩
    simp only [Cd.v, Rk.v, Rk.row, hn, hd, hn2, hd2] at HK HP ⊢
    clear hn hd hn2 hd2
    go_enter Try.func11, Try.ntmps11
    go_upto_region 2 with (go_at_call 17; rw [← HW.out]; (with_reducible refine HK.out.mono ?_); rintro e w2 ⟨hb2, v2, rfl, ho2⟩; have HB2 := Lib.hid hb2; have HO2 := Lib.hid ho2; clear hb2 ho2)
    obtain ⟨-, h3⟩ := own_at HO2.out
    rw [hR.out] at h3
    rcases h3 with ⟨h3, -⟩ | ⟨g, cap, rfl, hg1, hg2, hA, hcap⟩
    · cases h3
    · have hne := gw_ne w2
      have hr := hA.el 0 (by simp) (by simp)
      have hr1 := hA.el 1 (by simp) (by simp)
      have HA0 := Lib.hid hr
      have HA1 := Lib.hid hr1
      simp only [List.cons_append, List.nil_append, List.getElem_cons_zero, List.getElem_cons_succ, Nat.zero_mul, Nat.one_mul] at HA0 HA1
      have c0 := fun z : Gw w2 => (HA0.out.gr z.h).c0
      have c1 := fun z : Gw w2 => (HA0.out.gr z.h).c1
      have c2 := fun z : Gw w2 => (HA0.out.gr z.h).c2
      have c3 := fun z : Gw w2 => (HA0.out.gr z.h).c3
      have c4 := fun z : Gw w2 => (HA0.out.gr z.h).c4
      have c5 := fun z : Gw w2 => (HA0.out.gr z.h).c5
      have c6 := fun z : Gw w2 => (HA0.out.gr z.h).c6
      have d0 := fun z : Gw w2 => (HA1.out.gr z.h).c0
      have d1 := fun z : Gw w2 => (HA1.out.gr z.h).c1
      have d2 := fun z : Gw w2 => (HA1.out.gr z.h).c2
      have d3 := fun z : Gw w2 => (HA1.out.gr z.h).c3
      have d4 := fun z : Gw w2 => (HA1.out.gr z.h).c4
      have d5 := fun z : Gw w2 => (HA1.out.gr z.h).c5
      have d6 := fun z : Gw w2 => (HA1.out.gr z.h).c6
      simp only [HND.out.1, Nat.zero_add] at c0 c1 c2 c3 c4 c5
      simp only [HND.out.2.1, Nat.zero_add] at c6
      simp only [HND.out.2.2.1, Nat.reduceAdd] at d0 d1 d2 d3 d4 d5
      simp only [HND.out.2.2.2, Nat.reduceAdd] at d6
      clear hr hr1 hA
      simp only [List.cons_append, List.nil_append, List.length_cons, List.length_nil]
      go_wp2
      refine wp_region_gw (by kernel_rfl) (by kernel_rfl) ?_
      repeat (go_big_quiet_step ((go_at_call 19; exact gw_of _ (HP.out _))))
      refine wpQuiet_nil ?_
      rintro w4 ⟨⟨_, hg4⟩, rfl⟩
      go_wp2
      go_ret
      exact ⟨rfl, HB.out.trans ((HB2.out.mono HB.out.size).trans (hg4.below.mono (by have := HB.out.size; have := HB2.out.size; omega)))⟩
  · rw [if_neg hu]
    have hlen : (rankR [a, b]).length < 2 := by
      rw [hR.out]
      by_cases h1 : a.ok ∧ b.ok
      · rw [if_pos h1]
        by_cases h2 : a.va < a.pa
        · have h3 : ¬ b.va < b.pa := fun h3 => hu ⟨⟨h1.1, h2⟩, ⟨h1.2, h3⟩⟩
          rw [if_neg h3]; split <;> simp
        · rw [if_neg h2]; split <;> simp
      · rw [if_neg h1]; simp
    have HL := Lib.hid hlen
    clear hlen hu
    obtain ⟨abl, ava, apa, aag⟩ := a
    obtain ⟨bbl, bva, bpa, bag⟩ := b
    simp only [Cd.v] at *
    go_enter Try.func11, Try.ntmps11
    go_upto_region 2 with (go_at_call 17; rw [← HW.out]; (with_reducible refine HK.out.mono ?_); rintro e w2 ⟨hb2, v2, rfl, ho2⟩; have HB2 := Lib.hid hb2; have HO2 := Lib.hid ho2; clear hb2 ho2)
    obtain ⟨-, h3⟩ := own_at HO2.out
    have hll := HL.out
    generalize rankR [_, _] = R2 at h3 hll
    rcases h3 with ⟨h3, rfl⟩ | ⟨g, cap, rfl, hg1, hg2, hA, hcap⟩
    · go_wp2
      go_ret
      exact ⟨rfl, HB.out.trans (HB2.out.mono HB.out.size)⟩
    · have hz : (R2.length : Int) < 2 := by omega
      clear hA
      go_wp2
      go_ret
      exact ⟨rfl, HB.out.trans (HB2.out.mono HB.out.size)⟩
end Go.Proofs.Ytfcddkehodceaaa
