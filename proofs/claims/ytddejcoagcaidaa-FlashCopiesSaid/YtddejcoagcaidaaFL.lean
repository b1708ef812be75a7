/- The walk of FlashCopies; two calls are opened. Conditions stand in each theorem. -/
import Derived.Test.YtddejcoagcaidaaFF
import Derived.Test.YtddejcoagcaidaaBG
namespace Go.Proofs.Ytddejcoagcaidaa
section
open Go.RowKit
set_option linter.unusedVariables false
set_option maxHeartbeats 8000000
set_option maxRecDepth 100000
theorem copies_pre {nb np sz en : Int} {vf vl : Value} {xs : List Int} {L : List KA} {X0 X1 : KA} {w : World} (hx : Ints w vf xs) (hL : Acts w vl L) (hok : ∀ e ∈ L, KA.ok w e) (hX0 : X0.ok w) (hX1 : X1.ok w)
    (hc : smB nb np sz en = false ∨ (smB nb np sz en = true ∧ ¬ xs.length ≤ 20) ∨ (smB nb np sz en = true ∧ xs.length ≤ 20 ∧ fewB L 25 = false) ∨ (smB nb np sz en = true ∧ xs.length ≤ 20 ∧ fewB L 25 = true ∧ fewB [X0, X1] 2 = false) ∨ (smB nb np sz en = true ∧ xs.length ≤ 20 ∧ fewB L 25 = true ∧ fewB [X0, X1] 2 = true ∧ valB nb np sz en = false)) : Calls Try.prog 4 #[.agg #[.int .i64 nb, .int .i64 np, .int .i64 sz, .int .i64 en], vf, vl, .agg (X0.enc ++ X1.enc).toArray] w (LwP w) := by
  have HSM := Lib.hid (fun W => small_any nb np sz en W)
  have HRT := Lib.hid (fun W => Right_any nb np sz en W)
  have HF := Lib.hid (few_belowP 25 25 rfl (by omega) hL hok)
  have HWK := Lib.hid works_any
  obtain ⟨W1, hW1⟩ : ∃ W1 : World, W1 = (w.alloc (.cells #[.int .i64 nb, .int .i64 np, .int .i64 sz, .int .i64 en] 23)).alloc (.cells (X0.enc ++ X1.enc).toArray 46) := ⟨_, rfl⟩
  have hb1 : Below w.heap.size w W1 := by rw [hW1]; exact (balloc w _).alloc (by simp) _
  have hbx : W1.heap[w.heap.size]? = some (.cells #[.int .i64 nb, .int .i64 np, .int .i64 sz, .int .i64 en] 23 (0, 0)) := by rw [hW1]; exact heap_alloc2_old w _ _
  have htx : W1.heap[w.heap.size + 1]? = some (.cells (X0.enc ++ X1.enc).toArray 46 (0, 0)) := by rw [hW1]; exact heap_alloc2_new w _ _
  have HF2 := Lib.hid (few_belowP (w := W1) 2 2 rfl (by omega) (two_acts htx) (fun e he => by
    simp only [List.mem_cons, List.not_mem_nil, or_false] at he
    rcases he with rfl | rfl
    · exact ⟨hX0.1.below hb1, hX0.2.below hb1⟩
    · exact ⟨hX1.1.below hb1, hX1.2.below hb1⟩))
  have k0 := cell_of_row W1 w.heap.size 0 _ 23 (0, 0) hbx
  have k1 := cell_of_row W1 w.heap.size 1 _ 23 (0, 0) hbx
  have k2 := cell_of_row W1 w.heap.size 2 _ 23 (0, 0) hbx
  have k3 := cell_of_row W1 w.heap.size 3 _ 23 (0, 0) hbx
  simp only [List.getElem?_toArray, List.getElem?_cons_zero, List.getElem?_cons_succ] at k0 k1 k2 k3
  have HGX := Lib.hid hbx
  have HB1 := Lib.hid hb1
  have HW1 := Lib.hid hW1
  obtain ⟨Af, cf, ef, _⟩ := hx
  obtain ⟨Al, cl, el, _⟩ := hL
  subst ef
  subst el
  clear hok hX0 hX1 hbx htx hb1 hW1
  rcases hc with h1 | ⟨h1, h2⟩ | ⟨h1, h2, h3⟩ | ⟨h1, h2, h3, h4⟩ | ⟨h1, h2, h3, h4, h5⟩
  · have HSB := Lib.hid h1
    clear h1
    go_enter Try.func4, Try.ntmps4
    go_upto_region 1 with fail
    rw [← HW1.out]
    go_wp2_with (first
      | ((go_at_call 8; with_reducible refine (HSM.out _).mono ?_); rintro e w2 ⟨he, hb⟩; rw [HSB.out] at he; subst he; have HB2 := Lib.hid hb; clear hb)
      | ((go_at_call 10; with_reducible refine (HWK.out _).mono ?_); rintro e w5 ⟨rfl, hb5⟩; have HB5 := Lib.hid hb5; clear hb5))
    (try simp only [Exit.inBlock, Exit.then])
    go_ret
    exact ⟨rfl, (HB1.out.trans (HB2.out.mono HB1.out.size)).trans (HB5.out.mono (Nat.le_trans HB1.out.size HB2.out.size))⟩
  · have HSB := Lib.hid h1
    have h20 : (20 : Int) < (xs.length : Int) := by omega
    have d20 : decide ((20 : Int) < (xs.length : Int)) = true := decide_eq_true h20
    clear h1 h2
    go_enter Try.func4, Try.ntmps4
    go_upto_region 1 with fail
    rw [← HW1.out]
    go_wp2_with (first
      | ((go_at_call 8; with_reducible refine (HSM.out _).mono ?_); rintro e w2 ⟨he, hb⟩; rw [HSB.out] at he; subst he; have HB2 := Lib.hid hb; clear hb)
      | ((go_at_call 10; with_reducible refine (HWK.out _).mono ?_); rintro e w5 ⟨rfl, hb5⟩; have HB5 := Lib.hid hb5; clear hb5))
    (try simp only [Exit.inBlock, Exit.then])
    go_ret
    exact ⟨rfl, (HB1.out.trans (HB2.out.mono HB1.out.size)).trans (HB5.out.mono (Nat.le_trans HB1.out.size HB2.out.size))⟩
  · have HSB := Lib.hid h1
    have h20 : ¬ (20 : Int) < (xs.length : Int) := by omega
    have hx20 : (xs.length : Int) ≤ 20 := by omega
    have HFB := Lib.hid h3
    clear h1 h2 h3
    go_enter Try.func4, Try.ntmps4
    go_upto_region 1 with fail
    rw [← HW1.out]
    go_wp2_with (first
      | ((go_at_call 8; with_reducible refine (HSM.out _).mono ?_); rintro e w2 ⟨he, hb⟩; rw [HSB.out] at he; subst he; have HB2 := Lib.hid hb; clear hb)
      | ((go_at_call 9; with_reducible refine (HF.out _ (HB1.out.trans (HB2.out.mono HB1.out.size))).mono ?_); rintro e w' ⟨he, hw⟩; rw [HFB.out] at he; subst he; subst hw)
      | ((go_at_call 10; with_reducible refine (HWK.out _).mono ?_); rintro e w5 ⟨rfl, hb5⟩; have HB5 := Lib.hid hb5; clear hb5))
    (try simp only [Exit.inBlock, Exit.then])
    go_ret
    exact ⟨rfl, (HB1.out.trans (HB2.out.mono HB1.out.size)).trans (HB5.out.mono (Nat.le_trans HB1.out.size HB2.out.size))⟩
  · have HSB := Lib.hid h1
    have h20 : ¬ (20 : Int) < (xs.length : Int) := by omega
    have hx20 : (xs.length : Int) ≤ 20 := by omega
    have HFB := Lib.hid h3
    have HFB2 := Lib.hid h4
    clear h1 h2 h3 h4
    go_enter Try.func4, Try.ntmps4
    go_upto_region 1 with fail
    rw [← HW1.out]
    go_wp2_with (first
      | ((go_at_call 8; with_reducible refine (HSM.out _).mono ?_); rintro e w2 ⟨he, hb⟩; rw [HSB.out] at he; subst he; have HB2 := Lib.hid hb; clear hb)
      | ((go_at_call 9; with_reducible refine (HF.out _ (HB1.out.trans (HB2.out.mono HB1.out.size))).mono ?_); rintro e w' ⟨he, hw⟩; rw [HFB.out] at he; subst he; subst hw)
      | ((go_at_call 9; with_reducible refine (HF2.out _ HB2.out).mono ?_); rintro e w' ⟨he, hw⟩; rw [HFB2.out] at he; subst he; subst hw; have j0 := (HB2.out.cell (p := ⟨w.heap.size, 0, none⟩) (Array.getElem?_eq_some_iff.1 HGX.out).1).trans k0; have j1 := (HB2.out.cell (p := ⟨w.heap.size, 1, none⟩) (Array.getElem?_eq_some_iff.1 HGX.out).1).trans k1; have j2 := (HB2.out.cell (p := ⟨w.heap.size, 2, none⟩) (Array.getElem?_eq_some_iff.1 HGX.out).1).trans k2; have j3 := (HB2.out.cell (p := ⟨w.heap.size, 3, none⟩) (Array.getElem?_eq_some_iff.1 HGX.out).1).trans k3)
      | ((go_at_call 10; with_reducible refine (HWK.out _).mono ?_); rintro e w5 ⟨rfl, hb5⟩; have HB5 := Lib.hid hb5; clear hb5))
    (try simp only [Exit.inBlock, Exit.then])
    go_ret
    exact ⟨rfl, (HB1.out.trans (HB2.out.mono HB1.out.size)).trans (HB5.out.mono (Nat.le_trans HB1.out.size HB2.out.size))⟩
  · have HSB := Lib.hid h1
    have h20 : ¬ (20 : Int) < (xs.length : Int) := by omega
    have hx20 : (xs.length : Int) ≤ 20 := by omega
    have HFB := Lib.hid h3
    have HFB2 := Lib.hid h4
    have HVB := Lib.hid h5
    clear h1 h2 h3 h4 h5
    go_enter Try.func4, Try.ntmps4
    go_upto_region 1 with fail
    rw [← HW1.out]
    go_wp2_with (first
      | ((go_at_call 8; with_reducible refine (HSM.out _).mono ?_); rintro e w2 ⟨he, hb⟩; rw [HSB.out] at he; subst he; have HB2 := Lib.hid hb; clear hb)
      | ((go_at_call 9; with_reducible refine (HF.out _ (HB1.out.trans (HB2.out.mono HB1.out.size))).mono ?_); rintro e w' ⟨he, hw⟩; rw [HFB.out] at he; subst he; subst hw)
      | ((go_at_call 9; with_reducible refine (HF2.out _ HB2.out).mono ?_); rintro e w' ⟨he, hw⟩; rw [HFB2.out] at he; subst he; subst hw; have j0 := (HB2.out.cell (p := ⟨w.heap.size, 0, none⟩) (Array.getElem?_eq_some_iff.1 HGX.out).1).trans k0; have j1 := (HB2.out.cell (p := ⟨w.heap.size, 1, none⟩) (Array.getElem?_eq_some_iff.1 HGX.out).1).trans k1; have j2 := (HB2.out.cell (p := ⟨w.heap.size, 2, none⟩) (Array.getElem?_eq_some_iff.1 HGX.out).1).trans k2; have j3 := (HB2.out.cell (p := ⟨w.heap.size, 3, none⟩) (Array.getElem?_eq_some_iff.1 HGX.out).1).trans k3)
      | ((go_at_call 16; with_reducible refine (HRT.out _).mono ?_); rintro e w3 ⟨he, hb⟩; rw [HVB.out] at he; subst he; have HB3 := Lib.hid (HB2.out.trans (hb.mono HB2.out.size)); clear hb j0 j1 j2 j3)
      | ((go_at_call 10; with_reducible refine (HWK.out _).mono ?_); rintro e w5 ⟨rfl, hb5⟩; have HB5 := Lib.hid hb5; clear hb5))
    (try simp only [Exit.inBlock, Exit.then])
    go_ret
    exact ⟨rfl, (HB1.out.trans (HB3.out.mono HB1.out.size)).trans (HB5.out.mono (Nat.le_trans HB1.out.size HB3.out.size))⟩
end
section
open Go.ChangeShapes Go.WideShapes Go.ChangeAt Go.RowKit
set_option linter.unusedVariables false
set_option maxHeartbeats 2000000
theorem copies_any (nb np sz en : Int) (vf vl : Value) (xs : List Int) (L : List KA) (X0 X1 : KA) (w : World) (hx : Ints w vf xs) (hR : ∀ x ∈ xs, I64 x) (hL : Acts w vl L) (hok : ∀ e ∈ L, KA.ok w e) (hX0 : X0.ok w) (hX1 : X1.ok w) : Calls Try.prog 4 #[.agg #[.int .i64 nb, .int .i64 np, .int .i64 sz, .int .i64 en], vf, vl, .agg (X0.enc ++ X1.enc).toArray] w (LwP w) := by
  cases h1 : smB nb np sz en
  · exact copies_pre hx hL hok hX0 hX1 (.inl h1)
  by_cases h2 : xs.length ≤ 20
  · cases h3 : fewB L 25
    · exact copies_pre hx hL hok hX0 hX1 (.inr (.inr (.inl ⟨h1, h2, h3⟩)))
    cases h4 : fewB [X0, X1] 2
    · exact copies_pre hx hL hok hX0 hX1 (.inr (.inr (.inr (.inl ⟨h1, h2, h3, h4⟩))))
    cases hv : valB nb np sz en
    · exact copies_pre hx hL hok hX0 hX1 (.inr (.inr (.inr (.inr ⟨h1, h2, h3, h4, hv⟩))))
    · obtain ⟨a, b, c, rfl, rfl, rfl, _⟩ := valB_nat hv
      exact copies_main a b c en vf vl xs L X0 X1 w hx hR hL hok hX0 hX1 h1 h2 h3 h4 hv
  · exact copies_pre hx hL hok hX0 hX1 (.inr (.inl ⟨h1, h2⟩))
theorem okWide_arr {P : Program} {w : World} {r : Reach} {base : Nat} {t e : TypeId} {v : Value} {n : Nat} (ht : P.underlying t = some (.array n e)) (h : Value.okWide P w r base t v) : ∃ cs, v = .agg cs ∧ cs.size = P.cellsOf t := by
  simp only [Value.okWide, ht] at h
  obtain ⟨cs, h1, h2, _⟩ := h
  exact ⟨cs, h1, h2⟩
section
variable {H : Type} {enc : TypeId × Value → H} {W : World}
theorem cells46 : Try.prog.cellsOf 46 = 10 := by kernel_rfl
set_option maxRecDepth 100000 in
theorem open_two0 {fuel : Nat} {c0 c1 c2 c3 c4 c5 c6 c7 c8 c9 : Value} {x : DataW H × List MemPlace} (h : DataW.trod enc Try.prog W 0 (fun _ => true) true fuel 46 [c0, c1, c2, c3, c4, c5, c6, c7, c8, c9] = some x) :
    ∃ e f : KA, ActAt W c0 c1 c2 c3 c4 e ∧ ActAt W c5 c6 c7 c8 c9 f := by
  obtain ⟨xs, m, _, _, _, hlen, hg⟩ := DataW.trod_array Try.underlying46 h
  have hl : xs.length = 2 := hlen
  match xs, hl with
  | [y0, y1], _ =>
    have t0 := hg 0 (by decide)
    have t1 := hg 1 (by decide)
    rw [cells43] at t0 t1
    obtain ⟨e, h0⟩ := open_act5 t0
    obtain ⟨f, h1⟩ := open_act5 t1
    exact ⟨e, f, h0, h1⟩
set_option maxRecDepth 100000 in
theorem open_two {base : Nat} {v : Value} {d : DataW H} {ps : List MemPlace} (hval : Value.okWide Try.prog W .any base 46 v) (h : DataW.Trod enc Try.prog W 0 (fun _ => true) true 46 v d ps) :
    ∃ e f : KA, v = .agg (e.enc ++ f.enc).toArray ∧ e.ok W ∧ f.ok W := by
  obtain ⟨cs, rfl, hsz⟩ := okWide_arr Try.underlying46 hval
  obtain ⟨fuel, hf⟩ := h
  obtain ⟨l⟩ := cs
  match l, hsz.trans cells46 with
  | [c0, c1, c2, c3, c4, c5, c6, c7, c8, c9], _ =>
    obtain ⟨e, f, ⟨a0, a1, a2, a3, a4, hok⟩, b0, b1, b2, b3, b4, hok2⟩ := open_two0 (show DataW.trod enc Try.prog W 0 (fun _ => true) true fuel 46 [c0, c1, c2, c3, c4, c5, c6, c7, c8, c9] = some (d, ps) by simpa [Value.cells] using hf)
    subst a0 a1 a2 a3 a4 b0 b1 b2 b3 b4
    exact ⟨e, f, rfl, hok, hok2⟩
end
end
end Go.Proofs.Ytddejcoagcaidaa
