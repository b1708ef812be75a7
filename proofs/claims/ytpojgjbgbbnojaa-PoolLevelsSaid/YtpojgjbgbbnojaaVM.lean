/- PoolLevels, whatever the input. Conditions stand in each theorem. -/
import Derived.Test.YtpojgjbgbbnojaaVL
namespace Go.Proofs.Ytpojgjbgbbnojaa
open Go.RowKit Go.Shelf
attribute [local go_sem] Oper.semAt_some
set_option linter.unusedVariables false
set_option maxHeartbeats 4000000
set_option maxRecDepth 100000
theorem levels_pre (A0 A1 : Option Addr) (n0 n1 c0 c1 : Nat) (w : World) (h : 20 < n0 ∨ (n0 ≤ 20 ∧ 50 < n1)) : Calls Try.prog 6 #[.slice A0 n0 c0, .slice A1 n1 c1] w (OkB w) := by
  have bE := below_alloc w (.cells #[.bool false] 4)
  have HE := Lib.hid bE
  have HW := Lib.hid (works_any (w.alloc (.cells #[.bool false] 4)))
  have HX := Lib.hid (Bx1.new w 4 (.bool false))
  have f8 : Fence.wide.fn 8 := trivial
  clear bE
  rcases h with h | ⟨h, h2⟩
  · have d1 : (20 : Int) < (n0 : Int) := by omega
    have d2 : decide (20 < n0) = true := decide_eq_true h
    refine (callsIn_wide (n := 9)).1 ?_
    refine callsIn_of_wp_marks Try.func6 rfl trivial ?_ rfl
    simp only [Try.ntmps6, List.size_toArray, List.length_cons, List.length_nil, Nat.reduceAdd, Nat.reduceSub, Array.replicate_succ, Array.replicate_zero, List.push_toArray, List.append_toArray, List.nil_append, List.cons_append]
    gi_wp2_with (gi_at_call 8; refine (callsIn_wide.2 HW.out).mono ?_; rintro e W2 ⟨rfl, hb⟩; have HB2 := Lib.hid hb; obtain ⟨c8, f8'⟩ := (⟨(HX.out.below hb).cell, (HX.out.below hb).free⟩ : _ ∧ _); clear hb)
    exact law_true (q := w.heap.size) (Ds := []) (Marks.nil _ _) (HE.out.trans (HB2.out.mono HE.out.size)) (HX.out.below HB2.out) (Nat.le_refl _) fun W' h => res6 W' _ _ rfl h
  · have d1 : ¬ (20 : Int) < (n0 : Int) := by omega
    have d2 : decide (20 < n0) = false := decide_eq_false (by omega)
    have d3 : (50 : Int) < (n1 : Int) := by omega
    have d4 : decide (50 < n1) = true := decide_eq_true h2
    refine (callsIn_wide (n := 9)).1 ?_
    refine callsIn_of_wp_marks Try.func6 rfl trivial ?_ rfl
    simp only [Try.ntmps6, List.size_toArray, List.length_cons, List.length_nil, Nat.reduceAdd, Nat.reduceSub, Array.replicate_succ, Array.replicate_zero, List.push_toArray, List.append_toArray, List.nil_append, List.cons_append]
    gi_wp2_with (gi_at_call 8; refine (callsIn_wide.2 HW.out).mono ?_; rintro e W2 ⟨rfl, hb⟩; have HB2 := Lib.hid hb; obtain ⟨c8, f8'⟩ := (⟨(HX.out.below hb).cell, (HX.out.below hb).free⟩ : _ ∧ _); clear hb)
    exact law_true (q := w.heap.size) (Ds := []) (Marks.nil _ _) (HE.out.trans (HB2.out.mono HE.out.size)) (HX.out.below HB2.out) (Nat.le_refl _) fun W' h => res6 W' _ _ rfl h
theorem levels_bad (A0 A1 : Option Addr) (n0 n1 c0 c1 : Nat) (w : World) (h1 : n0 ≤ 20) (h2 : n1 ≤ 50) (hn : ∀ W, Below w.heap.size w W → Calls Try.prog 9 #[.slice A0 n0 c0] W (NewBad W)) : Calls Try.prog 6 #[.slice A0 n0 c0, .slice A1 n1 c1] w (OkB w) := by
  have bE := below_alloc w (.cells #[.bool false] 4)
  have HE := Lib.hid bE
  have HX := Lib.hid (Bx1.new w 4 (.bool false))
  have HN := Lib.hid (hn _ bE)
  have f8 : Fence.wide.fn 8 := trivial
  have f9 : Fence.wide.fn 9 := trivial
  have f11 : Fence.wide.fn 11 := trivial
  have d1 : ¬ (20 : Int) < (n0 : Int) := by omega
  have d2 : ¬ (50 : Int) < (n1 : Int) := by omega
  clear bE hn h1 h2
  refine (callsIn_wide (n := 9)).1 ?_
  refine callsIn_of_wp_marks Try.func6 rfl trivial ?_ rfl
  simp only [Try.ntmps6, List.size_toArray, List.length_cons, List.length_nil, Nat.reduceAdd, Nat.reduceSub, Array.replicate_succ, Array.replicate_zero, List.push_toArray, List.append_toArray, List.nil_append, List.cons_append]
  gi_wp2_with (first
    | (gi_at_call 9; refine (callsIn_wide.2 HN.out).mono ?_; rintro e W1 ⟨rfl, hb1⟩; have HB1 := Lib.hid hb1; clear hb1)
    | (gi_at_call 11; refine (callsIn_wide.2 (num_any _ _)).mono ?_; rintro e w' ⟨rfl, rfl⟩)
    | (gi_at_call 8; refine (callsIn_wide.2 (works_any W1)).mono ?_; rintro e W2 ⟨rfl, hb⟩; have HX2 := Lib.hid ((HX.out.below HB1.out).below hb); have HB2 := Lib.hid (HE.out.trans ((HB1.out.trans (hb.mono HB1.out.size)).mono HE.out.size)); obtain ⟨c8, f8'⟩ := (⟨HX2.out.cell, HX2.out.free⟩ : _ ∧ _); clear hb))
  exact law_true (q := w.heap.size) (Ds := []) (Marks.nil _ _) HB2.out HX2.out (Nat.le_refl _) fun W' h => res6 W' _ _ rfl h
theorem levels_any (v0 v1 : Value) (xs : List Int) (L : List KA) (w : World) (h0 : Ints w v0 xs) (h1 : Acts w v1 L) : Calls Try.prog 6 #[v0, v1] w (OkB w) := by
  have h0' := h0
  obtain ⟨A0, c0, rfl, _⟩ := h0
  have h1' := h1
  obtain ⟨A1, c1, rfl, _⟩ := h1
  by_cases hp : 20 < xs.length ∨ (xs.length ≤ 20 ∧ 50 < L.length)
  · exact levels_pre A0 A1 _ _ c0 c1 w hp
  · by_cases hx : xs.length = 0
    · exact levels_bad A0 A1 _ _ c0 c1 w (by omega) (by omega) fun W hW => New_len _ xs W (h0'.below hW) (.inl hx)
    · cases he : erAll xs
      · refine levels_bad A0 A1 _ _ c0 c1 w (by omega) (by omega) fun W hW => (New_any _ xs W (h0'.below hW) (by omega) (by omega)).mono fun e w' h => ?_
        unfold NewP at h
        rwa [he, if_neg (by decide)] at h
      · exact levels_main A0 A1 _ c0 c1 xs L w h0' h1' (by omega) (by omega) (by omega) he
end Go.Proofs.Ytpojgjbgbbnojaa
