/- PoolCopies at every argument. Conditions stand in each theorem. -/
import Derived.Test.YtpojgjbgbbnojaaVW
namespace Go.Proofs.Ytpojgjbgbbnojaa
open Go.RowKit Go.Shelf
attribute [local go_sem] Oper.semAt_some
set_option linter.unusedVariables false
set_option maxHeartbeats 4000000
set_option maxRecDepth 100000
theorem copies_pre (A0 A1 : Option Addr) (n0 n1 c0 c1 : Nat) (e0 f0 : KA) (mny : Int) (w : World) (h : 20 < n0 ∨ (n0 ≤ 20 ∧ 30 < n1)) :
    Calls Try.prog 4 #[.slice A0 n0 c0, .slice A1 n1 c1, .agg #[.int .i64 e0.wh, .int .i64 e0.bl, .int .i64 e0.st, .int .i64 e0.er, .int .i64 f0.wh, .int .i64 f0.bl, .int .i64 f0.st, .int .i64 f0.er], .int .i64 mny] w (OkB w) := by
  obtain ⟨z3, bE, k6, x7, x8⟩ := cE_facts w e0 f0 mny
  have HE := Lib.hid (show (cE w e0 f0 mny).heap.size = w.heap.size + 3 ∧ Below w.heap.size w (cE w e0 f0 mny) ∧ Bx1 (cE w e0 f0 mny) (w.heap.size + 2) 4 (.bool false) from ⟨z3, bE, x8⟩)
  have f8 : Fence.wide.fn 8 := trivial
  have HK := Lib.hid (fun W' (hW : Below (cE w e0 f0 mny).heap.size (cE w e0 f0 mny) W') => (HE.out.2.2.below hW))
  clear z3 bE k6 x7 x8
  rcases h with h | ⟨h, h2⟩
  · have d1 : (20 : Int) < (n0 : Int) := by omega
    have d2 : decide (20 < n0) = true := decide_eq_true h
    refine (callsIn_wide (n := 9)).1 ?_
    refine callsIn_of_wp_marks Try.func4 rfl trivial ?_ rfl
    simp only [Try.ntmps4, List.size_toArray, List.length_cons, List.length_nil, Nat.reduceAdd, Nat.reduceSub, Array.replicate_succ, Array.replicate_zero, List.push_toArray, List.append_toArray, List.nil_append, List.cons_append]
    gi_wp2_with fail
    rw [show ((w.alloc (.cells #[.int .i64 e0.wh, .int .i64 e0.bl, .int .i64 e0.st, .int .i64 e0.er, .int .i64 f0.wh, .int .i64 f0.bl, .int .i64 f0.st, .int .i64 f0.er] 40)).alloc (.cells #[.int .i64 mny] 3)).alloc (.cells #[.bool false] 4) = cE w e0 f0 mny from rfl]
    generalize cE w e0 f0 mny = E at *
    gi_wp2_with (gi_at_call 8; have hcc := (callsIn_wide (n := 8)).2 (works_any E); (with_reducible refine hcc.mono ?_); clear hcc; rintro e W1 ⟨rfl, hb⟩; have HB := Lib.hid hb; have c8 := (HK.out _ HB.out).cell; have f8' := (HK.out _ HB.out).free; clear hb)
    exact law_true (q := w.heap.size + 1 + 1) (Ds := []) (Marks.nil _ _) (HE.out.2.1.trans (HB.out.mono (by have := HE.out.1; omega))) (HK.out _ HB.out) (by omega) fun W' h => res4 W' _ _ rfl h
  · have d1 : ¬ (20 : Int) < (n0 : Int) := by omega
    have d2 : decide (20 < n0) = false := decide_eq_false (by omega)
    have d3 : (30 : Int) < (n1 : Int) := by omega
    have d4 : decide (30 < n1) = true := decide_eq_true h2
    refine (callsIn_wide (n := 9)).1 ?_
    refine callsIn_of_wp_marks Try.func4 rfl trivial ?_ rfl
    simp only [Try.ntmps4, List.size_toArray, List.length_cons, List.length_nil, Nat.reduceAdd, Nat.reduceSub, Array.replicate_succ, Array.replicate_zero, List.push_toArray, List.append_toArray, List.nil_append, List.cons_append]
    gi_wp2_with fail
    rw [show ((w.alloc (.cells #[.int .i64 e0.wh, .int .i64 e0.bl, .int .i64 e0.st, .int .i64 e0.er, .int .i64 f0.wh, .int .i64 f0.bl, .int .i64 f0.st, .int .i64 f0.er] 40)).alloc (.cells #[.int .i64 mny] 3)).alloc (.cells #[.bool false] 4) = cE w e0 f0 mny from rfl]
    generalize cE w e0 f0 mny = E at *
    gi_wp2_with (gi_at_call 8; have hcc := (callsIn_wide (n := 8)).2 (works_any E); (with_reducible refine hcc.mono ?_); clear hcc; rintro e W1 ⟨rfl, hb⟩; have HB := Lib.hid hb; have c8 := (HK.out _ HB.out).cell; have f8' := (HK.out _ HB.out).free; clear hb)
    exact law_true (q := w.heap.size + 1 + 1) (Ds := []) (Marks.nil _ _) (HE.out.2.1.trans (HB.out.mono (by have := HE.out.1; omega))) (HK.out _ HB.out) (by omega) fun W' h => res4 W' _ _ rfl h
theorem copies_bad (A0 A1 : Option Addr) (n0 n1 c0 c1 : Nat) (e0 f0 : KA) (mny : Int) (w : World) (h1 : n0 ≤ 20) (h2 : n1 ≤ 30) (hn : ∀ W, Below w.heap.size w W → Calls Try.prog 9 #[.slice A0 n0 c0] W (NewBad W)) (hm : ∀ W, Below w.heap.size w W → Calls Try.prog 10 #[.slice A0 n0 c0] W (RNb W)) :
    Calls Try.prog 4 #[.slice A0 n0 c0, .slice A1 n1 c1, .agg #[.int .i64 e0.wh, .int .i64 e0.bl, .int .i64 e0.st, .int .i64 e0.er, .int .i64 f0.wh, .int .i64 f0.bl, .int .i64 f0.st, .int .i64 f0.er], .int .i64 mny] w (OkB w) := by
  obtain ⟨z3, bE, k6, x7, x8⟩ := cE_facts w e0 f0 mny
  have HE := Lib.hid (show (cE w e0 f0 mny).heap.size = w.heap.size + 3 ∧ Below w.heap.size w (cE w e0 f0 mny) ∧ Bx1 (cE w e0 f0 mny) (w.heap.size + 2) 4 (.bool false) from ⟨z3, bE, x8⟩)
  have f8 : Fence.wide.fn 8 := trivial
  have f9 : Fence.wide.fn 9 := trivial
  have f10 : Fence.wide.fn 10 := trivial
  have f11 : Fence.wide.fn 11 := trivial
  have HK := Lib.hid (fun W' (hW : Below (cE w e0 f0 mny).heap.size (cE w e0 f0 mny) W') => (HE.out.2.2.below hW))
  have HN := Lib.hid (hn _ bE)
  have HM := Lib.hid (fun W (hW : Below (cE w e0 f0 mny).heap.size (cE w e0 f0 mny) W) => hm W (bE.trans (hW.mono (by omega))))
  have d1 : ¬ (20 : Int) < (n0 : Int) := by omega
  have d2 : ¬ (30 : Int) < (n1 : Int) := by omega
  clear z3 bE k6 x7 x8 hn hm h1 h2
  refine (callsIn_wide (n := 9)).1 ?_
  refine callsIn_of_wp_marks Try.func4 rfl trivial ?_ rfl
  simp only [Try.ntmps4, List.size_toArray, List.length_cons, List.length_nil, Nat.reduceAdd, Nat.reduceSub, Array.replicate_succ, Array.replicate_zero, List.push_toArray, List.append_toArray, List.nil_append, List.cons_append]
  gi_wp2_with fail
  rw [show ((w.alloc (.cells #[.int .i64 e0.wh, .int .i64 e0.bl, .int .i64 e0.st, .int .i64 e0.er, .int .i64 f0.wh, .int .i64 f0.bl, .int .i64 f0.st, .int .i64 f0.er] 40)).alloc (.cells #[.int .i64 mny] 3)).alloc (.cells #[.bool false] 4) = cE w e0 f0 mny from rfl]
  generalize cE w e0 f0 mny = E at *
  gi_wp2_with (first
    | (gi_at_call 9; have hcc := (callsIn_wide (n := 8)).2 HN.out; (with_reducible refine hcc.mono ?_); clear hcc; rintro e W1 ⟨rfl, hb1⟩; have HB1 := Lib.hid hb1; clear hb1)
    | (gi_at_call 10; have hcc := (callsIn_wide (n := 8)).2 (HM.out _ HB1.out); (with_reducible refine hcc.mono ?_); clear hcc; rintro e W2 ⟨rfl, hb2⟩; have HB2 := Lib.hid (HB1.out.trans (hb2.mono HB1.out.size)); clear hb2)
    | (gi_at_call 11; refine (callsIn_wide.2 (num_any _ _)).mono ?_; rintro e w' ⟨rfl, rfl⟩)
    | (gi_at_call 8; have hcc := (callsIn_wide (n := 8)).2 (works_any W2); (with_reducible refine hcc.mono ?_); clear hcc; rintro e W3 ⟨rfl, hb⟩; have HB3 := Lib.hid (HB2.out.trans (hb.mono HB2.out.size)); have c8 := (HK.out _ HB3.out).cell; have f8' := (HK.out _ HB3.out).free; clear hb))
  exact law_true (q := w.heap.size + 1 + 1) (Ds := []) (Marks.nil _ _) (HE.out.2.1.trans (HB3.out.mono (by have := HE.out.1; omega))) (HK.out _ HB3.out) (by omega) fun W' h => res4 W' _ _ rfl h
theorem copies_any (v0 v1 v2 : Value) (xs : List Int) (L : List KA) (e0 f0 : KA) (mny : Int) (w : World) (h0 : Ints w v0 xs) (h1 : Acts w v1 L) (h2 : v2 = .agg #[.int .i64 e0.wh, .int .i64 e0.bl, .int .i64 e0.st, .int .i64 e0.er, .int .i64 f0.wh, .int .i64 f0.bl, .int .i64 f0.st, .int .i64 f0.er]) :
    Calls Try.prog 4 #[v0, v1, v2, .int .i64 mny] w (OkB w) := by
  subst h2
  have h0' := h0
  obtain ⟨A0, c0, rfl, _⟩ := h0
  have h1' := h1
  obtain ⟨A1, c1, rfl, _⟩ := h1
  by_cases hp : 20 < xs.length ∨ (xs.length ≤ 20 ∧ 30 < L.length)
  · exact copies_pre A0 A1 _ _ c0 c1 e0 f0 mny w hp
  · by_cases hx : xs.length = 0
    · exact copies_bad A0 A1 _ _ c0 c1 e0 f0 mny w (by omega) (by omega) (fun W hW => New_len _ xs W (h0'.below hW) (.inl hx)) (fun W hW => rNew_len _ xs W (h0'.below hW) (.inl hx))
    · cases he : erAll xs
      · refine copies_bad A0 A1 _ _ c0 c1 e0 f0 mny w (by omega) (by omega) (fun W hW => (New_any _ xs W (h0'.below hW) (by omega) (by omega)).mono fun e w' h => ?_) (fun W hW => (rNew_any _ xs W (h0'.below hW) (by omega) (by omega)).mono fun e w' h => ?_)
        · unfold NewP at h
          rwa [he, if_neg (by decide)] at h
        · unfold RNP at h
          rwa [he, if_neg (by decide)] at h
      · exact copies_main A0 A1 _ c0 c1 xs L e0 f0 mny w h0' h1' (by omega) (by omega) (by omega) he
end Go.Proofs.Ytpojgjbgbbnojaa
