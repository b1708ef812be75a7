/- The contract of Erase. Conditions stand in each theorem. -/
import Derived.Test.YtddejcoagcaidaaT
namespace Go.Proofs.Ytddejcoagcaidaa
open Go.RowKit
set_option linter.unusedVariables false
set_option maxHeartbeats 2000000
set_option maxRecDepth 100000
theorem below_drewN (w : World) (n : Nat) : Below w.heap.size w (w.drewN n) := ⟨rfl, rfl, rfl, Nat.le_refl _, fun _ _ => rfl⟩
def Dev.erE (s : Dev) (q : Int) : Int := if s.hasB q = false then 2 else if s.off = true then 50 else if s.ers q = s.en then 56 else s.exE 55
def Dev.erS (s : Dev) (q : Int) : Dev := if s.hasB q = true ∧ s.off = false ∧ s.ers q ≠ s.en then (s.e1 q.toNat).exS q.toNat ((s.e1 q.toNat).eU q.toNat) ((s.e1 q.toNat).eU q.toNat) ((s.e1 q.toNat).eN q.toNat) else s
theorem Erase_any {w : World} {base b g m : Nat} {V : Nat → Value} {s : Dev} (h : Dv w base b g m V s) (hG : Gd s) (hn : s.n ≤ 1000000000) (q : Int) : Calls Try.prog 22 #[.pointer (some ⟨b, 0, none⟩), .int .i64 q] w (ExPost w base b g m V s (s.erS q) (s.erE q)) := by
  have H := Lib.hid h
  have HG := Lib.hid hG
  have c4 := h.c4
  have c3 := h.c3
  cases hp : s.hasB q
  · have e1 : s.erE q = 2 := if_pos hp
    have e2 : s.erS q = s := if_neg (by rw [hp]; simp)
    rw [e1, e2]
    clear h hG hn e1 e2
    go_enter Try.func22, Try.ntmps22
    go_wp2
    refine wp_scope_forward 0 rfl ?_
    go_wp2_with (first
      | ((go_at_call 54; with_reducible refine (hasBlock_any H.out HG.out _).mono ?_); rintro e w' ⟨rfl, rfl⟩)
      | ((go_at_call 43; with_reducible refine (refusal_no H.out).mono ?_); rintro e w' ⟨rfl, rfl⟩))
    go_step3
    refine ⟨rfl, ?_⟩
    dsimp only
    go_wp2
    rw [Exit.noGoto_ret]
    go_ret
    exact ⟨rfl, Step.refl H.out⟩
  · cases ho : s.off
    · have HQ : Hid (∀ nq, Calls Try.prog 29 #[.pointer (some ⟨b, 0, none⟩), .int .i64 q] (w.drewN nq) fun e w' => e = .returned (.int .i64 (s.ers q)) ∧ w' = w.drewN nq) := Lib.hid fun nq => (Erases_any (h.below (below_drewN w nq)) hG q).mono fun _ _ ⟨a, b⟩ => ⟨a, b.symm⟩
      by_cases he : s.ers q = s.en
      · have e1 : s.erE q = 56 := by unfold Dev.erE; rw [if_neg (by rw [hp]; simp), if_neg (by rw [ho]; simp), if_pos he]
        have e2 : s.erS q = s := if_neg (fun hh => hh.2.2 he)
        rw [e1, e2]
        have d1 : (s.ers q == s.en) = true := by simpa using he
        have d2 : decide (s.ers q = s.en) = true := decide_eq_true he
        clear h hG hn e1 e2 he
        go_enter Try.func22, Try.ntmps22
        go_wp2
        refine wp_scope_forward 0 rfl ?_
        go_wp2_with (first
          | ((go_at_call 54; with_reducible refine (hasBlock_any H.out HG.out _).mono ?_); rintro e w' ⟨rfl, rfl⟩)
          | ((go_at_call 43; with_reducible refine (refusal_ok H.out ho).mono ?_); rintro e w' ⟨rfl, rfl⟩))
        go_quiet ((go_at_call 29; exact Calls.quiet_of_same (HQ.out _)))
        go_wp2
        go_step3
        refine ⟨rfl, ?_⟩
        dsimp only
        go_wp2
        rw [Exit.noGoto_ret]
        go_ret
        exact ⟨rfl, (Step.refl (H.out.below (below_drewN w _))).of_below (below_drewN w _)⟩
      · have e1 : s.erE q = s.exE 55 := by unfold Dev.erE; rw [if_neg (by rw [hp]; simp), if_neg (by rw [ho]; simp), if_neg he]
        have e2 : s.erS q = (s.e1 q.toNat).exS q.toNat ((s.e1 q.toNat).eU q.toNat) ((s.e1 q.toNat).eU q.toNat) ((s.e1 q.toNat).eN q.toNat) := if_pos ⟨hp, ho, he⟩
        rw [e1, e2]
        have d1 : (s.ers q == s.en) = false := by simpa using he
        have d2 : decide (s.ers q = s.en) = false := decide_eq_false he
        obtain ⟨k, rfl, hk⟩ := hasB_nat hp
        rw [ers_nat hk] at he
        have hlt : (s.bk k).er < s.en := by have := hG.er k hk; omega
        rw [show ((k : Int)).toNat = k from rfl]
        have HE := Lib.hid (fun W (hW : Below w.heap.size w W) => (erase_any (h.below hW) hG hn hk hlt).mono fun e w' ⟨a1, a2⟩ => (show ExPost w base b g m V s _ _ e w' from ⟨a1, a2.of_below hW⟩))
        clear h hG hn e1 e2 he hlt
        generalize (s.e1 k).exS k ((s.e1 k).eU k) ((s.e1 k).eU k) ((s.e1 k).eN k) = S1 at *
        generalize s.exE 55 = E1 at *
        go_enter Try.func22, Try.ntmps22
        go_wp2
        go_step3
        go_wp2_with (first
          | ((go_at_call 54; with_reducible refine (hasBlock_any H.out HG.out _).mono ?_); rintro e w' ⟨rfl, rfl⟩)
          | ((go_at_call 43; with_reducible refine (refusal_ok H.out ho).mono ?_); rintro e w' ⟨rfl, rfl⟩))
        go_quiet ((go_at_call 29; exact Calls.quiet_of_same (HQ.out _)))
        go_wp2_with ((go_at_call 55; with_reducible refine (HE.out _ (below_drewN w _)).mono ?_); rintro e w5 ⟨rfl, hst⟩; have HST := Lib.hid hst; clear hst)
        go_step3
        go_wp2
        rw [Exit.noGoto_ret]
        go_ret
        exact ⟨rfl, HST.out⟩
    · have e1 : s.erE q = 50 := by unfold Dev.erE; rw [if_neg (by rw [hp]; simp), if_pos ho]
      have e2 : s.erS q = s := if_neg (by rw [ho]; simp)
      rw [e1, e2]
      clear h hG hn e1 e2
      go_enter Try.func22, Try.ntmps22
      go_wp2
      refine wp_scope_forward 0 rfl ?_
      go_wp2_with (first
        | ((go_at_call 54; with_reducible refine (hasBlock_any H.out HG.out _).mono ?_); rintro e w' ⟨rfl, rfl⟩)
        | ((go_at_call 43; with_reducible refine (refusal_off H.out ho).mono ?_); rintro e w' ⟨rfl, rfl⟩))
      go_step3
      refine ⟨rfl, ?_⟩
      dsimp only
      go_wp2
      rw [Exit.noGoto_ret]
      go_ret
      exact ⟨rfl, Step.refl H.out⟩
end Go.Proofs.Ytddejcoagcaidaa
