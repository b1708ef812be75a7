/- The contracts of hasBlock, hasPage, refusal, Next, Erases, State, Powered, Operations, Restart, same. Conditions stand in each theorem. -/
import Derived.Test.YtddejcoagcaidaaA
namespace Go.Proofs.Ytddejcoagcaidaa
open Go.RowKit
set_option linter.unusedVariables false
set_option maxHeartbeats 400000
set_option maxRecDepth 100000
def Dev.hasB (s : Dev) (q : Int) : Bool := wiB q 0 ((s.nb : Int) - 1)
def Dev.hasP (s : Dev) (q p : Int) : Bool := s.hasB q && wiB p 0 ((s.np : Int) - 1)
theorem hasB_nat {s : Dev} {q : Int} (h : s.hasB q = true) : ∃ k : Nat, q = k ∧ k < s.nb := by
  unfold Dev.hasB wiB at h
  have := of_decide_eq_true h
  exact ⟨q.toNat, by omega, by omega⟩
theorem hasP_nat {s : Dev} {q p : Int} (h : s.hasP q p = true) : ∃ k j : Nat, q = k ∧ p = j ∧ k < s.nb ∧ j < s.np := by
  unfold Dev.hasP at h
  rw [Bool.and_eq_true] at h
  obtain ⟨k, h1, h2⟩ := hasB_nat h.1
  have h3 := h.2
  unfold wiB at h3
  have := of_decide_eq_true h3
  exact ⟨k, p.toNat, h1, by omega, h2, by omega⟩
theorem hasB_of {s : Dev} {k : Nat} (h : k < s.nb) : s.hasB (k : Int) = true := by
  unfold Dev.hasB wiB
  exact decide_eq_true (by omega)
theorem hasP_of {s : Dev} {k j : Nat} (h : k < s.nb) (h2 : j < s.np) : s.hasP (k : Int) (j : Int) = true := by
  unfold Dev.hasP
  rw [hasB_of h]
  unfold wiB
  exact decide_eq_true (by omega)
section
variable {w : World} {base b g m : Nat} {V : Nat → Value} {s : Dev}
theorem hasBlock_any (h : Dv w base b g m V s) (hg : Gd s) (q : Int) : Calls Try.prog 54 #[.pointer (some ⟨b, 0, none⟩), .int .i64 q] w fun e w' => e = .returned (.bool (s.hasB q)) ∧ w = w' := by
  have k0 := h.c0
  have k4 := h.c4
  have hn := hg.nb
  have h1 : (2 : Int) ≤ s.nb := by omega
  have h2 : (s.nb : Int) ≤ 4096 := by omega
  unfold Dev.hasB
  clear h hg hn
  go_enter Try.func54, Try.ntmps54
  go_wp2_with (first
    | ((go_at_call 46; with_reducible refine (missing_not _ g _ _ k4).mono ?_); rintro e w' ⟨rfl, rfl⟩)
    | ((go_at_call 57; with_reducible refine (within_any _ _ _ _).mono ?_); rintro e w' ⟨rfl, rfl⟩))
  go_ret
  exact ⟨rfl, rfl⟩
theorem hasPage_any (h : Dv w base b g m V s) (hg : Gd s) (q p : Int) : Calls Try.prog 44 #[.pointer (some ⟨b, 0, none⟩), .int .i64 q, .int .i64 p] w fun e w' => e = .returned (.bool (s.hasP q p)) ∧ w = w' := by
  have k1 := h.c1
  have hn := hg.np
  have h1 : (2 : Int) ≤ s.np := by omega
  have h2 : (s.np : Int) ≤ 512 := by omega
  have H := Lib.hid h
  have HG := Lib.hid hg
  clear h hg hn
  unfold Dev.hasP
  cases hq : s.hasB q
  all_goals
    go_enter Try.func44, Try.ntmps44
    go_wp2_with (first
      | ((go_at_call 54; with_reducible refine (hasBlock_any H.out HG.out _).mono ?_); rintro e w' ⟨rfl, rfl⟩)
      | ((go_at_call 57; with_reducible refine (within_any _ _ _ _).mono ?_); rintro e w' ⟨rfl, rfl⟩))
    go_ret
    exact ⟨rfl, rfl⟩
def Dev.refE (s : Dev) (v : Bool) : Int := if v = false then 2 else if s.off then 50 else 0
theorem refusal_any (h : Dv w base b g m V s) (v : Bool) : Calls Try.prog 43 #[.pointer (some ⟨b, 0, none⟩), .bool v] w fun e w' => e = .returned (.int .i64 (s.refE v)) ∧ w = w' := by
  have k4 := h.c4
  have k9 := h.c9
  clear h
  unfold Dev.refE
  cases v <;> cases ho : s.off
  all_goals
    rw [ho] at k9
    go_enter Try.func43, Try.ntmps43
    go_wp2_with (((go_at_call 46; with_reducible refine (missing_not _ g _ _ k4).mono ?_); rintro e w' ⟨rfl, rfl⟩))
    go_ret
    exact ⟨rfl, rfl⟩
def Dev.nx (s : Dev) (q : Int) : Int := if s.hasB q = true then ((s.bk q.toNat).pg.length : Int) else 0
def Dev.ers (s : Dev) (q : Int) : Int := if s.hasB q = true then (s.bk q.toNat).er else 0
def Dev.stt (s : Dev) (q p : Int) : Int := if s.hasP q p = false then 0 else match (s.bk q.toNat).pg[p.toNat]? with
  | some x => x.st
  | none => 1
theorem nx_nat {k : Nat} (h : k < s.nb) : s.nx (k : Int) = ((s.bk k).pg.length : Int) := by unfold Dev.nx; rw [if_pos (hasB_of h)]; rfl
theorem ers_nat {k : Nat} (h : k < s.nb) : s.ers (k : Int) = (s.bk k).er := by unfold Dev.ers; rw [if_pos (hasB_of h)]; rfl
theorem Next_any (h : Dv w base b g m V s) (hg : Gd s) (q : Int) : Calls Try.prog 28 #[.pointer (some ⟨b, 0, none⟩), .int .i64 q] w fun e w' => e = .returned (.int .i64 (s.nx q)) ∧ w = w' := by
  have H := Lib.hid h
  have HG := Lib.hid hg
  have k4 := h.c4
  cases hq : s.hasB q
  · have e1 : s.nx q = 0 := by unfold Dev.nx; rw [if_neg (by simp [hq])]
    rw [e1]
    clear h hg e1
    go_enter Try.func28, Try.ntmps28
    go_wp2_with (((go_at_call 54; with_reducible refine (hasBlock_any H.out HG.out _).mono ?_); rintro e w' ⟨rfl, rfl⟩))
    go_ret
    exact ⟨rfl, rfl⟩
  · obtain ⟨k, rfl, hk⟩ := hasB_nat hq
    rw [nx_nat hk]
    obtain ⟨h5, h6⟩ := h.gcells hk
    obtain ⟨A, c, hV⟩ := h.form hk
    rw [hV] at h6
    clear h hg hV
    go_enter Try.func28, Try.ntmps28
    go_wp2_with (((go_at_call 54; with_reducible refine (hasBlock_any H.out HG.out _).mono ?_); rintro e w' ⟨rfl, rfl⟩))
    go_ret
    exact ⟨rfl, rfl⟩
theorem Erases_any (h : Dv w base b g m V s) (hg : Gd s) (q : Int) : Calls Try.prog 29 #[.pointer (some ⟨b, 0, none⟩), .int .i64 q] w fun e w' => e = .returned (.int .i64 (s.ers q)) ∧ w = w' := by
  have H := Lib.hid h
  have HG := Lib.hid hg
  have k4 := h.c4
  cases hq : s.hasB q
  · have e1 : s.ers q = 0 := by unfold Dev.ers; rw [if_neg (by simp [hq])]
    rw [e1]
    clear h hg e1
    go_enter Try.func29, Try.ntmps29
    go_wp2_with (((go_at_call 54; with_reducible refine (hasBlock_any H.out HG.out _).mono ?_); rintro e w' ⟨rfl, rfl⟩))
    go_ret
    exact ⟨rfl, rfl⟩
  · obtain ⟨k, rfl, hk⟩ := hasB_nat hq
    rw [ers_nat hk]
    obtain ⟨h5, h6⟩ := h.gcells hk
    clear h hg
    go_enter Try.func29, Try.ntmps29
    go_wp2_with (((go_at_call 54; with_reducible refine (hasBlock_any H.out HG.out _).mono ?_); rintro e w' ⟨rfl, rfl⟩))
    go_ret
    exact ⟨rfl, rfl⟩
theorem State_any (h : Dv w base b g m V s) (hg : Gd s) (q p : Int) : Calls Try.prog 30 #[.pointer (some ⟨b, 0, none⟩), .int .i64 q, .int .i64 p] w fun e w' => e = .returned (.int .i64 (s.stt q p)) ∧ w = w' := by
  have H := Lib.hid h
  have HG := Lib.hid hg
  have k4 := h.c4
  cases hq : s.hasP q p
  · have e1 : s.stt q p = 0 := by unfold Dev.stt; rw [if_pos hq]
    rw [e1]
    clear h hg e1
    go_enter Try.func30, Try.ntmps30
    go_wp2_with (((go_at_call 44; with_reducible refine (hasPage_any H.out HG.out _ _).mono ?_); rintro e w' ⟨rfl, rfl⟩))
    go_ret
    exact ⟨rfl, rfl⟩
  · obtain ⟨k, j, rfl, rfl, hk, hj⟩ := hasP_nat hq
    have hx := nx_nat (s := s) hk
    by_cases hl : j < (s.bk k).pg.length
    · have e1 : s.stt (k : Int) (j : Int) = ((s.bk k).pg[j]).st := by unfold Dev.stt; rw [if_neg (by simp [hq])]; simp [hl]
      obtain ⟨h5, h6⟩ := h.gcells hk
      obtain ⟨pp, c, dv, sv, hV, p0, p1, p2, _, _⟩ := h.page hk hl
      rw [e1]
      rw [hV] at h6
      have hd : decide ((s.nx (k : Int)) ≤ (j : Int)) = false := by rw [hx]; exact decide_eq_false (by omega)
      clear h hg hV e1 hx
      go_enter Try.func30, Try.ntmps30
      go_wp2_with (first
        | ((go_at_call 44; with_reducible refine (hasPage_any H.out HG.out _ _).mono ?_); rintro e w' ⟨rfl, rfl⟩)
        | ((go_at_call 28; with_reducible refine (Next_any H.out HG.out _).mono ?_); rintro e w' ⟨rfl, rfl⟩))
      go_ret
      exact ⟨rfl, rfl⟩
    · have e1 : s.stt (k : Int) (j : Int) = 1 := by unfold Dev.stt; rw [if_neg (by simp [hq])]; simp [hl]
      rw [e1]
      have hd : decide ((s.nx (k : Int)) ≤ (j : Int)) = true := by rw [hx]; exact decide_eq_true (by omega)
      clear h hg e1 hx
      go_enter Try.func30, Try.ntmps30
      go_wp2_with (first
        | ((go_at_call 44; with_reducible refine (hasPage_any H.out HG.out _ _).mono ?_); rintro e w' ⟨rfl, rfl⟩)
        | ((go_at_call 28; with_reducible refine (Next_any H.out HG.out _).mono ?_); rintro e w' ⟨rfl, rfl⟩))
      go_ret
      exact ⟨rfl, rfl⟩
theorem Powered_any (h : Dv w base b g m V s) : Calls Try.prog 25 #[.pointer (some ⟨b, 0, none⟩)] w fun e w' => e = .returned (.bool (!s.off)) ∧ w = w' := by
  have k4 := h.c4
  have k9 := h.c9
  clear h
  go_enter Try.func25, Try.ntmps25
  go_wp2_with (((go_at_call 46; with_reducible refine (missing_not _ g _ _ k4).mono ?_); rintro e w' ⟨rfl, rfl⟩))
  go_ret
  exact ⟨rfl, rfl⟩
theorem Operations_any (h : Dv w base b g m V s) : Calls Try.prog 27 #[.pointer (some ⟨b, 0, none⟩)] w fun e w' => e = .returned (.int .i64 s.n) ∧ w = w' := by
  have k4 := h.c4
  have k8 := h.c8
  clear h
  go_enter Try.func27, Try.ntmps27
  go_wp2_with (((go_at_call 46; with_reducible refine (missing_not _ g _ _ k4).mono ?_); rintro e w' ⟨rfl, rfl⟩))
  go_ret
  exact ⟨rfl, rfl⟩
end
end Go.Proofs.Ytddejcoagcaidaa
