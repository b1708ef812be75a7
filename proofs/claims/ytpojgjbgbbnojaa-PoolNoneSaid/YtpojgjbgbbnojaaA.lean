/- The contracts of the small functions: num, within, isErases, isState, all, missing, hasBlock, refusal, State, Erases, Count. Conditions stand in each theorem. -/
import Derived.Test.YtpojgjbgbbnojaaW
namespace Go.Proofs.Ytpojgjbgbbnojaa
open Go.RowKit
set_option linter.unusedVariables false
set_option maxHeartbeats 400000
set_option maxRecDepth 100000
def wiB (q lo hi : Int) : Bool := decide (lo ≤ q ∧ q ≤ hi)
theorem within_any (q lo hi : Int) (w : World) : Calls Try.prog 27 #[.int .i64 q, .int .i64 lo, .int .i64 hi] w fun e w' => e = .returned (.bool (wiB q lo hi)) ∧ w = w' := by
  unfold wiB
  by_cases h1 : lo ≤ q <;> by_cases h2 : q ≤ hi
  all_goals
    go_enter Try.func27, Try.ntmps27
    go_wp2
    go_ret
    exact ⟨by simp [h1, h2], rfl⟩
theorem num_any (q : Int) (w : World) : Calls Try.prog 11 #[.int .i64 q] w fun e w' => e = .returned (.int .i64 q) ∧ w = w' := by
  go_enter Try.func11, Try.ntmps11
  go_wp2
  go_ret
  exact ⟨rfl, rfl⟩
def erB (q : Int) : Bool := wiB q 0 1099511627776
theorem isErases_any (q : Int) (w : World) : Calls Try.prog 28 #[.int .i64 q] w fun e w' => e = .returned (.bool (erB q)) ∧ w = w' := by
  unfold erB
  go_enter Try.func28, Try.ntmps28
  go_wp2_with ((go_at_call 27; with_reducible refine (within_any _ _ _ _).mono ?_); rintro e w' ⟨rfl, rfl⟩)
  go_ret
  exact ⟨rfl, rfl⟩
def stB (q : Int) : Bool := wiB q 1 4
theorem isState_any (q : Int) (w : World) : Calls Try.prog 52 #[.int .i64 q] w fun e w' => e = .returned (.bool (stB q)) ∧ w = w' := by
  unfold stB wiB
  by_cases h1 : 1 ≤ q <;> by_cases h2 : q ≤ 4
  all_goals
    go_enter Try.func52, Try.ntmps52
    go_wp2
    go_ret
    exact ⟨by simp [h1, h2], rfl⟩
section
variable {w : World} {base b g cap : Nat} {l : List Blk}
theorem all_any (h : Pl w base b g cap l) : Calls Try.prog 38 #[.pointer (some ⟨b, 0, none⟩)] w fun e w' => e = .returned (.slice (some ⟨g, 0, none⟩) l.length cap) ∧ w = w' := by
  have k0 := h.c0
  clear h
  go_enter Try.func38, Try.ntmps38
  go_wp2
  go_ret
  exact ⟨rfl, rfl⟩
theorem missing_any (h : Pl w base b g cap l) : Calls Try.prog 41 #[.pointer (some ⟨b, 0, none⟩)] w fun e w' => e = .returned (.bool false) ∧ w = w' := by
  have H := Lib.hid h
  have hp := h.fit.pos
  have hd : decide (l.length = 0) = false := decide_eq_false (by omega)
  have hd2 : ((l.length : Int) == 0) = false := by rw [beq_eq_false_iff_ne]; omega
  clear h
  go_enter Try.func41, Try.ntmps41
  go_wp2_with ((go_at_call 38; with_reducible refine (all_any H.out).mono ?_); rintro e w' ⟨rfl, rfl⟩)
  go_ret
  exact ⟨rfl, rfl⟩
def hasB (l : List Blk) (q : Int) : Bool := wiB q 0 ((l.length : Int) - 1)
theorem hasB_nat {l : List Blk} {q : Int} (h : hasB l q = true) : ∃ k : Nat, q = k ∧ k < l.length := by
  unfold hasB wiB at h
  have := of_decide_eq_true h
  exact ⟨q.toNat, by omega, by omega⟩
theorem hasB_of {l : List Blk} {k : Nat} (h : k < l.length) : hasB l (k : Int) = true := by
  unfold hasB wiB
  exact decide_eq_true (by omega)
theorem hasBlock_any (h : Pl w base b g cap l) (q : Int) : Calls Try.prog 53 #[.pointer (some ⟨b, 0, none⟩), .int .i64 q] w fun e w' => e = .returned (.bool (hasB l q)) ∧ w = w' := by
  have H := Lib.hid h
  have hp := h.fit.pos
  have hp2 := h.fit.len
  have h1 : (1 : Int) ≤ l.length := by omega
  have h2 : (l.length : Int) ≤ 4096 := by omega
  clear h
  unfold hasB
  go_enter Try.func53, Try.ntmps53
  go_wp2_with (first
    | ((go_at_call 38; with_reducible refine (all_any H.out).mono ?_); rintro e w' ⟨rfl, rfl⟩)
    | ((go_at_call 27; with_reducible refine (within_any _ _ _ _).mono ?_); rintro e w' ⟨rfl, rfl⟩))
  go_ret
  exact ⟨rfl, rfl⟩
def refE (l : List Blk) (v : Bool) (q : Int) : Int := if v = false then 2 else if hasB l q = false then 3 else 0
theorem refusal_any (h : Pl w base b g cap l) (v : Bool) (q : Int) : Calls Try.prog 51 #[.pointer (some ⟨b, 0, none⟩), .bool v, .int .i64 q] w fun e w' => e = .returned (.int .i64 (refE l v q)) ∧ w = w' := by
  have H := Lib.hid h
  clear h
  unfold refE
  cases v <;> cases ho : hasB l q
  all_goals
    have HO := Lib.hid ho
    clear ho
    go_enter Try.func51, Try.ntmps51
    go_wp2_with (first
      | ((go_at_call 41; with_reducible refine (missing_any H.out).mono ?_); rintro e w' ⟨rfl, rfl⟩)
      | ((go_at_call 53; with_reducible refine (hasBlock_any H.out _).mono ?_); rintro e w' ⟨he, rfl⟩; rw [HO.out] at he; subst he))
    go_ret
    exact ⟨rfl, rfl⟩
def sta (l : List Blk) (q : Int) : Int := if hasB l q = true then (l[q.toNat]?.map Blk.st).getD 0 else 0
def ers (l : List Blk) (q : Int) : Int := if hasB l q = true then (l[q.toNat]?.map Blk.er).getD 0 else 0
theorem sta_nat {l : List Blk} {k : Nat} (h : k < l.length) : sta l (k : Int) = l[k].st := by unfold sta; rw [if_pos (hasB_of h)]; simp [h]
theorem ers_nat {l : List Blk} {k : Nat} (h : k < l.length) : ers l (k : Int) = l[k].er := by unfold ers; rw [if_pos (hasB_of h)]; simp [h]
theorem State_any (h : Pl w base b g cap l) (q : Int) : Calls Try.prog 24 #[.pointer (some ⟨b, 0, none⟩), .int .i64 q] w fun e w' => e = .returned (.int .i64 (sta l q)) ∧ w = w' := by
  have H := Lib.hid h
  have k0 := h.c0
  cases hq : hasB l q
  · have e1 : sta l q = 0 := by unfold sta; rw [if_neg (by simp [hq])]
    rw [e1]
    have HO := Lib.hid hq
    clear h hq e1
    go_enter Try.func24, Try.ntmps24
    go_wp2_with (((go_at_call 53; with_reducible refine (hasBlock_any H.out _).mono ?_); rintro e w' ⟨he, rfl⟩; rw [HO.out] at he; subst he))
    go_ret
    exact ⟨rfl, rfl⟩
  · have HO := Lib.hid hq
    obtain ⟨k, rfl, hk⟩ := hasB_nat hq
    rw [sta_nat hk]
    obtain ⟨h5, h6⟩ := h.row.at hk
    clear h hq
    go_enter Try.func24, Try.ntmps24
    go_wp2_with (((go_at_call 53; with_reducible refine (hasBlock_any H.out _).mono ?_); rintro e w' ⟨he, rfl⟩; rw [HO.out] at he; subst he))
    go_ret
    exact ⟨rfl, rfl⟩
theorem Erases_any (h : Pl w base b g cap l) (q : Int) : Calls Try.prog 25 #[.pointer (some ⟨b, 0, none⟩), .int .i64 q] w fun e w' => e = .returned (.int .i64 (ers l q)) ∧ w = w' := by
  have H := Lib.hid h
  have k0 := h.c0
  cases hq : hasB l q
  · have e1 : ers l q = 0 := by unfold ers; rw [if_neg (by simp [hq])]
    rw [e1]
    have HO := Lib.hid hq
    clear h hq e1
    go_enter Try.func25, Try.ntmps25
    go_wp2_with (((go_at_call 53; with_reducible refine (hasBlock_any H.out _).mono ?_); rintro e w' ⟨he, rfl⟩; rw [HO.out] at he; subst he))
    go_ret
    exact ⟨rfl, rfl⟩
  · have HO := Lib.hid hq
    obtain ⟨k, rfl, hk⟩ := hasB_nat hq
    rw [ers_nat hk]
    obtain ⟨h5, h6⟩ := h.row.at hk
    clear h hq
    go_enter Try.func25, Try.ntmps25
    go_wp2_with (((go_at_call 53; with_reducible refine (hasBlock_any H.out _).mono ?_); rintro e w' ⟨he, rfl⟩; rw [HO.out] at he; subst he))
    go_ret
    exact ⟨rfl, rfl⟩
theorem Count_any (h : Pl w base b g cap l) (q : Int) : Calls Try.prog 26 #[.pointer (some ⟨b, 0, none⟩), .int .i64 q] w fun e w' => e = .returned (.int .i64 (cnt l q)) ∧ w = w' := by
  have H := Lib.hid h
  cases hs : stB q
  · have e1 : cnt l q = 0 := cnt_out h.fit.ok (by unfold stB wiB at hs; have := of_decide_eq_false hs; omega)
    rw [e1]
    have HO := Lib.hid hs
    clear h hs e1
    go_enter Try.func26, Try.ntmps26
    go_wp2_with (first
      | ((go_at_call 41; with_reducible refine (missing_any H.out).mono ?_); rintro e w' ⟨rfl, rfl⟩)
      | ((go_at_call 52; with_reducible refine (isState_any _ _).mono ?_); rintro e w' ⟨he, rfl⟩; rw [HO.out] at he; subst he))
    go_ret
    exact ⟨rfl, rfl⟩
  · have HO := Lib.hid hs
    have hq : 1 ≤ q ∧ q ≤ 4 := by unfold stB wiB at hs; exact of_decide_eq_true hs
    obtain ⟨k, rfl⟩ : ∃ k : Nat, q = k := ⟨q.toNat, by omega⟩
    have hk := h.cs (s := k) (by omega)
    have hk4 : k ≤ 4 := by omega
    have hk5 : k < 5 := by omega
    clear h hs hq
    go_enter Try.func26, Try.ntmps26
    go_wp2_with (first
      | ((go_at_call 41; with_reducible refine (missing_any H.out).mono ?_); rintro e w' ⟨rfl, rfl⟩)
      | ((go_at_call 52; with_reducible refine (isState_any _ _).mono ?_); rintro e w' ⟨he, rfl⟩; rw [HO.out] at he; subst he))
    go_ret
    exact ⟨rfl, rfl⟩
end
end Go.Proofs.Ytpojgjbgbbnojaa
