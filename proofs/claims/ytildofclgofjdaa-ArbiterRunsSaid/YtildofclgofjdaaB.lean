/- The contracts of valid and weights. No condition. -/
import Derived.Test.YtildofclgofjdaaA
import Derived.Laws.BitsAllLaws
namespace Go.Proofs.Ytildofclgofjdaa
open Go.RowKit
set_option linter.unusedVariables false
set_option maxHeartbeats 400000
/-- The bursts that a configuration may have. -/
def burB (b : Int) : Bool := [0, 1, 2, 4, 8, 16, 32, 64, 128].contains b
def valB (wt : Bool) (bu hi me lo : Int) : Bool := burB bu && (!wt || wgtB hi && wgtB me && wgtB lo)
theorem and_pow : ∀ k : Fin 129, (bits .and .i64 ((k.val : Nat) : Int) (((k.val : Nat) : Int) - 1) != 0) = !burB ((k.val : Nat) : Int) := by decide +kernel
theorem and_pow' {b : Int} (h0 : 0 ≤ b) (h1 : b ≤ 128) : (bits .and .i64 b (b - 1) != 0) = !burB b := by
  obtain ⟨k, rfl⟩ := Int.eq_ofNat_of_zero_le h0
  exact and_pow ⟨k, by omega⟩
theorem bur_out {b : Int} (h : b < 0 ∨ 128 < b) : burB b = false := by
  unfold burB
  simp
  omega
theorem bur_in {b : Int} (h : burB b = true) : 0 ≤ b ∧ b ≤ 128 := by
  unfold burB at h
  simp at h
  omega
theorem valid_any (wt : Bool) (bu hi me lo : Int) (w : World) : Calls Try.prog 25 #[.agg #[.bool wt, .int .i64 bu, .int .i64 hi, .int .i64 me, .int .i64 lo]] w fun e w' => e = .returned (.bool (valB wt bu hi me lo)) ∧ Below w.heap.size w w' := by
  by_cases h1 : bu < 0
  · go_enter Try.func25, Try.ntmps25
    go_wp2
    go_ret
    exact ⟨by simp [valB, bur_out (.inl h1)], (Below.refl _ _).alloc (Nat.le_refl _) _⟩
  by_cases h2 : 128 < bu
  · go_enter Try.func25, Try.ntmps25
    go_wp2
    go_ret
    exact ⟨by simp [valB, bur_out (.inr h2)], (Below.refl _ _).alloc (Nat.le_refl _) _⟩
  have h3 := and_pow' (by omega) (by omega : bu ≤ 128)
  have h0 : 0 ≤ bu := by omega
  have h4 : bu ≤ 128 := by omega
  cases hb : burB bu
  · rw [hb] at h3
    go_enter Try.func25, Try.ntmps25
    go_wp2
    go_ret
    exact ⟨by simp [valB, hb], (Below.refl _ _).alloc (Nat.le_refl _) _⟩
  · rw [hb] at h3
    cases wt
    · go_enter Try.func25, Try.ntmps25
      go_wp2
      go_ret
      exact ⟨by simp [valB, hb], (Below.refl _ _).alloc (Nat.le_refl _) _⟩
    · cases hh : wgtB hi <;> cases hm : wgtB me <;> cases hl : wgtB lo
      all_goals
        go_enter Try.func25, Try.ntmps25
        go_wp2_with ((go_at_call 44; with_reducible refine (isWeight_any _ _).mono ?_); rintro e w' ⟨rfl, rfl⟩)
        go_ret
        exact ⟨by simp [valB, hb, hh, hm, hl], (Below.refl _ _).alloc (Nat.le_refl _) _⟩
theorem weights_any (wt : Bool) (bu hi me lo : Int) (w : World) : Calls Try.prog 26 #[.agg #[.bool wt, .int .i64 bu, .int .i64 hi, .int .i64 me, .int .i64 lo]] w fun e w' => e = .returned (.agg #[.int .i64 0, .int .i64 hi, .int .i64 me, .int .i64 lo]) ∧ Below w.heap.size w w' := by
  go_enter Try.func26, Try.ntmps26
  go_wp2
  exact bodyPost_ret (v := .agg #[.int .i64 0, .int .i64 hi, .int .i64 me, .int .i64 lo]) (by simp [results, Try.results26, go_sem]) rfl ⟨rfl, ((Below.refl _ _).alloc (Nat.le_refl _) _).alloc (by simp) _⟩
end Go.Proofs.Ytildofclgofjdaa
