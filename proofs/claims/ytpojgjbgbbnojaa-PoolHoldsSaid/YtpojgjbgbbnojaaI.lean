/- The mathematics of PoolHolds, and its walk. Conditions stand in each theorem. -/
import Derived.Test.YtpojgjbgbbnojaaH
import Derived.Laws.MakeOwn
namespace Go.Proofs.Ytpojgjbgbbnojaa
open Go.RowKit
set_option linter.unusedVariables false
set_option maxHeartbeats 4000000
set_option maxRecDepth 100000
/-- The blocks behind i turns. -/
def hold (N : Nat) (e0 : Int) (i : Nat) : List Blk := (List.range N).map fun j => ⟨e0 + ((i / N : Nat) : Int) + (if j < i % N then 1 else 0), 1⟩
theorem hold_length (N : Nat) (e0 : Int) (i : Nat) : (hold N e0 i).length = N := by simp [hold]
theorem hold_at {N : Nat} {e0 : Int} {i j : Nat} (h : j < (hold N e0 i).length) : (hold N e0 i)[j] = ⟨e0 + ((i / N : Nat) : Int) + (if j < i % N then 1 else 0), 1⟩ := by simp [hold]
theorem mk_rep (N : Nat) (e0 : Int) : mk (List.replicate N e0) = hold N e0 0 := by
  apply List.ext_getElem
  · simp [mk, hold]
  · intro j h1 h2
    simp [mk, hold]
theorem hold_take {N : Nat} (e0 : Int) (i : Nat) (hN : 0 < N) : lwc (hold N e0 i) 1 = (i % N, (lwc (hold N e0 i) 1).2.1, true) := by
  have hl := hold_length N e0 i
  have hm := Nat.mod_lt i hN
  obtain ⟨h1, h2⟩ := lwc_ok (hold N e0 i) 1
  generalize lwc (hold N e0 i) 1 = p at *
  obtain ⟨j, n, f⟩ := p
  dsimp only at *
  cases f
  · have := (h1 rfl).2 0 (by omega) (by omega)
    rw [hold_at] at this
    exact absurd this (by simp [eqB])
  · obtain ⟨hj, _, _, _, h3⟩ := h2 rfl
    have := h3 (i % N) (by omega) (by omega) (by rw [hold_at]; simp [eqB])
    rw [hold_at, hold_at] at this
    dsimp only at this
    rw [if_neg (Nat.lt_irrefl _)] at this
    have hji : j = i % N := by
      rcases Nat.lt_trichotomy j (i % N) with hlt | he | hgt
      · rw [if_pos hlt] at this; omega
      · exact he
      · have := this.2 hgt
        rw [if_neg (by omega)] at this; omega
    subst hji
    rfl
theorem hold_ers {N : Nat} (e0 : Int) (i : Nat) (hN : 0 < N) : ers (hold N e0 i) ((i % N : Nat) : Int) = e0 + ((i / N : Nat) : Int) := by
  have hm := Nat.mod_lt i hN
  rw [ers_nat (by rw [hold_length]; exact hm), hold_at]
  dsimp only
  rw [if_neg (Nat.lt_irrefl _)]; omega
theorem hold_next {N : Nat} (e0 : Int) (i : Nat) (hN : 0 < N) : (hold N e0 i).set (i % N) ⟨e0 + ((i / N : Nat) : Int) + 1, 1⟩ = hold N e0 (i + 1) := by
  have hm := Nat.mod_lt i hN
  have hd := Nat.div_add_mod i N
  apply List.ext_getElem
  · simp [hold]
  · intro j h1 h2
    rw [hold_length] at h2
    rw [List.getElem_set]
    have hs : (i % N + 1 < N → (i + 1) / N = i / N ∧ (i + 1) % N = i % N + 1) ∧ (i % N + 1 = N → (i + 1) / N = i / N + 1 ∧ (i + 1) % N = 0) := by
      constructor
      · intro hlt
        have e : i + 1 = N * (i / N) + (i % N + 1) := by omega
        constructor
        · rw [e, Nat.mul_add_div hN, Nat.div_eq_of_lt hlt]; omega
        · rw [e, Nat.mul_add_mod, Nat.mod_eq_of_lt hlt]
      · intro heq
        have e : i + 1 = N * (i / N + 1) := by rw [Nat.mul_add]; omega
        constructor
        · rw [e, Nat.mul_div_cancel_left _ hN]
        · rw [e, Nat.mul_mod_right]
    rw [hold_at (i := i + 1)]
    rcases Nat.lt_or_ge (i % N + 1) N with hlt | hge
    · obtain ⟨e1, e2⟩ := hs.1 hlt
      rw [e1, e2]
      by_cases hji : i % N = j
      · rw [if_pos hji, if_pos (by omega)]
      · rw [if_neg hji, hold_at]
        by_cases hj : j < i % N
        · rw [if_pos hj, if_pos (by omega)]
        · rw [if_neg hj, if_neg (by omega)]
    · obtain ⟨e1, e2⟩ := hs.2 (by omega)
      rw [e1, e2]
      by_cases hji : i % N = j
      · rw [if_pos hji, if_neg (by omega)]
        congr 1; omega
      · rw [if_neg hji, hold_at, if_pos (by omega), if_neg (by omega)]
        congr 1; omega
theorem hold_spread {N : Nat} (e0 : Int) (i : Nat) (hN : 0 < N) : sprA (hold N e0 i) = e0 + ((i / N : Nat) : Int) ∧ sprA (hold N e0 i) ≤ sprB (hold N e0 i) ∧ sprB (hold N e0 i) ≤ sprA (hold N e0 i) + 1 := by
  have hl := hold_length N e0 i
  have hm := Nat.mod_lt i hN
  have hin : ∀ j (h : j < (hold N e0 i).length), neB (hold N e0 i)[j].st 4 = true := fun j h => by rw [hold_at]; rfl
  have hA := lw_spec Blk.er (fun x => neB x.st 4) (hold N e0 i) _ (Nat.le_refl _)
  have hB := lw_spec (fun x => -x.er) (fun x => neB x.st 4) (hold N e0 i) _ (Nat.le_refl _)
  unfold sprA sprB
  rw [show lw Blk.er (fun x => neB x.st 4) (hold N e0 i) (hold N e0 i).length = lo (hold N e0 i) from rfl] at hA
  rw [show lw (fun x => -x.er) (fun x => neB x.st 4) (hold N e0 i) (hold N e0 i).length = hi (hold N e0 i) from rfl] at hB
  generalize lo (hold N e0 i) = p at *
  generalize hi (hold N e0 i) = p2 at *
  obtain ⟨j, n, f⟩ := p
  obtain ⟨j2, n2, f2⟩ := p2
  dsimp only at *
  have hf : f = true := by
    cases f
    · have := (hA.1 rfl).2 0 (by omega) (by omega)
      dsimp only at this
      rw [hin] at this
      cases this
    · rfl
  have hf2 : f2 = true := by
    cases f2
    · have := (hB.1 rfl).2 0 (by omega) (by omega)
      dsimp only at this
      rw [hin] at this
      cases this
    · rfl
  obtain ⟨hj, _, _, _, h3⟩ := hA.2 hf
  obtain ⟨hj2, _, _, _, _⟩ := hB.2 hf2
  dsimp only at hj hj2 h3
  rw [if_pos hf, if_pos hf, ers_nat hj, ers_nat hj2]
  have := (h3 (i % N) (by omega) (by omega) (hin _ _)).1
  rw [hold_at, hold_at] at this
  rw [hold_at, hold_at]
  dsimp only at this ⊢
  rw [if_neg (Nat.lt_irrefl _)] at this
  have hx : (0 : Int) ≤ (if j < i % N then 1 else 0) := by split <;> omega
  have hy : (0 : Int) ≤ (if j2 < i % N then 1 else 0) ∧ (if j2 < i % N then 1 else 0) ≤ (1 : Int) := by split <;> omega
  omega
end Go.Proofs.Ytpojgjbgbbnojaa
