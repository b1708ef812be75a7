/- Where an entry is put into a list that increases; what the reference's Apply does in one round. Conditions stand in each theorem. -/
import Derived.Test.YteiemegkdnjpgaaYQ
namespace Go.Proofs.Yteiemegkdnjpgaa
open Go.RowKit Go.Shelf
set_option linter.unusedVariables false
theorem ins_at {q c : Int} : ∀ {L : List (Int × Int)} {k : Nat}, k ≤ L.length → (∀ j (hj : j < L.length), j < k → L[j].1 < q) → (∀ hk : k < L.length, q < L[k].1) → ins q c L = L.take k ++ (q, c) :: L.drop k
  | [], k, hk, _, _ => by simp [ins]
  | x :: r, 0, _, _, h2 => by
    have h := h2 (by simp)
    show (if q < x.1 then (q, c) :: x :: r else x :: ins q c r) = _
    rw [if_pos (show q < x.1 from h)]
    rfl
  | x :: r, k + 1, hk, h1, h2 => by
    have h := h1 0 (by simp) (by omega)
    show (if q < x.1 then (q, c) :: x :: r else x :: ins q c r) = _
    rw [if_neg (show ¬ q < x.1 from fun e => by have h3 : x.1 < q := h; omega)]
    rw [ins_at (L := r) (k := k) (by simpa using hk) (fun j hj hjk => h1 (j + 1) (by simpa using hj) (by omega)) (fun hk' => h2 (by simpa using hk'))]
    rfl
theorem del_ne {q : Int} {L : List (Int × Int)} {k : Nat} (h : k < (del q L).length) : (del q L)[k].1 ≠ q := (mem_del.1 (List.getElem_mem h)).1
/-- The list behind an assignment that is put in at the first place whose sector is not below. -/
theorem asg_at {q c : Int} {L : List (Int × Int)} {k : Nat} (hc : c ≠ -1) (hk : k ≤ (del q L).length) (h1 : ∀ j (hj : j < (del q L).length), j < k → (del q L)[j].1 < q) (h2 : ∀ h : k < (del q L).length, ¬ (del q L)[k].1 < q) : asg L q c = (del q L).take k ++ (q, c) :: (del q L).drop k := by
  unfold asg
  rw [if_neg hc]
  exact ins_at hk h1 (fun h => by have := h2 h; have := del_ne h; omega)
/-- The three answers of one round. -/
theorem reqE_range {s b p : Nat} {L : List (Int × Int)} {q g : Int} (h : q < 0 ∨ (s : Int) ≤ q ∨ g < -1 ∨ ((b * p : Nat) : Int) ≤ g) : reqE s b p L q g = 3 := by
  unfold reqE
  exact if_pos (by omega)
theorem reqE_busy {s b p : Nat} {L : List (Int × Int)} {q g k : Int} (hq : 0 ≤ q ∧ q < s) (hg : 0 ≤ g ∧ g < ((b * p : Nat) : Int)) (hl : look (flip L) g = some k) (hk : k ≠ q) : reqE s b p L q g = 11 := by
  unfold reqE
  rw [if_neg (by omega), hl]
  exact if_neg hk
theorem reqE_free {s b p : Nat} {L : List (Int × Int)} {q g : Int} (hF : Fits s b p L) (hq : 0 ≤ q ∧ q < s) (hg : g = -1 ∨ (0 ≤ g ∧ g < ((b * p : Nat) : Int))) (hl : 0 ≤ g → ∀ k, look (flip L) g = some k → k = q) : reqE s b p L q g = 0 := by
  unfold reqE
  rw [if_neg (by omega)]
  cases h : look (flip L) g with
  | none => rfl
  | some k =>
    refine if_pos (hl ?_ k h)
    rcases hg with hg | hg
    · subst hg
      have h1 := mem_flip.1 (look_mem h)
      have h2 := hF.rng _ h1
      omega
    · exact hg.1
end Go.Proofs.Yteiemegkdnjpgaa
