/- Mathematics of the insertion sort and of the blocks of a stable sort. Conditions stand in each theorem. -/
import Derived.Test.YtajlddgemkkcdaaQM
import Derived.Sort.WalkA
namespace Go.Proofs.Ytajlddgemkkcdaa
open Go.Shelf Go.RowKit Go.Lib Go.Sort
set_option linter.unusedVariables false
variable {α : Type} [Inhabited α] {R : α → α → Prop} {lt : α → α → Bool} {d d' : Array α} {a m b : Nat}
/-- What lt says of two elements, in the order in which they lie. -/
def TieB (R : α → α → Prop) (lt : α → α → Bool) (x y : α) : Prop := (lt y x = true → R y x) ∧ (lt y x = false → R x y)
def Tie (R : α → α → Prop) (lt : α → α → Bool) (d : Array α) (a b : Nat) : Prop := ∀ i j, a ≤ i → i < j → j < b → TieB R lt d[i]! d[j]!
structure InsR (R : α → α → Prop) (lt : α → α → Bool) (a j i : Nat) (d : Array α) : Prop where
  rest : ∀ p q, a ≤ p → p < q → q ≤ i → p ≠ j → q ≠ j → R d[p]! d[q]!
  right : ∀ q, j < q → q ≤ i → R d[j]! d[q]!
  tie : ∀ p, a ≤ p → p < j → TieB R lt d[p]! d[j]!
theorem InsR.stop (hT : ∀ x y z, R x y → R y z → R x z) {a j i : Nat} {d : Array α} (h : InsR R lt a j i d) (hs : j ≤ a ∨ lt d[j]! d[j - 1]! = false) : Ord R d a (i + 1) := by
  intro p q hap hpq hqi
  by_cases hq : q = j
  · subst hq
    have hl : lt d[q]! d[q - 1]! = false := hs.resolve_left (by omega)
    have h1 := (h.tie (q - 1) (by omega) (by omega)).2 hl
    by_cases hp : p = q - 1
    · rw [hp]; exact h1
    · exact hT _ _ _ (h.rest p (q - 1) hap (by omega) (by omega) (by omega) (by omega)) h1
  · by_cases hp : p = j
    · subst hp; exact h.right q hpq (by omega)
    · exact h.rest p q hap hpq (by omega) hp hq
theorem InsR.step {a j i : Nat} {d : Array α} (h : InsR R lt a (j + 1) i d) (hl : lt d[j + 1]! d[j]! = true) (haj : a ≤ j) (hji : j + 1 ≤ i) (hsz : j + 1 < d.size) : InsR R lt a j i (swp d (j + 1) j) := by
  have g := swp_get d hsz (show j < d.size by omega)
  have g0 : (swp d (j + 1) j)[j]! = d[j + 1]! := by rw [g, if_pos rfl]
  have g1 : (swp d (j + 1) j)[j + 1]! = d[j]! := by rw [g, if_neg (by omega), if_pos rfl]
  have g2 : ∀ t, t ≠ j → t ≠ j + 1 → (swp d (j + 1) j)[t]! = d[t]! := fun t h1 h2 => by rw [g, if_neg h1, if_neg h2]
  refine ⟨fun p q hap hpq hqi hp hq => ?_, fun q hq hqi => ?_, fun p hap hp => ?_⟩
  · by_cases h1 : q = j + 1
    · subst h1
      rw [g1, g2 p hp (by omega)]
      exact h.rest p j hap (by omega) (by omega) (by omega) (by omega)
    · by_cases h2 : p = j + 1
      · subst h2
        rw [g1, g2 q hq h1]
        exact h.rest j q haj (by omega) hqi (by omega) h1
      · rw [g2 p hp h2, g2 q hq h1]
        exact h.rest p q hap hpq hqi h2 h1
  · rw [g0]
    by_cases h1 : q = j + 1
    · subst h1
      rw [g1]
      exact (h.tie j haj (by omega)).1 hl
    · rw [g2 q (by omega) h1]
      exact h.right q (by omega) hqi
  · rw [g0, g2 p (by omega) (by omega)]
    exact h.tie p hap (by omega)
theorem insInner_ord (hT : ∀ x y z, R x y → R y z → R x z) (lt : α → α → Bool) (a i : Nat) : ∀ (j : Nat) (d : Array α), j ≤ i → a ≤ j → i < d.size → InsR R lt a j i d → Ord R (insInner lt a j d) a (i + 1) ∧ PermIn a (i + 1) d (insInner lt a j d) := by
  intro j
  induction j with
  | zero => intro d hji haj hi h; rw [insInner]; exact ⟨h.stop hT (.inl (by omega)), permIn_refl _ _ _⟩
  | succ j ih =>
    intro d hji haj hi h
    by_cases hs : a < j + 1 ∧ lt d[j + 1]! d[j]! = true
    · rw [insInner_go lt a (j + 1) d hs.1 (by simpa using hs.2), Nat.add_sub_cancel]
      have h2 := ih (swp d (j + 1) j) (by omega) (by omega) (by rw [size_swp]; exact hi) (h.step hs.2 (by omega) (by omega) (by omega))
      exact ⟨h2.1, permIn_trans _ _ _ _ _ (swp_permIn d a (i + 1) (j + 1) j (by omega) (by omega) (by omega) (by omega) (by omega)) h2.2⟩
    · have hs2 : j + 1 ≤ a ∨ lt d[j + 1]! d[j + 1 - 1]! = false := by
        by_cases h1 : a < j + 1
        · right
          rw [Nat.add_sub_cancel]
          cases h2 : lt d[j + 1]! d[j]! with
          | false => rfl
          | true => exact absurd ⟨h1, h2⟩ hs
        · left; omega
      rw [insInner_stop lt a (j + 1) d hs2]
      exact ⟨h.stop hT hs2, permIn_refl _ _ _⟩
theorem tie_mix {d0 d : Array α} {i : Nat} (ht : Tie R lt d0 a b) (hai : a ≤ i) (hib : i ≤ b) (hb : b ≤ d0.size) (hp : PermIn a i d0 d) : ∀ p q, a ≤ p → p < i → i ≤ q → q < b → TieB R lt d[p]! d[q]! := by
  intro p q h1 h2 h3 h4
  rw [hp.2.1 q (.inr h3)]
  exact permIn_all d0 d a i (fun z => TieB R lt z d0[q]!) (by omega) hp (fun x g g' => ht x q g (by omega) h4) p h1 h2
theorem insOuter_ord (hT : ∀ x y z, R x y → R y z → R x z) (lt : α → α → Bool) (d0 : Array α) (a b : Nat) (hb : b ≤ d0.size) (ht : Tie R lt d0 a b) : ∀ (n i : Nat) (d : Array α), b - i ≤ n → a ≤ i → i ≤ b → PermIn a i d0 d → Ord R d a i → Ord R (insOuter lt a b i d) a b ∧ PermIn a b d0 (insOuter lt a b i d) := by
  intro n
  induction n with
  | zero =>
    intro i d hn hai hib hp ho
    obtain rfl : i = b := by omega
    rw [insOuter_stop lt a i i d (by omega)]
    exact ⟨ho, hp⟩
  | succ n ih =>
    intro i d hn hai hib hp ho
    by_cases hlt : i < b
    · rw [insOuter_go lt a b i d hlt]
      have hsz : d.size = d0.size := hp.1
      have hI : InsR R lt a i i d := ⟨fun p q h1 h2 h3 h4 h5 => ho p q h1 h2 (by omega), fun q h1 h2 => by omega, fun p h1 h2 => tie_mix ht hai hib hb hp p i h1 h2 (Nat.le_refl _) hlt⟩
      obtain ⟨h1, h2⟩ := insInner_ord hT lt a i i d (Nat.le_refl _) hai (by omega) hI
      exact ih (i + 1) _ (by omega) (by omega) hlt (permIn_trans _ _ _ _ _ (permIn_mono _ _ _ _ _ _ (Nat.le_refl _) (by omega) (by omega) hp) h2) h1
    · obtain rfl : i = b := by omega
      rw [insOuter_stop lt a i i d (by omega)]
      exact ⟨ho, hp⟩
theorem insertion_ord (hT : ∀ x y z, R x y → R y z → R x z) (lt : α → α → Bool) (d : Array α) (a b : Nat) (hab : a ≤ b) (hb : b ≤ d.size) (ht : Tie R lt d a b) : Ord R (insertionSort lt d a b) a b ∧ PermIn a b d (insertionSort lt d a b) := by
  unfold insertionSort
  by_cases h : a < b
  · refine insOuter_ord hT lt d a b hb ht (b - (a + 1)) (a + 1) d (Nat.le_refl _) (by omega) h ?_ ?_
    · exact permIn_refl _ _ _
    · intro p q h1 h2 h3; omega
  · rw [insOuter_stop lt a b (a + 1) d (by omega)]
    exact ⟨fun p q h1 h2 h3 => by omega, permIn_refl _ _ _⟩
/-- Two blocks, each sorted, stand before their merge. -/
theorem pre_blocks {d1 d2 : Array α} (ht : Tie R lt d 0 b) (hm : m ≤ b) (hb : b ≤ d.size) (o1 : Ord R d1 0 m) (p1 : PermIn 0 m d d1) (o2 : Ord R d2 m b) (p2 : PermIn m b d1 d2) : Pre R lt d2 0 m b := by
  have hc : ∀ i j, 0 ≤ i → i < m → m ≤ j → j < b → TieB R lt d2[i]! d2[j]! := by
    intro i j h1 h2 h3 h4
    rw [p2.2.1 i (.inl h2)]
    refine permIn_all d1 d2 m b (fun z => TieB R lt d1[i]! z) (by rw [p1.1]; exact hb) p2 (fun q g g' => ?_) j h3 h4
    exact tie_mix ht (Nat.zero_le _) hm hb p1 i q h1 h2 g g'
  exact ⟨fun i j h1 h2 h3 => by rw [p2.2.1 i (.inl (by omega)), p2.2.1 j (.inl h3)]; exact o1 i j h1 h2 h3, o2, fun i j h1 h2 h3 h4 h5 => (hc i j h1 h2 h3 h4).1 h5, fun i j h1 h2 h3 h4 h5 => (hc i j h1 h2 h3 h4).2 h5⟩
theorem tie_later {d1 : Array α} (ht : Tie R lt d 0 b) (p1 : PermIn 0 m d d1) : Tie R lt d1 m b := fun i j h1 h2 h3 => by
  rw [p1.2.1 i (.inr h1), p1.2.1 j (.inr (by omega))]
  exact ht i j (Nat.zero_le _) h2 h3
end Go.Proofs.Ytajlddgemkkcdaa
