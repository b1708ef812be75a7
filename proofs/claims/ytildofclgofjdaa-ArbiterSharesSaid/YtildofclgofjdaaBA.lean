/- Words for ArbiterBounds: queues that were added with classes in turn. Conditions stand in each theorem. -/
import Derived.Test.YtildofclgofjdaaO
namespace Go.Proofs.Ytildofclgofjdaa
open Go.RowKit
set_option linter.unusedVariables false
set_option maxHeartbeats 400000
set_option maxRecDepth 100000
/-- The first k loads' queues are the entries L, with classes in turn. -/
structure BQ (l : List (Int × Int)) (k : Nat) (L : List (Int × Int)) : Prop where
  srt : Srt L
  at_ : ∀ i (h : i < l.length), i < k → look L l[i].1 = some ((i % 4 : Nat) : Int) ∧ 0 ≤ l[i].2
  dis : ∀ i j (hi : i < l.length) (hj : j < l.length), i < j → j < k → l[i].1 ≠ l[j].1
theorem BQ.start (l : List (Int × Int)) : BQ l 0 [] := ⟨Srt.nil, fun i _ h => absurd h (by omega), fun i j _ _ _ h => absurd h (by omega)⟩
theorem addE_zero {L : List (Int × Int)} {q c : Int} (h : addE L q c = 0) : numB q = true ∧ 0 ≤ c ∧ c ≤ 3 ∧ look L q = none := by
  unfold addE at h
  split at h
  · cases h
  · rename_i h1
    split at h
    · cases h
    · rename_i h2
      refine ⟨?_, ?_, ?_, ?_⟩
      · cases e : numB q; exact absurd (.inl e) h1; rfl
      · rcases Int.lt_or_le c 0 with h3 | h3; exact absurd (.inr (.inl h3)) h1; exact h3
      · rcases Int.lt_or_le 3 c with h3 | h3; exact absurd (.inr (.inr h3)) h1; exact h3
      · cases e : look L q; rfl; rw [e] at h2; exact absurd rfl h2
theorem BQ.step {l : List (Int × Int)} {k : Nat} {L : List (Int × Int)} (h : BQ l k L) (hk : k < l.length) (he : addE L l[k].1 ((k % 4 : Nat) : Int) = 0) (hn : 0 ≤ l[k].2) : BQ l (k + 1) (addL L l[k].1 ((k % 4 : Nat) : Int)) := by
  obtain ⟨h1, h2, h3, h4⟩ := addE_zero he
  rw [addL_yes he]
  refine ⟨by rw [← addL_yes he]; exact h.srt.add _ _, fun i hi hik => ?_, fun i j hi hj hij hjk => ?_⟩
  · rw [look_ins _ _ _ h4]
    by_cases e : i = k
    · subst e
      exact ⟨by rw [if_pos rfl], hn⟩
    · have h5 := h.at_ i hi (by omega)
      have hne : l[k].1 ≠ l[i].1 := by intro e'; rw [e', h5.1] at h4; cases h4
      exact ⟨by rw [if_neg hne]; exact h5.1, h5.2⟩
  · by_cases e : j = k
    · subst e
      have h5 := h.at_ i hi (by omega)
      intro e'
      rw [← e', h5.1] at h4
      cases h4
    · exact h.dis i j hi hj hij (by omega)
theorem BQ.acc {l : List (Int × Int)} {L : List (Int × Int)} (h : BQ l l.length L) : acc L [] l = true := by
  have key : ∀ (m : List (Int × Int)) (seen : List Int), (∀ p ∈ m, (look L p.1).isSome = true ∧ 0 ≤ p.2) → (m.map (·.1)).Nodup → (∀ p ∈ m, p.1 ∉ seen) → Ytildofclgofjdaa.acc L seen m = true := by
    intro m
    induction m with
    | nil => intro _ _ _ _; rfl
    | cons p r ih =>
      intro seen h1 h2 h3
      rw [List.map_cons, List.nodup_cons] at h2
      rw [acc_yes (h1 p List.mem_cons_self).1 (h1 p List.mem_cons_self).2 (by simpa using h3 p List.mem_cons_self)]
      refine ih _ (fun x hx => h1 x (List.mem_cons_of_mem _ hx)) h2.2 (fun x hx => ?_)
      rw [List.mem_cons]
      rintro (e | e)
      · exact h2.1 (List.mem_map.2 ⟨x, hx, e⟩)
      · exact h3 x (List.mem_cons_of_mem _ hx) e
  refine key _ _ (fun p hp => ?_) ?_ (fun _ _ h => by cases h)
  · obtain ⟨i, hi, rfl⟩ := List.getElem_of_mem hp
    have := h.at_ i hi hi
    exact ⟨by rw [this.1]; rfl, this.2⟩
  · refine List.pairwise_iff_getElem.2 (fun i j hi hj hij => ?_)
    rw [List.length_map] at hi hj
    rw [List.getElem_map, List.getElem_map]
    exact h.dis i j hi hj hij hj
/-- Does an urgent queue among the first k have waiting commands? -/
def urgF (l : List (Int × Int)) : Nat → Bool
  | 0 => false
  | k + 1 => urgF l k || (k % 4 == 0 && decide (0 < (l.getD k (0, 0)).2))
theorem urgF_some {l : List (Int × Int)} {k : Nat} (h : urgF l k = true) (hk : k ≤ l.length) : ∃ i, ∃ h : i < l.length, i < k ∧ i % 4 = 0 ∧ 0 < l[i].2 := by
  induction k with
  | zero => cases h
  | succ k ih =>
    unfold urgF at h
    rw [Bool.or_eq_true, Bool.and_eq_true] at h
    rcases h with h | h
    · obtain ⟨i, hi, h1, h2⟩ := ih h (by omega)
      exact ⟨i, hi, by omega, h2⟩
    · refine ⟨k, by omega, by omega, by simpa using h.1, ?_⟩
      have := h.2
      simp [show k < l.length by omega] at this
      exact this
/-- What a pick must keep to. -/
theorem bounds_pick {s : St} {l : List (Int × Int)} (h : Ok s) (hb : BQ l l.length s.L) (hc : anyB l = true) : ∃ i0, ∃ h : i0 < l.length, l[i0].1 = (s.pkP l).1 ∧ s.pkM l ≤ l[i0].2 ∧ (s.wt = true → urgF l l.length = true → i0 % 4 = 0) := by
  have hm := pkP_mem h hc
  have hw := hm
  unfold St.wait at hw
  rw [List.mem_filter] at hw
  obtain ⟨i0, hi0, e0⟩ := List.getElem_of_mem hw.1
  refine ⟨i0, hi0, by rw [e0], by rw [e0]; exact (pkM_range h hc).2.1, fun hwt hu => ?_⟩
  obtain ⟨i, hi, _, h4, hp⟩ := urgF_some hu (Nat.le_refl _)
  have hcls : ∀ j (hj : j < l.length), s.cls l[j].1 = ((j % 4 : Nat) : Int) := fun j hj => by
    unfold St.cls
    rw [hwt, if_pos rfl, (hb.at_ j hj hj).1]
    rfl
  have h0 : 0 < s.cnt l 0 := by
    unfold St.cnt
    rw [List.length_pos_iff_exists_mem]
    refine ⟨l[i], ?_⟩
    unfold St.wait
    rw [List.mem_filter]
    refine ⟨List.getElem_mem hi, ?_⟩
    simp only [Bool.and_eq_true, decide_eq_true_eq, beq_iff_eq]
    exact ⟨hp, by rw [hcls i hi, h4]⟩
  have hC : s.pkC l = 0 := by unfold St.pkC St.chC; rw [if_pos h0]
  have h5 := hw.2
  simp only [Bool.and_eq_true, beq_iff_eq] at h5
  have h6 := h5.2
  rw [← e0, hcls i0 hi0, hC] at h6
  omega
end Go.Proofs.Ytildofclgofjdaa
