/- Mathematics of the reference's Pick: its two slices, the accepted loads, the classes that wait. Conditions stand in each theorem. Mathematics of the reference's Pick: the queue that its last loop finds. Conditions stand in each theorem. -/
import Derived.Test.YtildofclgofjdaaZE
namespace Go.Proofs.Ytildofclgofjdaa
section
set_option linter.unusedVariables false
theorem look_append (a b : List (Int × Int)) (q : Int) : look (a ++ b) q = (look a q).or (look b q) := by
  induction a with
  | nil => simp [look]
  | cons p r ih =>
    rw [List.cons_append, look_cons, look_cons, ih]
    split <;> simp
/-- What the reference's two slices hold behind the loads l. -/
def nsOf (L l : List (Int × Int)) : List Int := L.map fun p => (look l p.1).getD 0
def snOf (L l : List (Int × Int)) : List Bool := L.map fun p => (look l p.1).isSome
theorem nsOf_length (L l : List (Int × Int)) : (nsOf L l).length = L.length := by simp [nsOf]
theorem snOf_length (L l : List (Int × Int)) : (snOf L l).length = L.length := by simp [snOf]
theorem srt_inj {L : List (Int × Int)} (hs : Srt L) {i j : Nat} (hi : i < L.length) (hj : j < L.length) (h : L[i].1 = L[j].1) : i = j := by
  have hp := List.pairwise_iff_getElem.1 hs.1
  rcases Nat.lt_trichotomy i j with h1 | h1 | h1
  · have := hp i j hi hj h1; omega
  · exact h1
  · have := hp j i hj hi h1; omega
theorem nsOf_snoc {L l : List (Int × Int)} (hs : Srt L) {x : Int × Int} {k : Nat} (hk : k < L.length) (he : L[k].1 = x.1) (hn : look l x.1 = none) : nsOf L (l ++ [x]) = (nsOf L l).set k x.2 := by
  apply List.ext_getElem
  · simp [nsOf]
  · intro i h1 h2
    have hi : i < L.length := by simpa [nsOf] using h1
    rw [List.getElem_set]
    simp only [nsOf, List.getElem_map, look_append]
    split
    · rename_i e
      subst e
      rw [he, hn]
      simp [look]
    · rename_i e
      have hne : ¬ x.1 = L[i].1 := fun h => e (srt_inj hs hk hi (he.trans h))
      have : look [x] L[i].1 = none := by rw [look_cons, if_neg hne]; rfl
      rw [this]
      simp
theorem snOf_snoc {L l : List (Int × Int)} (hs : Srt L) {x : Int × Int} {k : Nat} (hk : k < L.length) (he : L[k].1 = x.1) : snOf L (l ++ [x]) = (snOf L l).set k true := by
  apply List.ext_getElem
  · simp [snOf]
  · intro i h1 h2
    have hi : i < L.length := by simpa [snOf] using h1
    rw [List.getElem_set]
    simp only [snOf, List.getElem_map, look_append]
    split
    · rename_i e
      subst e
      have : look [x] L[k].1 = some x.2 := by rw [look_cons, if_pos he.symm]
      rw [this]
      cases look l L[k].1 <;> rfl
    · rename_i e
      have hne : ¬ x.1 = L[i].1 := fun h => e (srt_inj hs hk hi (he.trans h))
      have : look [x] L[i].1 = none := by rw [look_cons, if_neg hne]; rfl
      rw [this]
      simp
/-- The loads are accepted if each is, with those before it. -/
theorem acc_iff (L : List (Int × Int)) : ∀ (l : List (Int × Int)) (seen : List Int), acc L seen l = true ↔ ∀ i (hi : i < l.length), (look L l[i].1).isSome = true ∧ 0 ≤ l[i].2 ∧ seen.contains l[i].1 = false ∧ look (l.take i) l[i].1 = none
  | [], seen => by simp [acc]
  | p :: r, seen => by
    constructor
    · intro h
      by_cases hb : (look L p.1).isSome = false ∨ p.2 < 0 ∨ seen.contains p.1 = true
      · rw [acc_no hb] at h; cases h
      · have h1 : (look L p.1).isSome = true := by cases e : (look L p.1).isSome; exact absurd (.inl e) hb; rfl
        have h2 : 0 ≤ p.2 := by rcases Int.lt_or_le p.2 0 with h | h; exact absurd (.inr (.inl h)) hb; exact h
        have h3 : seen.contains p.1 = false := by cases e : seen.contains p.1; rfl; exact absurd (.inr (.inr e)) hb
        rw [acc_yes h1 h2 h3] at h
        have ih := (acc_iff L r (p.1 :: seen)).1 h
        intro i hi
        cases i with
        | zero => exact ⟨h1, h2, h3, rfl⟩
        | succ i =>
          obtain ⟨a1, a2, a3, a4⟩ := ih i (by simpa using hi)
          rw [List.contains_cons, Bool.or_eq_false_iff] at a3
          refine ⟨a1, a2, a3.2, ?_⟩
          rw [List.take_succ_cons, List.getElem_cons_succ, look_cons, if_neg (fun e => by have := a3.1; simp at this; exact this e.symm)]
          exact a4
    · intro h
      obtain ⟨h1, h2, h3, _⟩ := h 0 (by simp)
      rw [List.getElem_cons_zero] at h1 h2 h3
      rw [acc_yes h1 h2 h3]
      refine (acc_iff L r (p.1 :: seen)).2 fun i hi => ?_
      obtain ⟨a1, a2, a3, a4⟩ := h (i + 1) (by simpa using hi)
      rw [List.take_succ_cons, List.getElem_cons_succ, look_cons] at a4
      have hne : ¬ p.1 = r[i].1 := by
        intro e
        rw [if_pos e] at a4
        cases a4
      rw [if_neg hne] at a4
      refine ⟨a1, a2, ?_, a4⟩
      rw [List.contains_cons, Bool.or_eq_false_iff]
      exact ⟨by simp; exact fun e => hne e.symm, a3⟩
/-- In accepted loads each number stands once. -/
theorem look_acc {L l : List (Int × Int)} (h : acc L [] l = true) {p : Int × Int} (hp : p ∈ l) : look l p.1 = some p.2 := by
  obtain ⟨i, hi, rfl⟩ := List.mem_iff_getElem.1 hp
  obtain ⟨_, _, _, h4⟩ := (acc_iff L l []).1 h i hi
  have e : l = l.take i ++ l[i] :: l.drop (i + 1) := by
    rw [← List.drop_eq_getElem_cons hi]
    exact (List.take_append_drop i l).symm
  have e2 : look l l[i].1 = look (l.take i ++ l[i] :: l.drop (i + 1)) l[i].1 := congrArg (fun x => look x l[i].1) e
  rw [e2, look_append, h4, look_cons, if_pos rfl]
  rfl
theorem look_idx {L : List (Int × Int)} {q : Int} (h : (look L q).isSome = true) : ∃ (k : Nat) (hk : k < L.length), L[k].1 = q := by
  cases e : look L q with
  | none => rw [e] at h; cases h
  | some c =>
    obtain ⟨k, hk, hx⟩ := List.mem_iff_getElem.1 (look_mem e)
    exact ⟨k, hk, by rw [hx]⟩
theorem nsOf_at {L l : List (Int × Int)} {k : Nat} (hk : k < L.length) : (nsOf L l).getD k 0 = (look l L[k].1).getD 0 := by
  simp [nsOf, List.getD, hk]
/-- A class waits in the reference's slice if it does among the loads. -/
theorem waB_cnt {s : St} (hs : Srt s.L) {l : List (Int × Int)} (h : acc s.L [] l = true) (c : Nat) : waB s (nsOf s.L l) (c : Int) = decide (0 < s.cnt l c) := by
  by_cases hc : 0 < s.cnt l c
  · rw [decide_eq_true hc]
    obtain ⟨p, hp⟩ := List.exists_mem_of_length_pos (show 0 < (s.wait l c).length from hc)
    unfold St.wait at hp
    obtain ⟨hpl, hpc⟩ := List.mem_filter.1 hp
    rw [Bool.and_eq_true, decide_eq_true_eq, beq_iff_eq] at hpc
    obtain ⟨i, hi, hx⟩ := List.mem_iff_getElem.1 hpl
    have hsome := ((acc_iff s.L l []).1 h i hi).1
    rw [hx] at hsome
    obtain ⟨k, hk, he⟩ := look_idx hsome
    refine waB_yes hk ?_ (by rw [he]; exact hpc.2)
    rw [nsOf_at hk, he, look_acc h hpl]
    exact hpc.1
  · rw [decide_eq_false hc]
    refine waB_no fun k hk h1 h2 => hc ?_
    rw [nsOf_at hk] at h1
    cases e : look l s.L[k].1 with
    | none => rw [e] at h1; simp at h1
    | some n =>
      rw [e] at h1
      have hm := look_mem e
      refine List.length_pos_of_mem (a := (s.L[k].1, n)) ?_
      unfold St.wait
      exact List.mem_filter.2 ⟨hm, by rw [Bool.and_eq_true, decide_eq_true_eq, beq_iff_eq]; exact ⟨by simpa using h1, h2⟩⟩
end
section
set_option linter.unusedVariables false
/-- Queue i has waiting commands and counts as class c. -/
def Cand (s : St) (ns : List Int) (c : Int) (i : Nat) : Prop := ns.getD i 0 ≠ 0 ∧ s.cls (s.L.getD i (0, 0)).1 = c
/-- What the loop has found behind i queues. -/
def BestI (s : St) (ns : List Int) (c last : Int) (i : Nat) (b : Int) : Prop :=
  (b = -1 ∧ ∀ j, j < s.L.length → j < i → ¬ Cand s ns c j) ∨
    ∃ k : Nat, k < s.L.length ∧ b = (k : Int) ∧ k < i ∧ Cand s ns c k ∧ ∀ j, j < s.L.length → j < i → Cand s ns c j → j = k ∨ rk last (s.L.getD k (0, 0)).1 < rk last (s.L.getD j (0, 0)).1
theorem rk_lt {last x y : Int} (hl : -1 ≤ last ∧ last ≤ 65535) (hx : 0 ≤ x ∧ x ≤ 65535) (hy : 0 ≤ y ∧ y ≤ 65535) (h : (last < x ∧ y ≤ last) ∨ (x < y ∧ (last < x ∨ y ≤ last))) : rk last x < rk last y := by
  unfold rk
  omega
section
variable {s : St} {ns : List Int} {c last b : Int} {i : Nat}
theorem BestI.zero : BestI s ns c last 0 (-1) := .inl ⟨rfl, fun j _ h => absurd h (by omega)⟩
theorem BestI.skip (h : BestI s ns c last i b) (hc : ¬ Cand s ns c i) : BestI s ns c last (i + 1) b := by
  rcases h with ⟨rfl, h⟩ | ⟨k, hk, rfl, hki, hck, h⟩
  · refine .inl ⟨rfl, fun j hj hji => ?_⟩
    rcases Nat.lt_or_ge j i with h1 | h1
    · exact h j hj h1
    · have : j = i := by omega
      subst this
      exact hc
  · refine .inr ⟨k, hk, rfl, by omega, hck, fun j hj hji hcj => ?_⟩
    rcases Nat.lt_or_ge j i with h1 | h1
    · exact h j hj h1 hcj
    · have : j = i := by omega
      subst this
      exact absurd hcj hc
theorem srt_at {L : List (Int × Int)} (hs : Srt L) {j : Nat} (hj : j < L.length) : 0 ≤ (L.getD j (0, 0)).1 ∧ (L.getD j (0, 0)).1 ≤ 65535 := by
  have e : L.getD j (0, 0) = L[j] := by simp [List.getD, hj]
  rw [e]
  have := hs.2 _ (List.getElem_mem hj)
  exact ⟨this.1, this.2.1⟩
theorem srt_lt {L : List (Int × Int)} (hs : Srt L) {i j : Nat} (hj : j < L.length) (h : i < j) : (L.getD i (0, 0)).1 < (L.getD j (0, 0)).1 := by
  have hi : i < L.length := by omega
  have e : L.getD j (0, 0) = L[j] := by simp [List.getD, hj]
  have e2 : L.getD i (0, 0) = L[i] := by simp [List.getD, hi]
  rw [e, e2]
  exact List.pairwise_iff_getElem.1 hs.1 i j hi hj h
theorem BestI.first (h : BestI s ns c last i (-1)) (hi : i < s.L.length) (hc : Cand s ns c i) : BestI s ns c last (i + 1) (i : Int) := by
  rcases h with ⟨_, h⟩ | ⟨k, hk, e, _⟩
  · refine .inr ⟨i, hi, rfl, by omega, hc, fun j hj hji hcj => ?_⟩
    rcases Nat.lt_or_ge j i with h1 | h1
    · exact absurd hcj (h j hj h1)
    · exact .inl (by omega)
  · omega
theorem BestI.better (hs : Srt s.L) (hl : -1 ≤ last ∧ last ≤ 65535) {k : Nat} (h : BestI s ns c last i (k : Int)) (hi : i < s.L.length) (hc : Cand s ns c i) (h1 : (s.L.getD k (0, 0)).1 ≤ last) (h2 : last < (s.L.getD i (0, 0)).1) : BestI s ns c last (i + 1) (i : Int) := by
  rcases h with ⟨e, _⟩ | ⟨k', hk, e, hki, hck, h⟩
  · omega
  · have : k' = k := by omega
    subst this
    have r := rk_lt hl (srt_at hs hi) (srt_at hs hk) (.inl ⟨h2, h1⟩)
    refine .inr ⟨i, hi, rfl, by omega, hc, fun j hj hji hcj => ?_⟩
    rcases Nat.lt_or_ge j i with h3 | h3
    · rcases h j hj h3 hcj with rfl | h4
      · exact .inr r
      · exact .inr (by omega)
    · exact .inl (by omega)
theorem BestI.worse (hs : Srt s.L) (hl : -1 ≤ last ∧ last ≤ 65535) {k : Nat} (h : BestI s ns c last i (k : Int)) (hi : i < s.L.length) (hn : ¬ ((s.L.getD k (0, 0)).1 ≤ last ∧ last < (s.L.getD i (0, 0)).1)) : BestI s ns c last (i + 1) (k : Int) := by
  rcases h with ⟨e, _⟩ | ⟨k', hk, e, hki, hck, h⟩
  · omega
  · have : k' = k := by omega
    subst this
    have hlt := srt_lt hs hi hki
    have r := rk_lt hl (srt_at hs hk) (srt_at hs hi) (.inr ⟨hlt, by omega⟩)
    refine .inr ⟨k', hk, rfl, by omega, hck, fun j hj hji hcj => ?_⟩
    rcases Nat.lt_or_ge j i with h3 | h3
    · exact h j hj h3 hcj
    · have : j = i := by omega
      subst this
      exact .inr r
end
/-- At the end it is the lowest one of those that wait. -/
theorem BestI.last {s : St} (hs : Srt s.L) {l : List (Int × Int)} (ha : acc s.L [] l = true) {c : Nat} {la b : Int} (h : BestI s (nsOf s.L l) (c : Int) la s.L.length b) (hw : 0 < (s.wait l c).length) :
    ∃ (k : Nat) (hk : k < s.L.length), b = (k : Int) ∧ low la (s.wait l c) = (s.L[k].1, (nsOf s.L l).getD k 0) := by
  have cand : ∀ p ∈ s.wait l c, ∃ (j : Nat) (hj : j < s.L.length), s.L[j].1 = p.1 ∧ (nsOf s.L l).getD j 0 = p.2 ∧ Cand s (nsOf s.L l) (c : Int) j := by
    intro p hp
    unfold St.wait at hp
    obtain ⟨hpl, hpc⟩ := List.mem_filter.1 hp
    rw [Bool.and_eq_true, decide_eq_true_eq, beq_iff_eq] at hpc
    obtain ⟨i, hi, hx⟩ := List.mem_iff_getElem.1 hpl
    have hsome := ((acc_iff s.L l []).1 ha i hi).1
    rw [hx] at hsome
    obtain ⟨j, hj, he⟩ := look_idx hsome
    have e : s.L.getD j (0, 0) = s.L[j] := by simp [List.getD, hj]
    have en : (nsOf s.L l).getD j 0 = p.2 := by rw [nsOf_at hj, he, look_acc ha hpl]; rfl
    exact ⟨j, hj, he, en, by rw [en]; omega, by rw [e, he]; exact hpc.2⟩
  have back : ∀ j (hj : j < s.L.length), Cand s (nsOf s.L l) (c : Int) j → (s.L[j].1, (nsOf s.L l).getD j 0) ∈ s.wait l c := by
    intro j hj ⟨h1, h2⟩
    have e : s.L.getD j (0, 0) = s.L[j] := by simp [List.getD, hj]
    rw [e] at h2
    rw [nsOf_at hj] at h1 ⊢
    cases e3 : look l s.L[j].1 with
    | none => rw [e3] at h1; exact absurd rfl h1
    | some n =>
      rw [e3] at h1
      have hm := look_mem e3
      have h0 : 0 ≤ n := by
        obtain ⟨i, hi, hx⟩ := List.mem_iff_getElem.1 hm
        have := ((acc_iff s.L l []).1 ha i hi).2.1
        rw [hx] at this
        exact this
      have hne : n ≠ 0 := h1
      unfold St.wait
      exact List.mem_filter.2 ⟨hm, by rw [Bool.and_eq_true, decide_eq_true_eq, beq_iff_eq]; exact ⟨by show 0 < n; omega, h2⟩⟩
  obtain ⟨p, hp⟩ := List.exists_mem_of_length_pos hw
  obtain ⟨j0, hj0, _, _, hc0⟩ := cand p hp
  rcases h with ⟨_, h⟩ | ⟨k, hk, rfl, _, hck, h⟩
  · exact absurd hc0 (h j0 hj0 hj0)
  · refine ⟨k, hk, rfl, low_is (back k hk hck) fun y hy => ?_⟩
    obtain ⟨j, hj, he, en, hcj⟩ := cand y hy
    rcases h j hj hj hcj with rfl | h1
    · exact .inl (Prod.ext he.symm en.symm)
    · right
      have e : s.L.getD j (0, 0) = s.L[j] := by simp [List.getD, hj]
      have e2 : s.L.getD k (0, 0) = s.L[k] := by simp [List.getD, hk]
      rw [e, e2, he] at h1
      exact h1
end
end Go.Proofs.Ytildofclgofjdaa
