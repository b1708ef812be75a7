/- What the calls leave of the pages: the mathematics; the contracts of the law's small and few. Conditions stand in each theorem. -/
import Derived.Test.YtddejcoagcaidaaAA
namespace Go.Proofs.Ytddejcoagcaidaa
open Go.RowKit
set_option linter.unusedVariables false
set_option maxHeartbeats 2000000
set_option maxRecDepth 100000
/-- Page j of block i is programmed with x and y. -/
def Dev.holds (s : Dev) (i j : Nat) (x y : List UInt8) : Prop := i < s.nb ∧ j < s.np ∧ (s.bk i).pg[j]? = some ⟨2, x, y⟩
theorem put_pg (s : Dev) (i : Nat) (k : Bk) (j : Nat) : ((s.put i k).bk j).pg = if j = i then k.pg else (s.bk j).pg := by
  unfold Dev.put upd
  by_cases e : j = i <;> simp [e]
theorem snoc_some {l : List Pg} {j : Nat} {p q : Pg} (h : l[j]? = some q) : (l ++ [p])[j]? = some q := by
  have hj : j < l.length := by
    rcases Nat.lt_or_ge j l.length with h1 | h1
    · exact h1
    · rw [List.getElem?_eq_none h1] at h; cases h
  rw [List.getElem?_append_left hj]
  exact h
theorem nb_pr (s : Dev) (q p : Int) (x y : List UInt8) : (s.prS q p x y).nb = s.nb ∧ (s.prS q p x y).np = s.np ∧ (s.prS q p x y).sz = s.sz := by
  unfold Dev.prS Dev.exS
  split
  · split
    · exact ⟨rfl, rfl, rfl⟩
    · split <;> exact ⟨rfl, rfl, rfl⟩
  · exact ⟨rfl, rfl, rfl⟩
theorem nb_er (s : Dev) (q : Int) : (s.erS q).nb = s.nb ∧ (s.erS q).np = s.np ∧ (s.erS q).sz = s.sz := by
  unfold Dev.erS Dev.exS
  split
  · split
    · exact ⟨rfl, rfl, rfl⟩
    · split <;> exact ⟨rfl, rfl, rfl⟩
  · exact ⟨rfl, rfl, rfl⟩
theorem nb_cu (s : Dev) (o n : Int) : (s.cuS o n).nb = s.nb ∧ (s.cuS o n).np = s.np ∧ (s.cuS o n).sz = s.sz ∧ (s.cuS o n).bk = s.bk := by
  unfold Dev.cuS
  split <;> exact ⟨rfl, rfl, rfl, rfl⟩
theorem holds_cu {s : Dev} {i j : Nat} {x y : List UInt8} (h : s.holds i j x y) (o n : Int) : (s.cuS o n).holds i j x y := by
  obtain ⟨e1, e2, _, e3⟩ := nb_cu s o n
  unfold Dev.holds at *
  rw [e1, e2, e3]
  exact h
theorem holds_pr {s : Dev} {i j : Nat} {x y : List UInt8} (h : s.holds i j x y) (q p : Int) (u v : List UInt8) : (s.prS q p u v).holds i j x y := by
  obtain ⟨e1, e2, _⟩ := nb_pr s q p u v
  refine ⟨by rw [e1]; exact h.1, by rw [e2]; exact h.2.1, ?_⟩
  have h3 := h.2.2
  unfold Dev.prS Dev.exS
  have key : ∀ (s1 : Dev) (k : Bk) (P : Pg), s1.bk = s.bk → k.pg = (s.bk q.toNat).pg ++ [P] → ((s1.put q.toNat k).bk i).pg[j]? = some ⟨2, x, y⟩ := fun s1 k P e1 e2 => by
    rw [put_pg]
    by_cases e : i = q.toNat
    · rw [if_pos e, e2]
      rw [e] at h3
      exact snoc_some h3
    · rw [if_neg e, e1]
      exact h3
  split
  · split
    · exact key _ _ _ rfl rfl
    · split <;> exact key _ _ _ rfl rfl
  · exact h3
theorem ffAll_full {l : List UInt8} {n : Nat} (h : l.length ≤ n) : ffAll l n = l := if_neg (by omega)
theorem prog_holds {s : Dev} {q p : Int} {x y : List UInt8} (h : s.prE q p x y = 0) : ∃ i j : Nat, q = i ∧ p = j ∧ (s.prS q p x y).holds i j x y := by
  unfold Dev.prE at h
  cases h1 : s.okB q p x y
  · rw [if_pos h1] at h; cases h
  · rw [if_neg (by rw [h1]; simp)] at h
    cases h2 : s.off
    · rw [if_neg (by rw [h2]; simp)] at h
      by_cases h3 : p = s.nx q
      · rw [if_neg (by simp [h3])] at h
        obtain ⟨h4, h5, h6⟩ := okB_parts h1
        obtain ⟨i, j, rfl, rfl, hi, hj⟩ := hasP_nat h4
        refine ⟨i, j, rfl, rfl, ?_⟩
        obtain ⟨n1, n2, _⟩ := nb_pr s (i : Int) (j : Int) x y
        refine ⟨by rw [n1]; exact hi, by rw [n2]; exact hj, ?_⟩
        rw [nx_nat hi] at h3
        have hjl : j = (s.bk i).pg.length := by omega
        unfold Dev.exE at h
        have h7 : ¬ s.n = s.po := fun e => by rw [if_pos e] at h; cases h
        rw [if_neg h7] at h
        have h8 : s.F.contains s.n = false := by
          cases e : s.F.contains s.n
          · rfl
          · rw [if_pos e] at h; cases h
        unfold Dev.prS
        rw [if_pos ⟨h1, h2, by rw [nx_nat hi]; exact h3⟩]
        unfold Dev.exS
        rw [if_neg h7, if_neg (by rw [h8]; simp), put_pg, show ((i : Int)).toNat = i from rfl, if_pos rfl]
        show ((s.bk i).pg ++ [wr x y (x.length + y.length)])[j]? = _
        rw [hjl, List.getElem?_append_right (Nat.le_refl _), Nat.sub_self]
        have hl : (x ++ y).length ≤ x.length + y.length := by rw [List.length_append]; exact Nat.le_refl _
        unfold wr
        rw [ffAll_full hl, if_neg (by omega), List.take_left' rfl, List.drop_left' rfl]
        rfl
      · rw [if_pos h3] at h; cases h
    · rw [if_pos h2] at h; cases h
/-- Erase executes an operation, or it changes nothing. -/
theorem er_same {s : Dev} {q : Int} (h : ¬ s.n < (s.erS q).n) : s.erS q = s := by
  unfold Dev.erS at *
  split
  · rename_i hc
    rw [if_pos hc, n_ex] at h
    exact absurd (show s.n < s.n + 1 by omega) h
  · rfl
theorem er_has {s : Dev} {q : Int} (h : s.n < (s.erS q).n) : ∃ i : Nat, q = i ∧ i < s.nb := by
  unfold Dev.erS at h
  split at h
  · rename_i hc
    exact hasB_nat hc.1
  · exact absurd h (by omega)
theorem holds_er {s : Dev} {i j : Nat} {x y : List UInt8} (h : s.holds i j x y) {q : Int} (hq : q ≠ i) : (s.erS q).holds i j x y := by
  obtain ⟨e1, e2, _⟩ := nb_er s q
  refine ⟨by rw [e1]; exact h.1, by rw [e2]; exact h.2.1, ?_⟩
  have h3 := h.2.2
  unfold Dev.erS Dev.exS
  split
  · rename_i hc
    obtain ⟨k, rfl, hk⟩ := hasB_nat hc.1
    have hne : i ≠ k := fun e => hq (by rw [e])
    rw [show ((k : Int)).toNat = k from rfl]
    have e4 : (((s.e1 k).bk i).pg)[j]? = some ⟨2, x, y⟩ := by
      unfold Dev.e1
      rw [put_pg, if_neg hne]
      exact h3
    split
    · rw [put_pg, if_neg hne]; exact e4
    · split <;> (rw [put_pg, if_neg hne]; exact e4)
  · exact h3
theorem holds_rd {s : Dev} {i j : Nat} {x y : List UInt8} (h : s.holds i j x y) (ho : s.off = false) : s.rdE (i : Int) (j : Int) = 0 ∧ s.rdD (i : Int) (j : Int) = x ∧ s.rdS (i : Int) (j : Int) = y ∧ s.stt (i : Int) (j : Int) = 2 ∧ (j : Int) < s.nx (i : Int) := by
  obtain ⟨h1, h2, h3⟩ := h
  have hp := hasP_of h1 h2
  have hst : s.stt (i : Int) (j : Int) = 2 := by
    unfold Dev.stt
    rw [if_neg (by rw [hp]; simp)]
    show (match (s.bk i).pg[j]? with | some x => x.st | none => 1) = 2
    rw [h3]
  have hE : s.rdE (i : Int) (j : Int) = 0 := by
    unfold Dev.rdE
    rw [if_neg (by rw [hp]; simp), if_neg (by rw [ho]; simp), hst]
    decide
  have hpa : s.pgAt (i : Int) (j : Int) = ⟨2, x, y⟩ := by
    unfold Dev.pgAt
    show ((s.bk i).pg[j]?).getD _ = _
    rw [h3]; rfl
  refine ⟨hE, ?_, ?_, hst, ?_⟩
  · unfold Dev.rdD; rw [if_pos hE, hpa]
  · unfold Dev.rdS; rw [if_pos hE, hpa]
  · rw [nx_nat h1]
    have : j < (s.bk i).pg.length := by
      rcases Nat.lt_or_ge j (s.bk i).pg.length with h4 | h4
      · exact h4
      · rw [List.getElem?_eq_none h4] at h3; cases h3
    omega
end Go.Proofs.Ytddejcoagcaidaa
