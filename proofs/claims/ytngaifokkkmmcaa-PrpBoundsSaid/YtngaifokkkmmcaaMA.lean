/- The spans of what Build returned. Conditions stand in each theorem. -/
import Derived.Test.YtngaifokkkmmcaaCE
namespace Go.Proofs.Ytngaifokkkmmcaa
open Go.RowKit Go.Shelf
set_option linter.unusedVariables false
set_option maxHeartbeats 4000000
set_option maxRecDepth 100000
/-- The spans of r bytes at these addresses, and what is left of r. -/
def spl : Nat → List Nat → List (Nat × Nat)
  | _, [] => []
  | r, x :: xs => (x, min r (te x)) :: spl (r - min r (te x)) xs
def rst : Nat → List Nat → Nat
  | r, [] => r
  | r, x :: xs => rst (r - min r (te x)) xs
theorem spl_snoc : ∀ (l : List Nat) (r x : Nat), spl r (l ++ [x]) = spl r l ++ [(x, min (rst r l) (te x))]
  | [], r, x => rfl
  | y :: l, r, x => by simp only [List.cons_append, spl, rst, spl_snoc l]
theorem rst_snoc : ∀ (l : List Nat) (r x : Nat), rst r (l ++ [x]) = rst r l - min (rst r l) (te x)
  | [], r, x => rfl
  | y :: l, r, x => by simp only [List.cons_append, rst, rst_snoc l]
theorem spl_length : ∀ (l : List Nat) (r : Nat), (spl r l).length = l.length
  | [], r => rfl
  | y :: l, r => by simp only [spl, List.length_cons, spl_length l]
theorem spK_pages {m : Mm} {fs sc n : Nat} (ps : List Nat) (A : Nat → Nat) (hfs : fs % 4 = 0) (hps : ∀ x ∈ ps, x % 4096 = 0) (h1 : ps.length = 1 → ps = [sc])
    (h2 : 2 ≤ ps.length → sc % 8 = 0 ∧ A 0 = sc ∧ ∀ j (h : j < ps.length), lstE m (A j) (ps.length - j) = .ok (ps[j], A (j + 1))) (hin : ∀ x ∈ fs :: ps, x + te x ≤ m.B.length) :
    ∀ k, k ≤ ps.length + 1 → spK m fs sc (ps.length + 1) n k = .ok (if k ≤ 1 ∨ ps.length ≤ 1 then 0 else A (k - 1), spl n ((fs :: ps).take k), rst n ((fs :: ps).take k))
  | 0, _ => rfl
  | k + 1, hk => by
    have ih := spK_pages (n := n) ps A hfs hps h1 h2 hin k (by omega)
    have hkl : k < (fs :: ps).length := by simp; omega
    have key : pgE m fs sc (ps.length + 1) k (if k ≤ 1 ∨ ps.length ≤ 1 then 0 else A (k - 1)) = .ok ((fs :: ps)[k], if k + 1 ≤ 1 ∨ ps.length ≤ 1 then 0 else A (k + 1 - 1)) := by
      unfold pgE
      cases k with
      | zero => rw [if_pos rfl, if_pos hfs]; rfl
      | succ j =>
        rw [if_neg (by omega)]
        have hj : j < ps.length := by omega
        have e0 : (fs :: ps)[j + 1] = ps[j] := rfl
        rw [e0]
        by_cases hc : ps.length = 1
        · have hp := h1 hc
          have hj0 : j = 0 := by omega
          subst hj0
          have e1 : ps[0] = sc := by simp [hp]
          have e2 := hps ps[0] (List.getElem_mem hj)
          rw [if_pos (by omega), e1] 
          rw [e1] at e2
          rw [if_pos e2, if_pos (.inl (by omega)), if_pos (.inr (by omega))]
        · obtain ⟨g1, g2, g3⟩ := h2 (by omega)
          rw [if_neg (by omega), if_neg (by omega)]
          have e1 : (if j + 1 = 1 then sc else if j + 1 ≤ 1 ∨ ps.length ≤ 1 then 0 else A (j + 1 - 1)) = A j := by
            by_cases hj0 : j = 0
            · subst hj0; rw [if_pos rfl, g2]
            · rw [if_neg (by omega), if_neg (by omega)]; rfl
          rw [e1, show ps.length + 1 - (j + 1) = ps.length - j by omega, g3 j hj]
          simp only
          rw [if_pos (hps _ (List.getElem_mem hj)), if_neg (by omega)]
          rfl
    unfold spK
    rw [ih]
    simp only [key]
    have hx := hin _ (List.getElem_mem hkl)
    have hz : m.chk (fs :: ps)[k] ((min (rst n ((fs :: ps).take k)) (te (fs :: ps)[k]) : Nat) : Int) = 0 := Mm.chk_of (by omega)
    rw [if_pos hz, List.take_succ_eq_append_getElem hkl, spl_snoc, rst_snoc]
theorem spE_pages {m : Mm} {fs sc n : Nat} (ps : List Nat) (A : Nat → Nat) (hfs : fs % 4 = 0) (hps : ∀ x ∈ ps, x % 4096 = 0) (h1 : ps.length = 1 → ps = [sc])
    (h2 : 2 ≤ ps.length → sc % 8 = 0 ∧ A 0 = sc ∧ ∀ j (h : j < ps.length), lstE m (A j) (ps.length - j) = .ok (ps[j], A (j + 1))) (hin : ∀ x ∈ fs :: ps, x + te x ≤ m.B.length)
    (hn : n ≤ 1048576) (hc : cnt fs (n : Int) = ps.length + 1) : spE m fs sc (n : Int) = .ok (spl n (fs :: ps)) := by
  unfold spE
  rw [if_neg (by omega), hc, Int.toNat_natCast, spK_pages ps A hfs hps h1 h2 hin (ps.length + 1) (Nat.le_refl _)]
  simp only
  rw [List.take_of_length_le (by simp)]
/-- One list. -/
theorem lst_one {m : Mm} {l0 : Nat} {ps : List Nat} (hz : m.chk l0 ((ps.length * 8 : Nat) : Int) = 0) (h8 : l0 % 8 = 0) (hr : ps.length ≤ rm l0) (hx : ∀ x ∈ ps, x < 18446744073709551616) (j : Nat) (h : j < ps.length) :
    lstE (m.ch l0 ((enc ps).length : Int) (enc ps)) (l0 + j * 8) (ps.length - j) = .ok (ps[j], l0 + (j + 1) * 8) := by
  have e := at8_ch hz h (hx _ (List.getElem_mem h))
  obtain ⟨k, hk, hk2⟩ := Mm.chk_ok hz
  unfold lstE
  rw [if_neg (by unfold rm te at hr ⊢; omega)]
  unfold rdE
  rw [if_pos (by rw [ch_len]; omega), e, show l0 + j * 8 + 8 = l0 + (j + 1) * 8 by omega]
/-- Two lists, the second behind the first. -/
theorem lst_two {m : Mm} {l0 l1 : Nat} {ps : List Nat} (hl : l0 + te l0 = l1) (h8 : l0 % 8 = 0) (hB : l1 + 4096 ≤ m.B.length) (hr : rm l0 < ps.length) (hp : ps.length ≤ 256) (hl1 : l1 < 18446744073709551616) (hx : ∀ x ∈ ps, x < 18446744073709551616) (n1 : Nat) (hn1 : n1 = rm l0 - 1) (j : Nat) (h : j < ps.length) :
    lstE ((m.ch l0 ((enc (ps.take n1 ++ [l1])).length : Int) (enc (ps.take n1 ++ [l1]))).ch l1 ((enc (ps.drop n1)).length : Int) (enc (ps.drop n1))) (if j ≤ n1 then l0 + j * 8 else l1 + (j - n1) * 8) (ps.length - j) = .ok (ps[j], if j + 1 ≤ n1 then l0 + (j + 1) * 8 else l1 + (j + 1 - n1) * 8) := by
  have hrm := rm_le l0
  have hrt : rm l0 * 8 = te l0 := by unfold rm te; omega
  have hte := te_le l0
  have hl1m : l1 % 4096 = 0 := by rw [← hl]; unfold te; omega
  have hly : (ps.take n1 ++ [l1]).length = n1 + 1 := by rw [List.length_append, List.length_take]; simp; omega
  have hld : (ps.drop n1).length = ps.length - n1 := List.length_drop
  have hz1 : m.chk l0 (((ps.take n1 ++ [l1]).length * 8 : Nat) : Int) = 0 := Mm.chk_of (by rw [hly]; omega)
  obtain ⟨m1, hm1⟩ : ∃ m1, m1 = m.ch l0 ((enc (ps.take n1 ++ [l1])).length : Int) (enc (ps.take n1 ++ [l1])) := ⟨_, rfl⟩
  have hm1l : m1.B.length = m.B.length := by rw [hm1, ch_len]
  have hz2 : m1.chk l1 (((ps.drop n1).length * 8 : Nat) : Int) = 0 := Mm.chk_of (by rw [hld, hm1l]; omega)
  have f1 : ∀ i (hi : i < n1 + 1), at8 (m1.ch l1 ((enc (ps.drop n1)).length : Int) (enc (ps.drop n1))) (l0 + i * 8) = (ps.take n1 ++ [l1])[i]'(by omega) := fun i hi => by
    rw [at8_off hz2 (.inl (by omega)), hm1]
    refine at8_ch hz1 (by omega) ?_
    by_cases hin : i < n1
    · rw [List.getElem_append_left (by rw [List.length_take]; omega), List.getElem_take]
      exact hx _ (List.getElem_mem _)
    · rw [List.getElem_append_right (by rw [List.length_take]; omega)]
      simpa using hl1
  have f2 : ∀ i (hi : i < ps.length - n1), at8 (m1.ch l1 ((enc (ps.drop n1)).length : Int) (enc (ps.drop n1))) (l1 + i * 8) = ps[n1 + i] := fun i hi => by
    rw [at8_ch hz2 (by omega) (by rw [List.getElem_drop]; exact hx _ (List.getElem_mem _)), List.getElem_drop]
  rw [← hm1]
  have hlen : (m1.ch l1 ((enc (ps.drop n1)).length : Int) (enc (ps.drop n1))).B.length = m.B.length := by rw [ch_len, hm1l]
  generalize m1.ch l1 ((enc (ps.drop n1)).length : Int) (enc (ps.drop n1)) = m2 at *
  by_cases hj : j < n1
  · rw [if_pos (by omega), if_pos (by omega)]
    have e := f1 j (by omega)
    rw [List.getElem_append_left (by rw [List.length_take]; omega), List.getElem_take] at e
    unfold lstE
    rw [if_neg (by unfold rm te at hr hn1 ⊢; omega)]
    unfold rdE
    rw [if_pos (by rw [hlen]; omega), e, show l0 + j * 8 + 8 = l0 + (j + 1) * 8 by omega]
  · by_cases hj2 : j = n1
    · subst hj2
      rw [if_pos (Nat.le_refl _), if_neg (by omega)]
      have e := f1 j (by omega)
      rw [List.getElem_append_right (by rw [List.length_take]; omega)] at e
      have e' : at8 m2 (l0 + j * 8) = l1 := by rw [e]; simp
      have g := f2 0 (by omega)
      rw [Nat.zero_mul, Nat.add_zero] at g
      unfold lstE
      rw [if_pos ⟨by unfold rm te at hn1 ⊢; omega, by omega⟩]
      unfold rdE
      rw [if_pos (by rw [hlen]; omega), e']
      simp only
      rw [if_pos hl1m, if_pos (by rw [hlen]; omega), g]
      simp only [Nat.add_zero]
      rw [show l1 + 8 = l1 + (j + 1 - j) * 8 by omega]
    · rw [if_neg (by omega), if_neg (by omega)]
      have g := f2 (j - n1) (by omega)
      have e2 : n1 + (j - n1) = j := by omega
      simp only [e2] at g
      unfold lstE
      rw [if_neg (by unfold rm te; omega)]
      unfold rdE
      rw [if_pos (by rw [hlen]; omega), g, show l1 + (j - n1) * 8 + 8 = l1 + (j + 1 - n1) * 8 by omega]
end Go.Proofs.Ytngaifokkkmmcaa
