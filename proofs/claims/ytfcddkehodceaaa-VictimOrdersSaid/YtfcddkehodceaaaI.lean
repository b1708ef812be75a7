/- The examples of the chapter: works. Conditions stand in each theorem. -/
import Derived.Test.YtfcddkehodceaaaH
namespace Go.Proofs.Ytfcddkehodceaaa
open Go.RowKit
set_option linter.unusedVariables false
set_option maxHeartbeats 8000000
set_option maxRecDepth 100000
theorem fl4_length (l : List Cd) : (l.flatMap Cd.cells).length = l.length * 4 := by
  induction l with
  | nil => rfl
  | cons e r ih => rw [List.flatMap_cons, List.length_append, ih]; simp [Cd.cells]; omega
theorem fl4_at (l : List Cd) (i j : Nat) (hi : i < l.length) (hj : j < 4) : (l.flatMap Cd.cells)[i * 4 + j]? = l[i].cells[j]? := by
  induction l generalizing i with
  | nil => cases hi
  | cons e r ih =>
    have hc : e.cells.length = 4 := rfl
    show (e.cells ++ r.flatMap Cd.cells)[i * 4 + j]? = _
    cases i with
    | zero =>
      rw [List.getElem?_append_left (by rw [hc]; omega)]
      simp
    | succ i =>
      rw [List.getElem?_append_right (by rw [hc]; omega), hc, show (i + 1) * 4 + j - 4 = i * 4 + j by omega, ih i (by simpa using hi)]
      simp
/-- A literal of candidates. -/
theorem Cs.made (w : World) (l : List Cd) : Cs (w.alloc (.cells (l.flatMap Cd.cells).toArray 23)) (.slice (some ⟨w.heap.size, 0, none⟩) l.length l.length) l :=
  ⟨_, l.length, rfl, fun _ => ⟨w.heap.size, 0, rfl, by simp, fun i hi => by
    have h := heap_alloc_new w (.cells (l.flatMap Cd.cells).toArray 23)
    have key : ∀ j, j < 4 → (w.alloc (.cells (l.flatMap Cd.cells).toArray 23)).cell? ⟨w.heap.size, 0 + i * 4 + j, none⟩ = l[i].cells[j]? := fun j hj => by
      rw [cell_of_row _ _ _ _ _ _ h, Nat.zero_add, ← fl4_at l i j hi hj]
      simp
    exact ⟨key 0 (by omega), key 1 (by omega), key 2 (by omega), key 3 (by omega)⟩⟩⟩
/-- The first of the sorted ones is the one that comes before all others. -/
theorem chK_eq {l : List Cd} {D : List Rk} (hp : D.Perm (rankR l)) (hd : D.Pairwise Qr) {m : Rk} (hm : m ∈ rankR l) (h : ∀ y ∈ rankR l, y = m ∨ Qr m y) : chK D = m.pl ∧ chE l D = 0 := by
  cases D with
  | nil => have := hp.mem_iff.2 hm; cases this
  | cons x R =>
    have hx : x = m := by
      rcases h x (hp.mem_iff.1 (List.mem_cons_self ..)) with h1 | h1
      · exact h1
      · have h2 := hp.mem_iff.2 hm
        rcases List.mem_cons.1 h2 with h3 | h3
        · exact h3.symm
        · exact ((Qr.asymm ((List.pairwise_cons.1 hd).1 m h3) h1)).elim
    subst hx
    exact ⟨rfl, by unfold chE; rw [if_neg (by simp)]⟩
/-- Choose at a literal. -/
theorem chLit (l : List Cd) (hl : l.length < 40) (m : Rk) (hm : m ∈ rankR l) (h : ∀ y ∈ rankR l, y = m ∨ Qr m y) (W : World) :
    Calls Try.prog 14 #[.slice (some ⟨W.heap.size, 0, none⟩) l.length l.length] (W.alloc (.cells (l.flatMap Cd.cells).toArray 23)) (RetB W (.tuple #[.int .i64 m.pl, .int .i64 0])) :=
  (Choose_any _ _ l (Cs.made W l) hl).mono fun e w' ⟨h1, D, h2, h3, h4⟩ => by
    obtain ⟨k1, k2⟩ := chK_eq h2 h3 hm h
    refine ⟨by rw [h4, k1, k2], ((Below.refl W.heap.size W).alloc (Nat.le_refl _) _).trans (h1.mono (by simp))⟩
theorem works_any (w : World) : Calls Try.prog 13 #[] w (RetB w (.bool true)) := by
  have hF : ∀ a b c W, Calls Try.prog 22 #[.int .i64 a, .int .i64 b, .int .i64 c] W (RetB W (.agg #[.int .i64 a, .int .i64 b, .int .i64 4, .int .i64 c])) := fun a b c W => (four_any a b c W).mono fun e w' ⟨h1, h2⟩ => ⟨h1, h2.below⟩
  have hN : ∀ a W, Calls Try.prog 10 #[.int .i64 a] W (RetB W (.int .i64 a)) := fun a W => (num_any a W).mono fun e w' ⟨h1, h2⟩ => ⟨h1, h2.below⟩
  have s1 : ∀ W, Calls Try.prog 8 #[.agg #[.int .i64 0, .int .i64 1, .int .i64 4, .int .i64 6]] W (RetB W (.tuple #[.int .i64 18, .int .i64 2, .int .i64 0])) := fun W => score_any ⟨0, 1, 4, 6⟩ W
  have s2 : ∀ W, Calls Try.prog 8 #[.agg #[.int .i64 0, .int .i64 0, .int .i64 4, .int .i64 6]] W (RetB W (.tuple #[.int .i64 1, .int .i64 0, .int .i64 0])) := fun W => score_any ⟨0, 0, 4, 6⟩ W
  have s3 : ∀ W, Calls Try.prog 8 #[.agg #[.int .i64 0, .int .i64 4, .int .i64 4, .int .i64 0]] W (RetB W (.tuple #[.int .i64 0, .int .i64 0, .int .i64 9])) := fun W => score_any ⟨0, 4, 4, 0⟩ W
  have r1 : rankR [⟨0, 1, 4, 6⟩, ⟨1, 2, 4, 20⟩, ⟨2, 3, 4, 50⟩] = [⟨⟨0, 1, 4, 6⟩, 0⟩, ⟨⟨1, 2, 4, 20⟩, 1⟩, ⟨⟨2, 3, 4, 50⟩, 2⟩] := rfl
  have r2 : rankR [⟨0, 1, 4, 6⟩, ⟨1, 2, 4, 20⟩, ⟨2, 3, 4, 50⟩, ⟨3, 0, 4, 0⟩] = [⟨⟨0, 1, 4, 6⟩, 0⟩, ⟨⟨1, 2, 4, 20⟩, 1⟩, ⟨⟨2, 3, 4, 50⟩, 2⟩, ⟨⟨3, 0, 4, 0⟩, 3⟩] := rfl
  have r3 : rankR [⟨7, 1, 4, 6⟩, ⟨5, 1, 4, 6⟩] = [⟨⟨7, 1, 4, 6⟩, 0⟩, ⟨⟨5, 1, 4, 6⟩, 1⟩] := rfl
  have c1 := chLit [⟨0, 1, 4, 6⟩, ⟨1, 2, 4, 20⟩, ⟨2, 3, 4, 50⟩] (by decide) ⟨⟨1, 2, 4, 20⟩, 1⟩ (by rw [r1]; simp) (by rw [r1]; intro y hy; simp only [List.mem_cons, List.not_mem_nil, or_false] at hy; rcases hy with rfl | rfl | rfl <;> simp [Qr, Sge, Cd.num, Cd.den])
  have c2 := chLit [⟨0, 1, 4, 6⟩, ⟨1, 2, 4, 20⟩, ⟨2, 3, 4, 50⟩, ⟨3, 0, 4, 0⟩] (by decide) ⟨⟨3, 0, 4, 0⟩, 3⟩ (by rw [r2]; simp) (by rw [r2]; intro y hy; simp only [List.mem_cons, List.not_mem_nil, or_false] at hy; rcases hy with rfl | rfl | rfl | rfl <;> simp [Qr, Sge, Cd.num, Cd.den])
  have c3 := chLit [⟨7, 1, 4, 6⟩, ⟨5, 1, 4, 6⟩] (by decide) ⟨⟨5, 1, 4, 6⟩, 1⟩ (by rw [r3]; simp) (by rw [r3]; intro y hy; simp only [List.mem_cons, List.not_mem_nil, or_false] at hy; rcases hy with rfl | rfl <;> simp [Qr, Sge, Cd.num, Cd.den])
  have c4 : ∀ W, Calls Try.prog 14 #[.slice none 0 0] W (RetB W (.tuple #[.int .i64 0, .int .i64 9])) := fun W =>
    (Choose_any W (.slice none 0 0) [] ⟨none, 0, rfl, fun h => absurd h (by decide)⟩ (by decide)).mono fun e w' ⟨h1, D, h2, h3, h4⟩ => by
      have hD : D = [] := h2.eq_nil
      subst hD
      exact ⟨h4, h1⟩
  have c5 : ∀ W : World, Calls Try.prog 14 #[.slice (some ⟨W.heap.size, 0, none⟩) 1 1] (W.alloc (.cells #[.int .i64 0, .int .i64 5, .int .i64 4, .int .i64 1] 23)) (RetB W (.tuple #[.int .i64 0, .int .i64 2])) := fun W =>
    (Choose_any _ _ [⟨0, 5, 4, 1⟩] (Cs.made W [⟨0, 5, 4, 1⟩]) (by decide)).mono fun e w' ⟨h1, D, h2, h3, h4⟩ => by
      have hr : rankR [⟨0, 5, 4, 1⟩] = [] := rfl
      have hD : D = [] := (hr ▸ h2).eq_nil
      subst hD
      exact ⟨h4, ((Below.refl W.heap.size W).alloc (Nat.le_refl _) _).trans (h1.mono (by simp))⟩
  have c1' : ∀ W : World, Calls Try.prog 14 #[.slice (some ⟨W.heap.size, 0, none⟩) 3 3] (W.alloc (.cells #[.int .i64 0, .int .i64 1, .int .i64 4, .int .i64 6, .int .i64 1, .int .i64 2, .int .i64 4, .int .i64 20, .int .i64 2, .int .i64 3, .int .i64 4, .int .i64 50] 23)) (RetB W (.tuple #[.int .i64 1, .int .i64 0])) := c1
  have c2' : ∀ W : World, Calls Try.prog 14 #[.slice (some ⟨W.heap.size, 0, none⟩) 4 4] (W.alloc (.cells #[.int .i64 0, .int .i64 1, .int .i64 4, .int .i64 6, .int .i64 1, .int .i64 2, .int .i64 4, .int .i64 20, .int .i64 2, .int .i64 3, .int .i64 4, .int .i64 50, .int .i64 3, .int .i64 0, .int .i64 4, .int .i64 0] 23)) (RetB W (.tuple #[.int .i64 3, .int .i64 0])) := c2
  have c3' : ∀ W : World, Calls Try.prog 14 #[.slice (some ⟨W.heap.size, 0, none⟩) 2 2] (W.alloc (.cells #[.int .i64 7, .int .i64 1, .int .i64 4, .int .i64 6, .int .i64 5, .int .i64 1, .int .i64 4, .int .i64 6] 23)) (RetB W (.tuple #[.int .i64 1, .int .i64 0])) := c3
  have HF := Lib.hid hF
  have HN := Lib.hid hN
  have S1 := Lib.hid s1
  have S2 := Lib.hid s2
  have S3 := Lib.hid s3
  have C1 := Lib.hid c1'
  have C2 := Lib.hid c2'
  have C3 := Lib.hid c3'
  have C4 := Lib.hid c4
  have C5 := Lib.hid c5
  have HB : Hid (Below w.heap.size w w) := Below.refl _ _
  clear hF hN s1 s2 s3 c1 c2 c3 c1' c2' c3' c4 c5 r1 r2 r3
  go_enter Try.func13, Try.ntmps13
  go_wp2_with (first
    | ((go_at_call 22; (with_reducible refine (HF.out _ _ _ _).mono ?_)); rintro e w' ⟨rfl, hb⟩; replace HB := Lib.hid (HB.out.trans (hb.mono HB.out.size)); clear hb)
    | ((go_at_call 8; first | (with_reducible refine (S1.out _).mono ?_) | (with_reducible refine (S2.out _).mono ?_) | (with_reducible refine (S3.out _).mono ?_)); rintro e w' ⟨rfl, hb⟩; replace HB := Lib.hid (HB.out.trans (hb.mono HB.out.size)); clear hb)
    | ((go_at_call 14; first | (with_reducible refine (C1.out _).mono ?_) | (with_reducible refine (C2.out _).mono ?_) | (with_reducible refine (C3.out _).mono ?_) | (with_reducible refine (C4.out _).mono ?_) | (with_reducible refine (C5.out _).mono ?_)); rintro e w' ⟨rfl, hb⟩; replace HB := Lib.hid (HB.out.trans (hb.mono HB.out.size)); clear hb)
    | ((go_at_call 10; (with_reducible refine (HN.out _ _).mono ?_)); rintro e w' ⟨rfl, hb⟩; replace HB := Lib.hid (HB.out.trans (hb.mono HB.out.size)); clear hb))
  go_ret
  exact ⟨rfl, HB.out⟩
end Go.Proofs.Ytfcddkehodceaaa
