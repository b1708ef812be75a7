/- The contracts of credited and choose. Conditions stand in each theorem. -/
import Derived.Test.YtildofclgofjdaaH
namespace Go.Proofs.Ytildofclgofjdaa
open Go.RowKit
set_option linter.unusedVariables false
set_option maxHeartbeats 400000
set_option maxRecDepth 100000
/-- Block B is an array of four slices with n 0 .. n 3 elements. -/
structure Lens (w : World) (B : Nat) (A : Nat → Option Addr) (n c : Nat → Nat) : Prop where
  blk : w.heap[B]? = some (.cells #[.slice (A 0) (n 0) (c 0), .slice (A 1) (n 1) (c 1), .slice (A 2) (n 2) (c 2), .slice (A 3) (n 3) (c 3)] 84 (0, 0))
theorem Lens.lt {w : World} {B : Nat} {A : Nat → Option Addr} {n c : Nat → Nat} (h : Lens w B A n c) : B < w.heap.size := (Array.getElem?_eq_some_iff.1 h.blk).1
theorem Lens.cell {w : World} {B : Nat} {A : Nat → Option Addr} {n c : Nat → Nat} (h : Lens w B A n c) (i : Nat) (hi : i < 4) : w.cell? ⟨B, i, none⟩ = some (.slice (A i) (n i) (c i)) := by
  rw [cell_of_row w B i _ 84 (0, 0) h.blk]
  match i, hi with
  | 0, _ => rfl
  | 1, _ => rfl
  | 2, _ => rfl
  | 3, _ => rfl
theorem Lens.chg {S : Nat → Prop} {w w' : World} {B : Nat} {A : Nat → Option Addr} {n c : Nat → Nat} (h : Lens w B A n c) (hc : Chg S w w') (hS : ¬ S B) : Lens w' B A n c := ⟨(hc.block B h.lt hS).trans h.blk⟩
theorem Lens.ne {w : World} {B b m : Nat} {A : Nat → Option Addr} {n c : Nat → Nat} {s : St} (h : Lens w B A n c) (ha : Arb w b m s) : B ≠ b := by
  rintro rfl
  have := h.blk
  rw [ha.blk] at this
  injection this with this
  injection this with _ ht
  exact absurd ht (by decide)
def credF (n : Nat → Nat) (cr : Nat → Int) : Nat := if 0 < n 1 ∧ 0 < cr 1 then 1 else if 0 < n 2 ∧ 0 < cr 2 then 2 else if 0 < n 3 ∧ 0 < cr 3 then 3 else 0
def foundB (k : Nat) : Bool := k != 0
theorem ret_pair {a c : Int} {b d : Bool} (h1 : a = c) (h2 : b = d) : Ending.returned (.tuple #[.int .i64 a, .bool b]) = .returned (.tuple #[.int .i64 c, .bool d]) := by rw [h1, h2]
set_option maxHeartbeats 2000000 in
theorem credited_any (b m B : Nat) (s : St) (A : Nat → Option Addr) (n c : Nat → Nat) (w : World) (h : Arb w b m s) (hl : Lens w B A n c) :
    Calls Try.prog 49 #[.pointer (some ⟨b, 0, none⟩), .pointer (some ⟨B, 0, none⟩)] w fun e w' => e = .returned (.tuple #[.int .i64 (credF n s.cr : Nat), .bool (foundB (credF n s.cr))]) ∧ w = w' := by
  have k1 := h.cCr 1 (by decide)
  have k2 := h.cCr 2 (by decide)
  have k3 := h.cCr 3 (by decide)
  have e1 := hl.cell 1 (by decide)
  have e2 := hl.cell 2 (by decide)
  have e3 := hl.cell 3 (by decide)
  simp only [Nat.reduceAdd] at k1 k2 k3
  have HC := Lib.hid (show credF n s.cr = if 0 < n 1 ∧ 0 < s.cr 1 then 1 else if 0 < n 2 ∧ 0 < s.cr 2 then 2 else if 0 < n 3 ∧ 0 < s.cr 3 then 3 else 0 from rfl)
  generalize credF n s.cr = R at *
  generalize s.cr 1 = r1 at *
  generalize s.cr 2 = r2 at *
  generalize s.cr 3 = r3 at *
  generalize n 1 = n1 at *
  generalize n 2 = n2 at *
  generalize n 3 = n3 at *
  clear h hl
  go_enter Try.func49, Try.ntmps49
  go_wp2
  refine wp_loop_rounds 4 ?_
  rw [rounds_succ]
  by_cases p1 : 0 < n1 ∧ 0 < r1
  · obtain ⟨q1, q2⟩ := p1
    go_wp2
    go_ret2
    have := HC.out
    rw [if_pos ⟨q1, q2⟩] at this
    subst this
    exact ⟨rfl, rfl⟩
  have HC1 := HC.out
  clear HC
  rw [if_neg p1] at HC1
  have HC := Lib.hid HC1
  clear HC1
  by_cases v1 : 0 < n1
  · have x1 : ¬ 0 < r1 := fun h => p1 ⟨v1, h⟩
    clear p1
    go_wp2
    rw [rounds_succ]
    by_cases p2 : 0 < n2 ∧ 0 < r2
    · obtain ⟨q1, q2⟩ := p2
      go_wp2
      go_ret2
      have := HC.out
      rw [if_pos ⟨q1, q2⟩] at this
      subst this
      exact ⟨rfl, rfl⟩
    have HC1 := HC.out
    clear HC
    rw [if_neg p2] at HC1
    have HC := Lib.hid HC1
    clear HC1
    by_cases v2 : 0 < n2
    · have x2 : ¬ 0 < r2 := fun h => p2 ⟨v2, h⟩
      clear p2
      go_wp2
      rw [rounds_succ]
      by_cases p3 : 0 < n3 ∧ 0 < r3
      · obtain ⟨q1, q2⟩ := p3
        go_wp2
        go_ret2
        have := HC.out
        rw [if_pos ⟨q1, q2⟩] at this
        subst this
        exact ⟨rfl, rfl⟩
      have HC1 := HC.out
      clear HC
      rw [if_neg p3] at HC1
      have HC := Lib.hid HC1
      clear HC1
      by_cases v3 : 0 < n3
      · have x3 : ¬ 0 < r3 := fun h => p3 ⟨v3, h⟩
        clear p3
        go_wp2
        rw [rounds_succ]
        go_wp2
        go_ret2
        have := HC.out
        subst this
        exact ⟨rfl, rfl⟩
      · clear p3
        have x3 : n3 = 0 := by omega
        subst x3
        go_wp2
        rw [rounds_succ]
        go_wp2
        go_ret2
        have := HC.out
        subst this
        exact ⟨rfl, rfl⟩
    · clear p2
      have x2 : n2 = 0 := by omega
      subst x2
      go_wp2
      rw [rounds_succ]
      by_cases p3 : 0 < n3 ∧ 0 < r3
      · obtain ⟨q1, q2⟩ := p3
        go_wp2
        go_ret2
        have := HC.out
        rw [if_pos ⟨q1, q2⟩] at this
        subst this
        exact ⟨rfl, rfl⟩
      have HC1 := HC.out
      clear HC
      rw [if_neg p3] at HC1
      have HC := Lib.hid HC1
      clear HC1
      by_cases v3 : 0 < n3
      · have x3 : ¬ 0 < r3 := fun h => p3 ⟨v3, h⟩
        clear p3
        go_wp2
        rw [rounds_succ]
        go_wp2
        go_ret2
        have := HC.out
        subst this
        exact ⟨rfl, rfl⟩
      · clear p3
        have x3 : n3 = 0 := by omega
        subst x3
        go_wp2
        rw [rounds_succ]
        go_wp2
        go_ret2
        have := HC.out
        subst this
        exact ⟨rfl, rfl⟩
  · clear p1
    have x1 : n1 = 0 := by omega
    subst x1
    go_wp2
    rw [rounds_succ]
    by_cases p2 : 0 < n2 ∧ 0 < r2
    · obtain ⟨q1, q2⟩ := p2
      go_wp2
      go_ret2
      have := HC.out
      rw [if_pos ⟨q1, q2⟩] at this
      subst this
      exact ⟨rfl, rfl⟩
    have HC1 := HC.out
    clear HC
    rw [if_neg p2] at HC1
    have HC := Lib.hid HC1
    clear HC1
    by_cases v2 : 0 < n2
    · have x2 : ¬ 0 < r2 := fun h => p2 ⟨v2, h⟩
      clear p2
      go_wp2
      rw [rounds_succ]
      by_cases p3 : 0 < n3 ∧ 0 < r3
      · obtain ⟨q1, q2⟩ := p3
        go_wp2
        go_ret2
        have := HC.out
        rw [if_pos ⟨q1, q2⟩] at this
        subst this
        exact ⟨rfl, rfl⟩
      have HC1 := HC.out
      clear HC
      rw [if_neg p3] at HC1
      have HC := Lib.hid HC1
      clear HC1
      by_cases v3 : 0 < n3
      · have x3 : ¬ 0 < r3 := fun h => p3 ⟨v3, h⟩
        clear p3
        go_wp2
        rw [rounds_succ]
        go_wp2
        go_ret2
        have := HC.out
        subst this
        exact ⟨rfl, rfl⟩
      · clear p3
        have x3 : n3 = 0 := by omega
        subst x3
        go_wp2
        rw [rounds_succ]
        go_wp2
        go_ret2
        have := HC.out
        subst this
        exact ⟨rfl, rfl⟩
    · clear p2
      have x2 : n2 = 0 := by omega
      subst x2
      go_wp2
      rw [rounds_succ]
      by_cases p3 : 0 < n3 ∧ 0 < r3
      · obtain ⟨q1, q2⟩ := p3
        go_wp2
        go_ret2
        have := HC.out
        rw [if_pos ⟨q1, q2⟩] at this
        subst this
        exact ⟨rfl, rfl⟩
      have HC1 := HC.out
      clear HC
      rw [if_neg p3] at HC1
      have HC := Lib.hid HC1
      clear HC1
      by_cases v3 : 0 < n3
      · have x3 : ¬ 0 < r3 := fun h => p3 ⟨v3, h⟩
        clear p3
        go_wp2
        rw [rounds_succ]
        go_wp2
        go_ret2
        have := HC.out
        subst this
        exact ⟨rfl, rfl⟩
      · clear p3
        have x3 : n3 = 0 := by omega
        subst x3
        go_wp2
        rw [rounds_succ]
        go_wp2
        go_ret2
        have := HC.out
        subst this
        exact ⟨rfl, rfl⟩
end Go.Proofs.Ytildofclgofjdaa
