/- The contracts of the small functions: within, num, the methods of a size, content, At, Sector, Valid, Count, Sectors, missing. Conditions stand in each theorem. -/
import Derived.Test.YteiemegkdnjpgaaM
import Derived.Laws.Rows
namespace Go.Proofs.Yteiemegkdnjpgaa
open Go.RowKit
set_option linter.unusedVariables false
set_option maxHeartbeats 1000000
set_option maxRecDepth 100000
def wiB (q lo hi : Int) : Bool := decide (lo ≤ q ∧ q ≤ hi)
theorem within_any (q lo hi : Int) (w : World) : Calls Try.prog 45 #[.int .i64 q, .int .i64 lo, .int .i64 hi] w fun e w' => e = .returned (.bool (wiB q lo hi)) ∧ w = w' := by
  unfold wiB
  by_cases h1 : lo ≤ q <;> by_cases h2 : q ≤ hi
  all_goals
    go_enter Try.func45, Try.ntmps45
    go_wp2
    go_ret
    exact ⟨by simp [h1, h2], rfl⟩
theorem num_any (q : Int) (w : World) : Calls Try.prog 10 #[.int .i64 q] w fun e w' => e = .returned (.int .i64 q) ∧ w = w' := by
  go_enter Try.func10, Try.ntmps10
  go_wp2
  go_ret
  exact ⟨rfl, rfl⟩
theorem below_alloc3 (w : World) (o : Obj) : Below w.heap.size w (w.alloc o) := below_alloc w o
def valB (s b p : Int) : Bool := wiB s 1 16777216 && (wiB b 2 4096 && wiB p 2 512)
theorem isValid_any (s b p : Int) (w : World) : Calls Try.prog 28 #[.agg #[.int .i64 s, .int .i64 b, .int .i64 p]] w fun e w' => e = .returned (.bool (valB s b p)) ∧ Below w.heap.size w w' := by
  unfold valB
  cases h1 : wiB s 1 16777216 <;> cases h2 : wiB b 2 4096 <;> cases h3 : wiB p 2 512
  all_goals
    have H1 := Lib.hid h1
    have H2 := Lib.hid h2
    have H3 := Lib.hid h3
    clear h1 h2 h3
    go_enter Try.func28, Try.ntmps28
    go_wp2_with (((go_at_call 45; with_reducible refine (within_any _ _ _ _).mono ?_); rintro e w' ⟨he, rfl⟩; first | rw [H1.out] at he | rw [H2.out] at he | rw [H3.out] at he); subst he)
    go_ret
    exact ⟨rfl, below_alloc w _⟩
theorem hasSector_any (s b p : Nat) (q : Int) (w : World) (hs : s ≤ 16777216) : Calls Try.prog 47 #[.agg #[.int .i64 (s : Int), .int .i64 (b : Int), .int .i64 (p : Int)], .int .i64 q] w fun e w' => e = .returned (.bool (decide (0 ≤ q ∧ q < s))) ∧ Below w.heap.size w w' := by
  have hs2 : (s : Int) ≤ 16777216 := by omega
  have he : wiB q 0 ((s : Int) - 1) = decide (0 ≤ q ∧ q < s) := by unfold wiB; congr 1; apply propext; omega
  have HE := Lib.hid he
  rw [← he]
  clear he
  go_enter Try.func47, Try.ntmps47
  go_wp2_with ((go_at_call 45; with_reducible refine (within_any _ _ _ _).mono ?_); rintro e w' ⟨rfl, rfl⟩)
  go_ret
  exact ⟨rfl, below_alloc w _⟩
theorem hasBlock_any (s b p : Nat) (q : Int) (w : World) (hb : b ≤ 4096) : Calls Try.prog 44 #[.agg #[.int .i64 (s : Int), .int .i64 (b : Int), .int .i64 (p : Int)], .int .i64 q] w fun e w' => e = .returned (.bool (decide (0 ≤ q ∧ q < b))) ∧ Below w.heap.size w w' := by
  have hs2 : (b : Int) ≤ 4096 := by omega
  have he : wiB q 0 ((b : Int) - 1) = decide (0 ≤ q ∧ q < b) := by unfold wiB; congr 1; apply propext; omega
  rw [← he]
  clear he
  go_enter Try.func44, Try.ntmps44
  go_wp2_with ((go_at_call 45; with_reducible refine (within_any _ _ _ _).mono ?_); rintro e w' ⟨rfl, rfl⟩)
  go_ret
  exact ⟨rfl, below_alloc w _⟩
theorem hasPage_any (s b p : Nat) (q : Int) (w : World) (hb : b ≤ 4096) (hp : p ≤ 512) : Calls Try.prog 48 #[.agg #[.int .i64 (s : Int), .int .i64 (b : Int), .int .i64 (p : Int)], .int .i64 q] w fun e w' => e = .returned (.bool (decide (0 ≤ q ∧ q < ((b * p : Nat) : Int)))) ∧ Below w.heap.size w w' := by
  have h0 := Nat.mul_le_mul hb hp
  have e0 : (b : Int) * (p : Int) = ((b * p : Nat) : Int) := by rw [Int.natCast_mul]
  generalize b * p = n at *
  have hn : (n : Int) ≤ 2097152 := by omega
  have he : wiB q 0 ((n : Int) - 1) = decide (0 ≤ q ∧ q < n) := by unfold wiB; congr 1; apply propext; omega
  rw [← he]
  clear he
  have hw1 : 0 ≤ (b : Int) * p := by omega
  have hw2 : (b : Int) * p ≤ 2097152 := by omega
  go_enter Try.func48, Try.ntmps48
  go_wp2_with ((go_at_call 45; with_reducible refine (within_any _ _ _ _).mono ?_); rintro e w' ⟨rfl, rfl⟩)
  go_ret
  exact ⟨rfl, below_alloc w _⟩
theorem blockOf_any (s b p : Nat) (q : Int) (w : World) (hp : 2 ≤ p ∧ p ≤ 512) (hq : 0 ≤ q ∧ q ≤ 2097152) : Calls Try.prog 49 #[.agg #[.int .i64 (s : Int), .int .i64 (b : Int), .int .i64 (p : Int)], .int .i64 q] w fun e w' => e = .returned (.int .i64 (q / (p : Int))) ∧ Below w.heap.size w w' := by
  have h1 : (2 : Int) ≤ p := by omega
  have h2 : (p : Int) ≤ 512 := by omega
  have h3 : ¬ (p : Int) = 0 := by omega
  have he : Int.tdiv q p = q / (p : Int) := by rw [Int.tdiv_eq_ediv_of_nonneg hq.1]
  have h4 : 0 ≤ q / (p : Int) := Int.ediv_nonneg hq.1 (by omega)
  have h5 : q / (p : Int) ≤ 2097152 := Int.le_trans (Int.ediv_le_self _ hq.1) hq.2
  obtain ⟨hq1, hq2⟩ := hq
  rw [← he] at h4 h5 ⊢
  clear he
  go_enter Try.func49, Try.ntmps49
  go_wp2
  go_ret
  exact ⟨rfl, below_alloc w _⟩
end Go.Proofs.Yteiemegkdnjpgaa
