/- The contracts of within, follows, Valid (of the package and of the reference), require and the reader's closure. Conditions stand in each theorem. -/
import Derived.Test.YtcebockdfkjoiaaDoorS
import Derived.Test.YtcebockdfkjoiaaDoorE
import Derived.BigRegion
namespace Go.Proofs.YtcebockdfkjoiaaDoor
open Go.RowKit
set_option linter.unusedVariables false
set_option maxHeartbeats 1000000
set_option maxRecDepth 100000

/-- The value of a description. -/
def Sp.val (s : Sp) : Value := .agg #[.int .u8 (s.kind : Int), .int .i64 s.sector, .int .u64 (s.seq : Int), .int .u64 (s.prev : Int), .int .i64 s.index, .int .i64 s.length]
theorem ret_bool {a b : Bool} (h : a = b) : Ending.returned (.bool a) = .returned (.bool b) := by rw [h]
theorem within_yes (n a b : Int) (w : World) (h1 : a ≤ n) (h2 : n ≤ b) : Calls Tryd.prog 23 #[.int .i64 n, .int .i64 a, .int .i64 b] w fun e w' => e = .returned (.bool true) ∧ w = w' := by
  go_enter Tryd.func23, Tryd.ntmps23
  go_wp2
  go_ret
  exact ⟨rfl, rfl⟩
theorem within_no (n a b : Int) (w : World) (h : n < a ∨ b < n) : Calls Tryd.prog 23 #[.int .i64 n, .int .i64 a, .int .i64 b] w fun e w' => e = .returned (.bool false) ∧ w = w' := by
  by_cases h1 : a ≤ n
  · have h2 : decide (n ≤ b) = false := decide_eq_false (by omega)
    clear h
    go_enter Tryd.func23, Tryd.ntmps23
    go_wp2
    go_ret
    exact ⟨ret_bool (by first | exact h2 | rfl), rfl⟩
  · have h2 : decide (a ≤ n) = false := decide_eq_false h1
    clear h
    go_enter Tryd.func23, Tryd.ntmps23
    go_wp2
    go_ret
    exact ⟨ret_bool (by first | exact h2 | rfl), rfl⟩
theorem follows_yes (K sec q p i len : Int) (w : World) (hq : q < 18446744073709551616) (hp : 0 ≤ p) (h0 : 0 ≤ i) (h1 : i ≤ 9223372036854775807) (hpq : p < q) (hi : i < q - p) :
    Calls Tryd.prog 24 #[.agg #[.int .u8 K, .int .i64 sec, .int .u64 q, .int .u64 p, .int .i64 i, .int .i64 len]] w fun e w' => e = .returned (.bool true) ∧ Below w.heap.size w w' := by
  have hb := (Below.refl w.heap.size w).alloc (Nat.le_refl _) (.cells #[.int .u8 K, .int .i64 sec, .int .u64 q, .int .u64 p, .int .i64 i, .int .i64 len] 25)
  go_enter Tryd.func24, Tryd.ntmps24
  go_wp2
  go_ret
  exact ⟨rfl, hb⟩
theorem follows_no (K sec q p i len : Int) (w : World) (hq : q < 18446744073709551616) (hp : 0 ≤ p) (h0 : 0 ≤ i) (h1 : i ≤ 9223372036854775807) (h : ¬ (p < q ∧ i < q - p)) :
    Calls Tryd.prog 24 #[.agg #[.int .u8 K, .int .i64 sec, .int .u64 q, .int .u64 p, .int .i64 i, .int .i64 len]] w fun e w' => e = .returned (.bool false) ∧ Below w.heap.size w w' := by
  have hb := (Below.refl w.heap.size w).alloc (Nat.le_refl _) (.cells #[.int .u8 K, .int .i64 sec, .int .u64 q, .int .u64 p, .int .i64 i, .int .i64 len] 25)
  by_cases hpq : p < q
  · have hi : decide (i < q - p) = false := decide_eq_false (by omega)
    clear h
    go_enter Tryd.func24, Tryd.ntmps24
    go_wp2
    go_ret
    exact ⟨ret_bool (by first | exact hi | rfl), hb⟩
  · have hpq2 : decide (p < q) = false := decide_eq_false hpq
    clear h
    go_enter Tryd.func24, Tryd.ntmps24
    go_wp2
    go_ret
    exact ⟨ret_bool (by first | exact hpq2 | rfl), hb⟩
theorem valid_1 (K sec q p i len : Int) (w : World) (hq0 : 0 ≤ q) (hq : q < 18446744073709551616) (hp : 0 ≤ p) (l0 : -9223372036854775808 ≤ len) (l1 : len ≤ 9223372036854775807) (i0 : -9223372036854775808 ≤ i) (i1 : i ≤ 9223372036854775807) (h : q < 1) :
    Calls Tryd.prog 13 #[.agg #[.int .u8 K, .int .i64 sec, .int .u64 q, .int .u64 p, .int .i64 i, .int .i64 len]] w fun e w' => e = .returned (.bool false) ∧ Below w.heap.size w w' := by
  go_enter Tryd.func13, Tryd.ntmps13
  go_wp2_with (first | (go_at_call 23; (first | refine (within_yes _ _ _ _ (by omega) (by omega)).mono ?_ | refine (within_no _ _ _ _ (by omega)).mono ?_); rintro e w' ⟨rfl, rfl⟩) | (go_at_call 24; (first | refine (follows_yes _ _ _ _ _ _ _ (by omega) (by omega) (by omega) (by omega) (by omega) (by omega)).mono ?_ | refine (follows_no _ _ _ _ _ _ _ (by omega) (by omega) (by omega) (by omega) (by omega)).mono ?_); rintro e w' ⟨rfl, hb2⟩))
  go_ret
  exact ⟨ret_bool (by first | rfl | (simp; omega)), (Below.refl w.heap.size w).alloc (Nat.le_refl _) _⟩
theorem valid_2 (K sec q p i len : Int) (w : World) (hq0 : 0 ≤ q) (hq : q < 18446744073709551616) (hp : 0 ≤ p) (l0 : -9223372036854775808 ≤ len) (l1 : len ≤ 9223372036854775807) (i0 : -9223372036854775808 ≤ i) (i1 : i ≤ 9223372036854775807) (h : 1 ≤ q) (h2 : len < 1 ∨ 65535 < len) :
    Calls Tryd.prog 13 #[.agg #[.int .u8 K, .int .i64 sec, .int .u64 q, .int .u64 p, .int .i64 i, .int .i64 len]] w fun e w' => e = .returned (.bool false) ∧ Below w.heap.size w w' := by
  have g1 : decide (q < 1) = false := decide_eq_false (by omega)
  go_enter Tryd.func13, Tryd.ntmps13
  go_wp2_with (first | (go_at_call 23; (first | refine (within_yes _ _ _ _ (by omega) (by omega)).mono ?_ | refine (within_no _ _ _ _ (by omega)).mono ?_); rintro e w' ⟨rfl, rfl⟩) | (go_at_call 24; (first | refine (follows_yes _ _ _ _ _ _ _ (by omega) (by omega) (by omega) (by omega) (by omega) (by omega)).mono ?_ | refine (follows_no _ _ _ _ _ _ _ (by omega) (by omega) (by omega) (by omega) (by omega)).mono ?_); rintro e w' ⟨rfl, hb2⟩))
  go_ret
  exact ⟨ret_bool (by first | rfl | (simp; omega)), (Below.refl w.heap.size w).alloc (Nat.le_refl _) _⟩
theorem valid_3 (K sec q p i len : Int) (w : World) (hq0 : 0 ≤ q) (hq : q < 18446744073709551616) (hp : 0 ≤ p) (l0 : -9223372036854775808 ≤ len) (l1 : len ≤ 9223372036854775807) (i0 : -9223372036854775808 ≤ i) (i1 : i ≤ 9223372036854775807) (h : 1 ≤ q) (h2 : 1 ≤ len) (h3 : len ≤ 65535) (h4 : i < 0 ∨ len - 1 < i) :
    Calls Tryd.prog 13 #[.agg #[.int .u8 K, .int .i64 sec, .int .u64 q, .int .u64 p, .int .i64 i, .int .i64 len]] w fun e w' => e = .returned (.bool false) ∧ Below w.heap.size w w' := by
  have g1 : decide (q < 1) = false := decide_eq_false (by omega)
  go_enter Tryd.func13, Tryd.ntmps13
  go_wp2_with (first | (go_at_call 23; (first | refine (within_yes _ _ _ _ (by omega) (by omega)).mono ?_ | refine (within_no _ _ _ _ (by omega)).mono ?_); rintro e w' ⟨rfl, rfl⟩) | (go_at_call 24; (first | refine (follows_yes _ _ _ _ _ _ _ (by omega) (by omega) (by omega) (by omega) (by omega) (by omega)).mono ?_ | refine (follows_no _ _ _ _ _ _ _ (by omega) (by omega) (by omega) (by omega) (by omega)).mono ?_); rintro e w' ⟨rfl, hb2⟩))
  go_ret
  exact ⟨ret_bool (by first | rfl | (simp; omega)), (Below.refl w.heap.size w).alloc (Nat.le_refl _) _⟩
theorem valid_4 (K sec q p i len : Int) (w : World) (hq0 : 0 ≤ q) (hq : q < 18446744073709551616) (hp : 0 ≤ p) (l0 : -9223372036854775808 ≤ len) (l1 : len ≤ 9223372036854775807) (i0 : -9223372036854775808 ≤ i) (i1 : i ≤ 9223372036854775807) (h : 1 ≤ q) (h2 : 1 ≤ len) (h3 : len ≤ 65535) (h4 : 0 ≤ i) (h5 : i ≤ len - 1) (hk : K = 1) (h6 : sec < 0 ∨ 4294967294 < sec) :
    Calls Tryd.prog 13 #[.agg #[.int .u8 K, .int .i64 sec, .int .u64 q, .int .u64 p, .int .i64 i, .int .i64 len]] w fun e w' => e = .returned (.bool false) ∧ Below w.heap.size w w' := by
  have g1 : decide (q < 1) = false := decide_eq_false (by omega)
  subst hk
  go_enter Tryd.func13, Tryd.ntmps13
  go_wp2_with (first | (go_at_call 23; (first | refine (within_yes _ _ _ _ (by omega) (by omega)).mono ?_ | refine (within_no _ _ _ _ (by omega)).mono ?_); rintro e w' ⟨rfl, rfl⟩) | (go_at_call 24; (first | refine (follows_yes _ _ _ _ _ _ _ (by omega) (by omega) (by omega) (by omega) (by omega) (by omega)).mono ?_ | refine (follows_no _ _ _ _ _ _ _ (by omega) (by omega) (by omega) (by omega) (by omega)).mono ?_); rintro e w' ⟨rfl, hb2⟩))
  go_ret
  exact ⟨ret_bool (by first | rfl | (simp; omega)), (Below.refl w.heap.size w).alloc (Nat.le_refl _) _⟩
theorem valid_5 (K sec q p i len : Int) (w : World) (hq0 : 0 ≤ q) (hq : q < 18446744073709551616) (hp : 0 ≤ p) (l0 : -9223372036854775808 ≤ len) (l1 : len ≤ 9223372036854775807) (i0 : -9223372036854775808 ≤ i) (i1 : i ≤ 9223372036854775807) (h : 1 ≤ q) (h2 : 1 ≤ len) (h3 : len ≤ 65535) (h4 : 0 ≤ i) (h5 : i ≤ len - 1) (hk : K = 1) (h6 : 0 ≤ sec) (h7 : sec ≤ 4294967294) (h8 : ¬ p = 0) :
    Calls Tryd.prog 13 #[.agg #[.int .u8 K, .int .i64 sec, .int .u64 q, .int .u64 p, .int .i64 i, .int .i64 len]] w fun e w' => e = .returned (.bool false) ∧ Below w.heap.size w w' := by
  have g1 : decide (q < 1) = false := decide_eq_false (by omega)
  subst hk
  go_enter Tryd.func13, Tryd.ntmps13
  go_wp2_with (first | (go_at_call 23; (first | refine (within_yes _ _ _ _ (by omega) (by omega)).mono ?_ | refine (within_no _ _ _ _ (by omega)).mono ?_); rintro e w' ⟨rfl, rfl⟩) | (go_at_call 24; (first | refine (follows_yes _ _ _ _ _ _ _ (by omega) (by omega) (by omega) (by omega) (by omega) (by omega)).mono ?_ | refine (follows_no _ _ _ _ _ _ _ (by omega) (by omega) (by omega) (by omega) (by omega)).mono ?_); rintro e w' ⟨rfl, hb2⟩))
  go_ret
  exact ⟨ret_bool (by first | rfl | (simp; omega)), (Below.refl w.heap.size w).alloc (Nat.le_refl _) _⟩
theorem valid_6 (K sec q p i len : Int) (w : World) (hq0 : 0 ≤ q) (hq : q < 18446744073709551616) (hp : 0 ≤ p) (l0 : -9223372036854775808 ≤ len) (l1 : len ≤ 9223372036854775807) (i0 : -9223372036854775808 ≤ i) (i1 : i ≤ 9223372036854775807) (h : 1 ≤ q) (h2 : 1 ≤ len) (h3 : len ≤ 65535) (h4 : 0 ≤ i) (h5 : i ≤ len - 1) (hk : K = 1) (h6 : 0 ≤ sec) (h7 : sec ≤ 4294967294) (h8 : p = 0) (h9 : ¬ len = 1) :
    Calls Tryd.prog 13 #[.agg #[.int .u8 K, .int .i64 sec, .int .u64 q, .int .u64 p, .int .i64 i, .int .i64 len]] w fun e w' => e = .returned (.bool false) ∧ Below w.heap.size w w' := by
  have g1 : decide (q < 1) = false := decide_eq_false (by omega)
  subst hk
  go_enter Tryd.func13, Tryd.ntmps13
  go_wp2_with (first | (go_at_call 23; (first | refine (within_yes _ _ _ _ (by omega) (by omega)).mono ?_ | refine (within_no _ _ _ _ (by omega)).mono ?_); rintro e w' ⟨rfl, rfl⟩) | (go_at_call 24; (first | refine (follows_yes _ _ _ _ _ _ _ (by omega) (by omega) (by omega) (by omega) (by omega) (by omega)).mono ?_ | refine (follows_no _ _ _ _ _ _ _ (by omega) (by omega) (by omega) (by omega) (by omega)).mono ?_); rintro e w' ⟨rfl, hb2⟩))
  go_ret
  exact ⟨ret_bool (by first | rfl | (simp; omega)), (Below.refl w.heap.size w).alloc (Nat.le_refl _) _⟩
theorem valid_7 (K sec q p i len : Int) (w : World) (hq0 : 0 ≤ q) (hq : q < 18446744073709551616) (hp : 0 ≤ p) (l0 : -9223372036854775808 ≤ len) (l1 : len ≤ 9223372036854775807) (i0 : -9223372036854775808 ≤ i) (i1 : i ≤ 9223372036854775807) (h : 1 ≤ q) (h2 : 1 ≤ len) (h3 : len ≤ 65535) (h4 : 0 ≤ i) (h5 : i ≤ len - 1) (hk : K = 1) (h6 : 0 ≤ sec) (h7 : sec ≤ 4294967294) (h8 : p = 0) (h9 : len = 1) :
    Calls Tryd.prog 13 #[.agg #[.int .u8 K, .int .i64 sec, .int .u64 q, .int .u64 p, .int .i64 i, .int .i64 len]] w fun e w' => e = .returned (.bool true) ∧ Below w.heap.size w w' := by
  have g1 : decide (q < 1) = false := decide_eq_false (by omega)
  subst hk
  go_enter Tryd.func13, Tryd.ntmps13
  go_wp2_with (first | (go_at_call 23; (first | refine (within_yes _ _ _ _ (by omega) (by omega)).mono ?_ | refine (within_no _ _ _ _ (by omega)).mono ?_); rintro e w' ⟨rfl, rfl⟩) | (go_at_call 24; (first | refine (follows_yes _ _ _ _ _ _ _ (by omega) (by omega) (by omega) (by omega) (by omega) (by omega)).mono ?_ | refine (follows_no _ _ _ _ _ _ _ (by omega) (by omega) (by omega) (by omega) (by omega)).mono ?_); rintro e w' ⟨rfl, hb2⟩))
  go_ret
  exact ⟨ret_bool (by first | rfl | (simp; omega)), (Below.refl w.heap.size w).alloc (Nat.le_refl _) _⟩
theorem valid_82 (K sec q p i len : Int) (w : World) (hq0 : 0 ≤ q) (hq : q < 18446744073709551616) (hp : 0 ≤ p) (l0 : -9223372036854775808 ≤ len) (l1 : len ≤ 9223372036854775807) (i0 : -9223372036854775808 ≤ i) (i1 : i ≤ 9223372036854775807) (h : 1 ≤ q) (h2 : 1 ≤ len) (h3 : len ≤ 65535) (h4 : 0 ≤ i) (h5 : i ≤ len - 1) (hk : K = 2) (h6 : ¬ sec = 0) :
    Calls Tryd.prog 13 #[.agg #[.int .u8 K, .int .i64 sec, .int .u64 q, .int .u64 p, .int .i64 i, .int .i64 len]] w fun e w' => e = .returned (.bool false) ∧ Below w.heap.size w w' := by
  have g1 : decide (q < 1) = false := decide_eq_false (by omega)
  subst hk
  go_enter Tryd.func13, Tryd.ntmps13
  go_wp2_with (first | (go_at_call 23; (first | refine (within_yes _ _ _ _ (by omega) (by omega)).mono ?_ | refine (within_no _ _ _ _ (by omega)).mono ?_); rintro e w' ⟨rfl, rfl⟩) | (go_at_call 24; (first | refine (follows_yes _ _ _ _ _ _ _ (by omega) (by omega) (by omega) (by omega) (by omega) (by omega)).mono ?_ | refine (follows_no _ _ _ _ _ _ _ (by omega) (by omega) (by omega) (by omega) (by omega)).mono ?_); rintro e w' ⟨rfl, hb2⟩))
  go_ret
  exact ⟨ret_bool (by first | rfl | (simp; omega)), (Below.refl w.heap.size w).alloc (Nat.le_refl _) _⟩
theorem valid_92 (K sec q p i len : Int) (w : World) (hq0 : 0 ≤ q) (hq : q < 18446744073709551616) (hp : 0 ≤ p) (l0 : -9223372036854775808 ≤ len) (l1 : len ≤ 9223372036854775807) (i0 : -9223372036854775808 ≤ i) (i1 : i ≤ 9223372036854775807) (h : 1 ≤ q) (h2 : 1 ≤ len) (h3 : len ≤ 65535) (h4 : 0 ≤ i) (h5 : i ≤ len - 1) (hk : K = 2) (h6 : sec = 0) (h7 : ¬ (p < q ∧ i < q - p)) :
    Calls Tryd.prog 13 #[.agg #[.int .u8 K, .int .i64 sec, .int .u64 q, .int .u64 p, .int .i64 i, .int .i64 len]] w fun e w' => e = .returned (.bool false) ∧ Below w.heap.size w w' := by
  have g1 : decide (q < 1) = false := decide_eq_false (by omega)
  subst hk
  go_enter Tryd.func13, Tryd.ntmps13
  go_wp2_with (first | (go_at_call 23; (first | refine (within_yes _ _ _ _ (by omega) (by omega)).mono ?_ | refine (within_no _ _ _ _ (by omega)).mono ?_); rintro e w' ⟨rfl, rfl⟩) | (go_at_call 24; (first | refine (follows_yes _ _ _ _ _ _ _ (by omega) (by omega) (by omega) (by omega) (by omega) (by omega)).mono ?_ | refine (follows_no _ _ _ _ _ _ _ (by omega) (by omega) (by omega) (by omega) (by omega)).mono ?_); rintro e w' ⟨rfl, hb2⟩))
  go_ret
  exact ⟨ret_bool (by first | rfl | (simp; omega)), ((Below.refl w.heap.size w).alloc (Nat.le_refl _) _).trans (hb2.mono (by simp))⟩
theorem valid_102 (K sec q p i len : Int) (w : World) (hq0 : 0 ≤ q) (hq : q < 18446744073709551616) (hp : 0 ≤ p) (l0 : -9223372036854775808 ≤ len) (l1 : len ≤ 9223372036854775807) (i0 : -9223372036854775808 ≤ i) (i1 : i ≤ 9223372036854775807) (h : 1 ≤ q) (h2 : 1 ≤ len) (h3 : len ≤ 65535) (h4 : 0 ≤ i) (h5 : i ≤ len - 1) (hk : K = 2) (h6 : sec = 0) (h7 : p < q) (h8 : i < q - p) :
    Calls Tryd.prog 13 #[.agg #[.int .u8 K, .int .i64 sec, .int .u64 q, .int .u64 p, .int .i64 i, .int .i64 len]] w fun e w' => e = .returned (.bool true) ∧ Below w.heap.size w w' := by
  have g1 : decide (q < 1) = false := decide_eq_false (by omega)
  subst hk
  go_enter Tryd.func13, Tryd.ntmps13
  go_wp2_with (first | (go_at_call 23; (first | refine (within_yes _ _ _ _ (by omega) (by omega)).mono ?_ | refine (within_no _ _ _ _ (by omega)).mono ?_); rintro e w' ⟨rfl, rfl⟩) | (go_at_call 24; (first | refine (follows_yes _ _ _ _ _ _ _ (by omega) (by omega) (by omega) (by omega) (by omega) (by omega)).mono ?_ | refine (follows_no _ _ _ _ _ _ _ (by omega) (by omega) (by omega) (by omega) (by omega)).mono ?_); rintro e w' ⟨rfl, hb2⟩))
  go_ret
  exact ⟨ret_bool (by first | rfl | (simp; omega)), ((Below.refl w.heap.size w).alloc (Nat.le_refl _) _).trans (hb2.mono (by simp))⟩
theorem valid_83 (K sec q p i len : Int) (w : World) (hq0 : 0 ≤ q) (hq : q < 18446744073709551616) (hp : 0 ≤ p) (l0 : -9223372036854775808 ≤ len) (l1 : len ≤ 9223372036854775807) (i0 : -9223372036854775808 ≤ i) (i1 : i ≤ 9223372036854775807) (h : 1 ≤ q) (h2 : 1 ≤ len) (h3 : len ≤ 65535) (h4 : 0 ≤ i) (h5 : i ≤ len - 1) (hk : K = 3) (h6 : ¬ sec = 0) :
    Calls Tryd.prog 13 #[.agg #[.int .u8 K, .int .i64 sec, .int .u64 q, .int .u64 p, .int .i64 i, .int .i64 len]] w fun e w' => e = .returned (.bool false) ∧ Below w.heap.size w w' := by
  have g1 : decide (q < 1) = false := decide_eq_false (by omega)
  subst hk
  go_enter Tryd.func13, Tryd.ntmps13
  go_wp2_with (first | (go_at_call 23; (first | refine (within_yes _ _ _ _ (by omega) (by omega)).mono ?_ | refine (within_no _ _ _ _ (by omega)).mono ?_); rintro e w' ⟨rfl, rfl⟩) | (go_at_call 24; (first | refine (follows_yes _ _ _ _ _ _ _ (by omega) (by omega) (by omega) (by omega) (by omega) (by omega)).mono ?_ | refine (follows_no _ _ _ _ _ _ _ (by omega) (by omega) (by omega) (by omega) (by omega)).mono ?_); rintro e w' ⟨rfl, hb2⟩))
  go_ret
  exact ⟨ret_bool (by first | rfl | (simp; omega)), (Below.refl w.heap.size w).alloc (Nat.le_refl _) _⟩
theorem valid_93 (K sec q p i len : Int) (w : World) (hq0 : 0 ≤ q) (hq : q < 18446744073709551616) (hp : 0 ≤ p) (l0 : -9223372036854775808 ≤ len) (l1 : len ≤ 9223372036854775807) (i0 : -9223372036854775808 ≤ i) (i1 : i ≤ 9223372036854775807) (h : 1 ≤ q) (h2 : 1 ≤ len) (h3 : len ≤ 65535) (h4 : 0 ≤ i) (h5 : i ≤ len - 1) (hk : K = 3) (h6 : sec = 0) (h7 : ¬ (p < q ∧ i < q - p)) :
    Calls Tryd.prog 13 #[.agg #[.int .u8 K, .int .i64 sec, .int .u64 q, .int .u64 p, .int .i64 i, .int .i64 len]] w fun e w' => e = .returned (.bool false) ∧ Below w.heap.size w w' := by
  have g1 : decide (q < 1) = false := decide_eq_false (by omega)
  subst hk
  go_enter Tryd.func13, Tryd.ntmps13
  go_wp2_with (first | (go_at_call 23; (first | refine (within_yes _ _ _ _ (by omega) (by omega)).mono ?_ | refine (within_no _ _ _ _ (by omega)).mono ?_); rintro e w' ⟨rfl, rfl⟩) | (go_at_call 24; (first | refine (follows_yes _ _ _ _ _ _ _ (by omega) (by omega) (by omega) (by omega) (by omega) (by omega)).mono ?_ | refine (follows_no _ _ _ _ _ _ _ (by omega) (by omega) (by omega) (by omega) (by omega)).mono ?_); rintro e w' ⟨rfl, hb2⟩))
  go_ret
  exact ⟨ret_bool (by first | rfl | (simp; omega)), ((Below.refl w.heap.size w).alloc (Nat.le_refl _) _).trans (hb2.mono (by simp))⟩
theorem valid_103 (K sec q p i len : Int) (w : World) (hq0 : 0 ≤ q) (hq : q < 18446744073709551616) (hp : 0 ≤ p) (l0 : -9223372036854775808 ≤ len) (l1 : len ≤ 9223372036854775807) (i0 : -9223372036854775808 ≤ i) (i1 : i ≤ 9223372036854775807) (h : 1 ≤ q) (h2 : 1 ≤ len) (h3 : len ≤ 65535) (h4 : 0 ≤ i) (h5 : i ≤ len - 1) (hk : K = 3) (h6 : sec = 0) (h7 : p < q) (h8 : i < q - p) :
    Calls Tryd.prog 13 #[.agg #[.int .u8 K, .int .i64 sec, .int .u64 q, .int .u64 p, .int .i64 i, .int .i64 len]] w fun e w' => e = .returned (.bool true) ∧ Below w.heap.size w w' := by
  have g1 : decide (q < 1) = false := decide_eq_false (by omega)
  subst hk
  go_enter Tryd.func13, Tryd.ntmps13
  go_wp2_with (first | (go_at_call 23; (first | refine (within_yes _ _ _ _ (by omega) (by omega)).mono ?_ | refine (within_no _ _ _ _ (by omega)).mono ?_); rintro e w' ⟨rfl, rfl⟩) | (go_at_call 24; (first | refine (follows_yes _ _ _ _ _ _ _ (by omega) (by omega) (by omega) (by omega) (by omega) (by omega)).mono ?_ | refine (follows_no _ _ _ _ _ _ _ (by omega) (by omega) (by omega) (by omega) (by omega)).mono ?_); rintro e w' ⟨rfl, hb2⟩))
  go_ret
  exact ⟨ret_bool (by first | rfl | (simp; omega)), ((Below.refl w.heap.size w).alloc (Nat.le_refl _) _).trans (hb2.mono (by simp))⟩
theorem valid_11 (K sec q p i len : Int) (w : World) (hq0 : 0 ≤ q) (hq : q < 18446744073709551616) (hp : 0 ≤ p) (l0 : -9223372036854775808 ≤ len) (l1 : len ≤ 9223372036854775807) (i0 : -9223372036854775808 ≤ i) (i1 : i ≤ 9223372036854775807) (h : 1 ≤ q) (h2 : 1 ≤ len) (h3 : len ≤ 65535) (h4 : 0 ≤ i) (h5 : i ≤ len - 1) (k1 : ¬ K = 1) (k2 : ¬ K = 2) (k3 : ¬ K = 3) :
    Calls Tryd.prog 13 #[.agg #[.int .u8 K, .int .i64 sec, .int .u64 q, .int .u64 p, .int .i64 i, .int .i64 len]] w fun e w' => e = .returned (.bool false) ∧ Below w.heap.size w w' := by
  have g1 : decide (q < 1) = false := decide_eq_false (by omega)
  go_enter Tryd.func13, Tryd.ntmps13
  go_wp2_with (first | (go_at_call 23; (first | refine (within_yes _ _ _ _ (by omega) (by omega)).mono ?_ | refine (within_no _ _ _ _ (by omega)).mono ?_); rintro e w' ⟨rfl, rfl⟩) | (go_at_call 24; (first | refine (follows_yes _ _ _ _ _ _ _ (by omega) (by omega) (by omega) (by omega) (by omega) (by omega)).mono ?_ | refine (follows_no _ _ _ _ _ _ _ (by omega) (by omega) (by omega) (by omega) (by omega)).mono ?_); rintro e w' ⟨rfl, hb2⟩))
  go_ret
  exact ⟨ret_bool (by first | rfl | (simp; omega)), (Below.refl w.heap.size w).alloc (Nat.le_refl _) _⟩
theorem Valid_any (s : Sp) (hw : s.wf) (w : World) : Calls Tryd.prog 13 #[s.val] w fun e w' => e = .returned (.bool (decide s.ok)) ∧ Below w.heap.size w w' := by
  obtain ⟨k, sec, q, p, i, len⟩ := s
  obtain ⟨w1, w2, w3, w4, w5, w6, w7, w8, w9⟩ := hw
  simp only at w1 w2 w3 w4 w5 w6 w7 w8 w9
  have no : ¬ (Sp.mk k sec q p i len).ok → decide (Sp.mk k sec q p i len).ok = false := fun h => decide_eq_false h
  have yes : (Sp.mk k sec q p i len).ok → decide (Sp.mk k sec q p i len).ok = true := fun h => decide_eq_true h
  unfold Sp.val
  simp only [Sp.ok] at no yes ⊢
  by_cases a1 : (q : Int) < 1
  · rw [no (by omega)]; exact valid_1 _ _ _ _ _ _ _ (by omega) (by omega) (by omega) w8 w9 w6 w7 a1
  by_cases a2 : len < 1 ∨ 65535 < len
  · rw [no (by omega)]; exact valid_2 _ _ _ _ _ _ _ (by omega) (by omega) (by omega) w8 w9 w6 w7 (by omega) a2
  by_cases a3 : i < 0 ∨ len - 1 < i
  · rw [no (by omega)]; exact valid_3 _ _ _ _ _ _ _ (by omega) (by omega) (by omega) w8 w9 w6 w7 (by omega) (by omega) (by omega) a3
  by_cases k1 : k = 1
  · by_cases a4 : sec < 0 ∨ 4294967294 < sec
    · rw [no (by omega)]; exact valid_4 _ _ _ _ _ _ _ (by omega) (by omega) (by omega) w8 w9 w6 w7 (by omega) (by omega) (by omega) (by omega) (by omega) (by omega) a4
    by_cases a5 : p = 0
    · by_cases a6 : len = 1
      · rw [yes (by omega)]; exact valid_7 _ _ _ _ _ _ _ (by omega) (by omega) (by omega) w8 w9 w6 w7 (by omega) (by omega) (by omega) (by omega) (by omega) (by omega) (by omega) (by omega) (by omega) a6
      · rw [no (by omega)]; exact valid_6 _ _ _ _ _ _ _ (by omega) (by omega) (by omega) w8 w9 w6 w7 (by omega) (by omega) (by omega) (by omega) (by omega) (by omega) (by omega) (by omega) (by omega) a6
    · rw [no (by omega)]; exact valid_5 _ _ _ _ _ _ _ (by omega) (by omega) (by omega) w8 w9 w6 w7 (by omega) (by omega) (by omega) (by omega) (by omega) (by omega) (by omega) (by omega) (by omega)
  by_cases k2 : k = 2
  · by_cases a4 : sec = 0
    · by_cases a5 : (p : Int) < q ∧ i < (q : Int) - p
      · rw [yes (by omega)]; exact valid_102 _ _ _ _ _ _ _ (by omega) (by omega) (by omega) w8 w9 w6 w7 (by omega) (by omega) (by omega) (by omega) (by omega) (by omega) a4 a5.1 a5.2
      · rw [no (by omega)]; exact valid_92 _ _ _ _ _ _ _ (by omega) (by omega) (by omega) w8 w9 w6 w7 (by omega) (by omega) (by omega) (by omega) (by omega) (by omega) a4 a5
    · rw [no (by omega)]; exact valid_82 _ _ _ _ _ _ _ (by omega) (by omega) (by omega) w8 w9 w6 w7 (by omega) (by omega) (by omega) (by omega) (by omega) (by omega) a4
  by_cases k3 : k = 3
  · by_cases a4 : sec = 0
    · by_cases a5 : (p : Int) < q ∧ i < (q : Int) - p
      · rw [yes (by omega)]; exact valid_103 _ _ _ _ _ _ _ (by omega) (by omega) (by omega) w8 w9 w6 w7 (by omega) (by omega) (by omega) (by omega) (by omega) (by omega) a4 a5.1 a5.2
      · rw [no (by omega)]; exact valid_93 _ _ _ _ _ _ _ (by omega) (by omega) (by omega) w8 w9 w6 w7 (by omega) (by omega) (by omega) (by omega) (by omega) (by omega) a4 a5
    · rw [no (by omega)]; exact valid_83 _ _ _ _ _ _ _ (by omega) (by omega) (by omega) w8 w9 w6 w7 (by omega) (by omega) (by omega) (by omega) (by omega) (by omega) a4
  rw [no (by omega)]; exact valid_11 _ _ _ _ _ _ _ (by omega) (by omega) (by omega) w8 w9 w6 w7 (by omega) (by omega) (by omega) (by omega) (by omega) (by omega) (by omega) (by omega)
end Go.Proofs.YtcebockdfkjoiaaDoor
