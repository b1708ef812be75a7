/- The contracts of the reference's Valid, put and get. Conditions stand in each theorem. -/
import Derived.Test.YtcebockdfkjoiaaDoorU
import Derived.BigQuiet
import Derived.Laws.BitsAll
namespace Go.Proofs.YtcebockdfkjoiaaDoor
open Go.RowKit
set_option linter.unusedVariables false
set_option maxHeartbeats 1000000
set_option maxRecDepth 100000

theorem rvalid_1 (K sec q p i len : Int) (w : World) (hq0 : 0 ≤ q) (hq : q < 18446744073709551616) (hp : 0 ≤ p) (l0 : -9223372036854775808 ≤ len) (l1 : len ≤ 9223372036854775807) (i0 : -9223372036854775808 ≤ i) (i1 : i ≤ 9223372036854775807) (h : q < 1) :
    Calls Tryd.prog 14 #[.agg #[.int .u8 K, .int .i64 sec, .int .u64 q, .int .u64 p, .int .i64 i, .int .i64 len]] w fun e w' => e = .returned (.bool false) ∧ Below w.heap.size w w' := by
  go_enter Tryd.func14, Tryd.ntmps14
  go_wp2
  go_ret
  exact ⟨ret_bool (by first | rfl | (simp; omega)), (Below.refl w.heap.size w).alloc (Nat.le_refl _) _⟩
theorem rvalid_2a (K sec q p i len : Int) (w : World) (hq0 : 0 ≤ q) (hq : q < 18446744073709551616) (hp : 0 ≤ p) (l0 : -9223372036854775808 ≤ len) (l1 : len ≤ 9223372036854775807) (i0 : -9223372036854775808 ≤ i) (i1 : i ≤ 9223372036854775807) (h : 1 ≤ q) (h2 : len < 1) :
    Calls Tryd.prog 14 #[.agg #[.int .u8 K, .int .i64 sec, .int .u64 q, .int .u64 p, .int .i64 i, .int .i64 len]] w fun e w' => e = .returned (.bool false) ∧ Below w.heap.size w w' := by
  have g1 : decide (q < 1) = false := decide_eq_false (by omega)
  go_enter Tryd.func14, Tryd.ntmps14
  go_wp2
  go_ret
  exact ⟨ret_bool (by first | rfl | (simp; omega)), (Below.refl w.heap.size w).alloc (Nat.le_refl _) _⟩
theorem rvalid_2b (K sec q p i len : Int) (w : World) (hq0 : 0 ≤ q) (hq : q < 18446744073709551616) (hp : 0 ≤ p) (l0 : -9223372036854775808 ≤ len) (l1 : len ≤ 9223372036854775807) (i0 : -9223372036854775808 ≤ i) (i1 : i ≤ 9223372036854775807) (h : 1 ≤ q) (h2 : 65535 < len) :
    Calls Tryd.prog 14 #[.agg #[.int .u8 K, .int .i64 sec, .int .u64 q, .int .u64 p, .int .i64 i, .int .i64 len]] w fun e w' => e = .returned (.bool false) ∧ Below w.heap.size w w' := by
  have g1 : decide (q < 1) = false := decide_eq_false (by omega)
  have g2 : decide (len < 1) = false := decide_eq_false (by omega)
  go_enter Tryd.func14, Tryd.ntmps14
  go_wp2
  go_ret
  exact ⟨ret_bool (by first | rfl | (simp; omega)), (Below.refl w.heap.size w).alloc (Nat.le_refl _) _⟩
theorem rvalid_3a (K sec q p i len : Int) (w : World) (hq0 : 0 ≤ q) (hq : q < 18446744073709551616) (hp : 0 ≤ p) (l0 : -9223372036854775808 ≤ len) (l1 : len ≤ 9223372036854775807) (i0 : -9223372036854775808 ≤ i) (i1 : i ≤ 9223372036854775807) (h : 1 ≤ q) (h2 : 1 ≤ len) (h3 : len ≤ 65535) (h4 : i < 0) :
    Calls Tryd.prog 14 #[.agg #[.int .u8 K, .int .i64 sec, .int .u64 q, .int .u64 p, .int .i64 i, .int .i64 len]] w fun e w' => e = .returned (.bool false) ∧ Below w.heap.size w w' := by
  have g1 : decide (q < 1) = false := decide_eq_false (by omega)
  have g2 : decide (len < 1) = false := decide_eq_false (by omega)
  have g3 : decide (65535 < len) = false := decide_eq_false (by omega)
  go_enter Tryd.func14, Tryd.ntmps14
  go_wp2
  go_ret
  exact ⟨ret_bool (by first | rfl | (simp; omega)), (Below.refl w.heap.size w).alloc (Nat.le_refl _) _⟩
theorem rvalid_3b (K sec q p i len : Int) (w : World) (hq0 : 0 ≤ q) (hq : q < 18446744073709551616) (hp : 0 ≤ p) (l0 : -9223372036854775808 ≤ len) (l1 : len ≤ 9223372036854775807) (i0 : -9223372036854775808 ≤ i) (i1 : i ≤ 9223372036854775807) (h : 1 ≤ q) (h2 : 1 ≤ len) (h3 : len ≤ 65535) (h4 : 0 ≤ i) (h5 : len ≤ i) :
    Calls Tryd.prog 14 #[.agg #[.int .u8 K, .int .i64 sec, .int .u64 q, .int .u64 p, .int .i64 i, .int .i64 len]] w fun e w' => e = .returned (.bool false) ∧ Below w.heap.size w w' := by
  have g1 : decide (q < 1) = false := decide_eq_false (by omega)
  have g2 : decide (len < 1) = false := decide_eq_false (by omega)
  have g3 : decide (65535 < len) = false := decide_eq_false (by omega)
  have g4 : decide (i < 0) = false := decide_eq_false (by omega)
  go_enter Tryd.func14, Tryd.ntmps14
  go_wp2
  go_ret
  exact ⟨ret_bool (by first | rfl | (simp; omega)), (Below.refl w.heap.size w).alloc (Nat.le_refl _) _⟩
theorem rvalid_4a (K sec q p i len : Int) (w : World) (hq0 : 0 ≤ q) (hq : q < 18446744073709551616) (hp : 0 ≤ p) (l0 : -9223372036854775808 ≤ len) (l1 : len ≤ 9223372036854775807) (i0 : -9223372036854775808 ≤ i) (i1 : i ≤ 9223372036854775807) (h : 1 ≤ q) (h2 : 1 ≤ len) (h3 : len ≤ 65535) (h4 : 0 ≤ i) (h5 : i < len) (hk : K = 1) (h6 : sec < 0) :
    Calls Tryd.prog 14 #[.agg #[.int .u8 K, .int .i64 sec, .int .u64 q, .int .u64 p, .int .i64 i, .int .i64 len]] w fun e w' => e = .returned (.bool false) ∧ Below w.heap.size w w' := by
  have g1 : decide (q < 1) = false := decide_eq_false (by omega)
  have g2 : decide (len < 1) = false := decide_eq_false (by omega)
  have g3 : decide (65535 < len) = false := decide_eq_false (by omega)
  have g4 : decide (i < 0) = false := decide_eq_false (by omega)
  have g5 : decide (len ≤ i) = false := decide_eq_false (by omega)
  subst hk
  have g6 : decide (0 ≤ sec) = false := decide_eq_false (by omega)
  go_enter Tryd.func14, Tryd.ntmps14
  go_wp2
  go_ret
  exact ⟨ret_bool (by first | rfl | (simp; omega)), (Below.refl w.heap.size w).alloc (Nat.le_refl _) _⟩
theorem rvalid_4b (K sec q p i len : Int) (w : World) (hq0 : 0 ≤ q) (hq : q < 18446744073709551616) (hp : 0 ≤ p) (l0 : -9223372036854775808 ≤ len) (l1 : len ≤ 9223372036854775807) (i0 : -9223372036854775808 ≤ i) (i1 : i ≤ 9223372036854775807) (h : 1 ≤ q) (h2 : 1 ≤ len) (h3 : len ≤ 65535) (h4 : 0 ≤ i) (h5 : i < len) (hk : K = 1) (h6 : 0 ≤ sec) (h7 : 4294967294 < sec) :
    Calls Tryd.prog 14 #[.agg #[.int .u8 K, .int .i64 sec, .int .u64 q, .int .u64 p, .int .i64 i, .int .i64 len]] w fun e w' => e = .returned (.bool false) ∧ Below w.heap.size w w' := by
  have g1 : decide (q < 1) = false := decide_eq_false (by omega)
  have g2 : decide (len < 1) = false := decide_eq_false (by omega)
  have g3 : decide (65535 < len) = false := decide_eq_false (by omega)
  have g4 : decide (i < 0) = false := decide_eq_false (by omega)
  have g5 : decide (len ≤ i) = false := decide_eq_false (by omega)
  subst hk
  have g6 : decide (sec ≤ 4294967294) = false := decide_eq_false (by omega)
  go_enter Tryd.func14, Tryd.ntmps14
  go_wp2
  go_ret
  exact ⟨ret_bool (by first | rfl | (simp; omega)), (Below.refl w.heap.size w).alloc (Nat.le_refl _) _⟩
theorem rvalid_5 (K sec q p i len : Int) (w : World) (hq0 : 0 ≤ q) (hq : q < 18446744073709551616) (hp : 0 ≤ p) (l0 : -9223372036854775808 ≤ len) (l1 : len ≤ 9223372036854775807) (i0 : -9223372036854775808 ≤ i) (i1 : i ≤ 9223372036854775807) (h : 1 ≤ q) (h2 : 1 ≤ len) (h3 : len ≤ 65535) (h4 : 0 ≤ i) (h5 : i < len) (hk : K = 1) (h6 : 0 ≤ sec) (h7 : sec ≤ 4294967294) (h8 : ¬ p = 0) :
    Calls Tryd.prog 14 #[.agg #[.int .u8 K, .int .i64 sec, .int .u64 q, .int .u64 p, .int .i64 i, .int .i64 len]] w fun e w' => e = .returned (.bool false) ∧ Below w.heap.size w w' := by
  have g1 : decide (q < 1) = false := decide_eq_false (by omega)
  have g2 : decide (len < 1) = false := decide_eq_false (by omega)
  have g3 : decide (65535 < len) = false := decide_eq_false (by omega)
  have g4 : decide (i < 0) = false := decide_eq_false (by omega)
  have g5 : decide (len ≤ i) = false := decide_eq_false (by omega)
  subst hk
  have g6 : (p == 0) = false := by simpa using h8
  go_enter Tryd.func14, Tryd.ntmps14
  go_wp2
  go_ret
  exact ⟨ret_bool (by first | rfl | (simp; omega)), (Below.refl w.heap.size w).alloc (Nat.le_refl _) _⟩
theorem rvalid_6 (K sec q p i len : Int) (w : World) (hq0 : 0 ≤ q) (hq : q < 18446744073709551616) (hp : 0 ≤ p) (l0 : -9223372036854775808 ≤ len) (l1 : len ≤ 9223372036854775807) (i0 : -9223372036854775808 ≤ i) (i1 : i ≤ 9223372036854775807) (h : 1 ≤ q) (h2 : 1 ≤ len) (h3 : len ≤ 65535) (h4 : 0 ≤ i) (h5 : i < len) (hk : K = 1) (h6 : 0 ≤ sec) (h7 : sec ≤ 4294967294) (h8 : p = 0) (h9 : ¬ len = 1) :
    Calls Tryd.prog 14 #[.agg #[.int .u8 K, .int .i64 sec, .int .u64 q, .int .u64 p, .int .i64 i, .int .i64 len]] w fun e w' => e = .returned (.bool false) ∧ Below w.heap.size w w' := by
  have g1 : decide (q < 1) = false := decide_eq_false (by omega)
  have g2 : decide (len < 1) = false := decide_eq_false (by omega)
  have g3 : decide (65535 < len) = false := decide_eq_false (by omega)
  have g4 : decide (i < 0) = false := decide_eq_false (by omega)
  have g5 : decide (len ≤ i) = false := decide_eq_false (by omega)
  subst hk
  go_enter Tryd.func14, Tryd.ntmps14
  go_wp2
  go_ret
  exact ⟨ret_bool (by first | rfl | (simp; omega)), (Below.refl w.heap.size w).alloc (Nat.le_refl _) _⟩
theorem rvalid_7 (K sec q p i len : Int) (w : World) (hq0 : 0 ≤ q) (hq : q < 18446744073709551616) (hp : 0 ≤ p) (l0 : -9223372036854775808 ≤ len) (l1 : len ≤ 9223372036854775807) (i0 : -9223372036854775808 ≤ i) (i1 : i ≤ 9223372036854775807) (h : 1 ≤ q) (h2 : 1 ≤ len) (h3 : len ≤ 65535) (h4 : 0 ≤ i) (h5 : i < len) (hk : K = 1) (h6 : 0 ≤ sec) (h7 : sec ≤ 4294967294) (h8 : p = 0) (h9 : len = 1) :
    Calls Tryd.prog 14 #[.agg #[.int .u8 K, .int .i64 sec, .int .u64 q, .int .u64 p, .int .i64 i, .int .i64 len]] w fun e w' => e = .returned (.bool true) ∧ Below w.heap.size w w' := by
  have g1 : decide (q < 1) = false := decide_eq_false (by omega)
  have g2 : decide (len < 1) = false := decide_eq_false (by omega)
  have g3 : decide (65535 < len) = false := decide_eq_false (by omega)
  have g4 : decide (i < 0) = false := decide_eq_false (by omega)
  have g5 : decide (len ≤ i) = false := decide_eq_false (by omega)
  subst hk
  go_enter Tryd.func14, Tryd.ntmps14
  go_wp2
  go_ret
  exact ⟨ret_bool (by first | rfl | (simp; omega)), (Below.refl w.heap.size w).alloc (Nat.le_refl _) _⟩
theorem rvalid_82 (K sec q p i len : Int) (w : World) (hq0 : 0 ≤ q) (hq : q < 18446744073709551616) (hp : 0 ≤ p) (l0 : -9223372036854775808 ≤ len) (l1 : len ≤ 9223372036854775807) (i0 : -9223372036854775808 ≤ i) (i1 : i ≤ 9223372036854775807) (h : 1 ≤ q) (h2 : 1 ≤ len) (h3 : len ≤ 65535) (h4 : 0 ≤ i) (h5 : i < len) (hk : K = 2) (h6 : ¬ sec = 0) :
    Calls Tryd.prog 14 #[.agg #[.int .u8 K, .int .i64 sec, .int .u64 q, .int .u64 p, .int .i64 i, .int .i64 len]] w fun e w' => e = .returned (.bool false) ∧ Below w.heap.size w w' := by
  have g1 : decide (q < 1) = false := decide_eq_false (by omega)
  have g2 : decide (len < 1) = false := decide_eq_false (by omega)
  have g3 : decide (65535 < len) = false := decide_eq_false (by omega)
  have g4 : decide (i < 0) = false := decide_eq_false (by omega)
  have g5 : decide (len ≤ i) = false := decide_eq_false (by omega)
  subst hk
  have g6 : (sec == 0) = false := by simpa using h6
  go_enter Tryd.func14, Tryd.ntmps14
  go_wp2
  go_ret
  exact ⟨ret_bool (by first | rfl | (simp; omega)), (Below.refl w.heap.size w).alloc (Nat.le_refl _) _⟩
theorem rvalid_9a2 (K sec q p i len : Int) (w : World) (hq0 : 0 ≤ q) (hq : q < 18446744073709551616) (hp : 0 ≤ p) (l0 : -9223372036854775808 ≤ len) (l1 : len ≤ 9223372036854775807) (i0 : -9223372036854775808 ≤ i) (i1 : i ≤ 9223372036854775807) (h : 1 ≤ q) (h2 : 1 ≤ len) (h3 : len ≤ 65535) (h4 : 0 ≤ i) (h5 : i < len) (hk : K = 2) (h6 : sec = 0) (h7 : ¬ p < q) :
    Calls Tryd.prog 14 #[.agg #[.int .u8 K, .int .i64 sec, .int .u64 q, .int .u64 p, .int .i64 i, .int .i64 len]] w fun e w' => e = .returned (.bool false) ∧ Below w.heap.size w w' := by
  have g1 : decide (q < 1) = false := decide_eq_false (by omega)
  have g2 : decide (len < 1) = false := decide_eq_false (by omega)
  have g3 : decide (65535 < len) = false := decide_eq_false (by omega)
  have g4 : decide (i < 0) = false := decide_eq_false (by omega)
  have g5 : decide (len ≤ i) = false := decide_eq_false (by omega)
  subst hk
  have g6 : decide (p < q) = false := decide_eq_false (by omega)
  go_enter Tryd.func14, Tryd.ntmps14
  go_wp2
  go_ret
  exact ⟨ret_bool (by first | rfl | (simp; omega)), (Below.refl w.heap.size w).alloc (Nat.le_refl _) _⟩
theorem rvalid_9b2 (K sec q p i len : Int) (w : World) (hq0 : 0 ≤ q) (hq : q < 18446744073709551616) (hp : 0 ≤ p) (l0 : -9223372036854775808 ≤ len) (l1 : len ≤ 9223372036854775807) (i0 : -9223372036854775808 ≤ i) (i1 : i ≤ 9223372036854775807) (h : 1 ≤ q) (h2 : 1 ≤ len) (h3 : len ≤ 65535) (h4 : 0 ≤ i) (h5 : i < len) (hk : K = 2) (h6 : sec = 0) (h7 : p < q) (h8 : ¬ i < q - p) :
    Calls Tryd.prog 14 #[.agg #[.int .u8 K, .int .i64 sec, .int .u64 q, .int .u64 p, .int .i64 i, .int .i64 len]] w fun e w' => e = .returned (.bool false) ∧ Below w.heap.size w w' := by
  have g1 : decide (q < 1) = false := decide_eq_false (by omega)
  have g2 : decide (len < 1) = false := decide_eq_false (by omega)
  have g3 : decide (65535 < len) = false := decide_eq_false (by omega)
  have g4 : decide (i < 0) = false := decide_eq_false (by omega)
  have g5 : decide (len ≤ i) = false := decide_eq_false (by omega)
  subst hk
  have g6 : decide (i < q - p) = false := decide_eq_false (by omega)
  go_enter Tryd.func14, Tryd.ntmps14
  go_wp2
  go_ret
  exact ⟨ret_bool (by first | rfl | (simp; omega)), (Below.refl w.heap.size w).alloc (Nat.le_refl _) _⟩
theorem rvalid_102 (K sec q p i len : Int) (w : World) (hq0 : 0 ≤ q) (hq : q < 18446744073709551616) (hp : 0 ≤ p) (l0 : -9223372036854775808 ≤ len) (l1 : len ≤ 9223372036854775807) (i0 : -9223372036854775808 ≤ i) (i1 : i ≤ 9223372036854775807) (h : 1 ≤ q) (h2 : 1 ≤ len) (h3 : len ≤ 65535) (h4 : 0 ≤ i) (h5 : i < len) (hk : K = 2) (h6 : sec = 0) (h7 : p < q) (h8 : i < q - p) :
    Calls Tryd.prog 14 #[.agg #[.int .u8 K, .int .i64 sec, .int .u64 q, .int .u64 p, .int .i64 i, .int .i64 len]] w fun e w' => e = .returned (.bool true) ∧ Below w.heap.size w w' := by
  have g1 : decide (q < 1) = false := decide_eq_false (by omega)
  have g2 : decide (len < 1) = false := decide_eq_false (by omega)
  have g3 : decide (65535 < len) = false := decide_eq_false (by omega)
  have g4 : decide (i < 0) = false := decide_eq_false (by omega)
  have g5 : decide (len ≤ i) = false := decide_eq_false (by omega)
  subst hk
  go_enter Tryd.func14, Tryd.ntmps14
  go_wp2
  go_ret
  exact ⟨ret_bool (by first | rfl | (simp; omega)), (Below.refl w.heap.size w).alloc (Nat.le_refl _) _⟩
theorem rvalid_83 (K sec q p i len : Int) (w : World) (hq0 : 0 ≤ q) (hq : q < 18446744073709551616) (hp : 0 ≤ p) (l0 : -9223372036854775808 ≤ len) (l1 : len ≤ 9223372036854775807) (i0 : -9223372036854775808 ≤ i) (i1 : i ≤ 9223372036854775807) (h : 1 ≤ q) (h2 : 1 ≤ len) (h3 : len ≤ 65535) (h4 : 0 ≤ i) (h5 : i < len) (hk : K = 3) (h6 : ¬ sec = 0) :
    Calls Tryd.prog 14 #[.agg #[.int .u8 K, .int .i64 sec, .int .u64 q, .int .u64 p, .int .i64 i, .int .i64 len]] w fun e w' => e = .returned (.bool false) ∧ Below w.heap.size w w' := by
  have g1 : decide (q < 1) = false := decide_eq_false (by omega)
  have g2 : decide (len < 1) = false := decide_eq_false (by omega)
  have g3 : decide (65535 < len) = false := decide_eq_false (by omega)
  have g4 : decide (i < 0) = false := decide_eq_false (by omega)
  have g5 : decide (len ≤ i) = false := decide_eq_false (by omega)
  subst hk
  have g6 : (sec == 0) = false := by simpa using h6
  go_enter Tryd.func14, Tryd.ntmps14
  go_wp2
  go_ret
  exact ⟨ret_bool (by first | rfl | (simp; omega)), (Below.refl w.heap.size w).alloc (Nat.le_refl _) _⟩
theorem rvalid_9a3 (K sec q p i len : Int) (w : World) (hq0 : 0 ≤ q) (hq : q < 18446744073709551616) (hp : 0 ≤ p) (l0 : -9223372036854775808 ≤ len) (l1 : len ≤ 9223372036854775807) (i0 : -9223372036854775808 ≤ i) (i1 : i ≤ 9223372036854775807) (h : 1 ≤ q) (h2 : 1 ≤ len) (h3 : len ≤ 65535) (h4 : 0 ≤ i) (h5 : i < len) (hk : K = 3) (h6 : sec = 0) (h7 : ¬ p < q) :
    Calls Tryd.prog 14 #[.agg #[.int .u8 K, .int .i64 sec, .int .u64 q, .int .u64 p, .int .i64 i, .int .i64 len]] w fun e w' => e = .returned (.bool false) ∧ Below w.heap.size w w' := by
  have g1 : decide (q < 1) = false := decide_eq_false (by omega)
  have g2 : decide (len < 1) = false := decide_eq_false (by omega)
  have g3 : decide (65535 < len) = false := decide_eq_false (by omega)
  have g4 : decide (i < 0) = false := decide_eq_false (by omega)
  have g5 : decide (len ≤ i) = false := decide_eq_false (by omega)
  subst hk
  have g6 : decide (p < q) = false := decide_eq_false (by omega)
  go_enter Tryd.func14, Tryd.ntmps14
  go_wp2
  go_ret
  exact ⟨ret_bool (by first | rfl | (simp; omega)), (Below.refl w.heap.size w).alloc (Nat.le_refl _) _⟩
theorem rvalid_9b3 (K sec q p i len : Int) (w : World) (hq0 : 0 ≤ q) (hq : q < 18446744073709551616) (hp : 0 ≤ p) (l0 : -9223372036854775808 ≤ len) (l1 : len ≤ 9223372036854775807) (i0 : -9223372036854775808 ≤ i) (i1 : i ≤ 9223372036854775807) (h : 1 ≤ q) (h2 : 1 ≤ len) (h3 : len ≤ 65535) (h4 : 0 ≤ i) (h5 : i < len) (hk : K = 3) (h6 : sec = 0) (h7 : p < q) (h8 : ¬ i < q - p) :
    Calls Tryd.prog 14 #[.agg #[.int .u8 K, .int .i64 sec, .int .u64 q, .int .u64 p, .int .i64 i, .int .i64 len]] w fun e w' => e = .returned (.bool false) ∧ Below w.heap.size w w' := by
  have g1 : decide (q < 1) = false := decide_eq_false (by omega)
  have g2 : decide (len < 1) = false := decide_eq_false (by omega)
  have g3 : decide (65535 < len) = false := decide_eq_false (by omega)
  have g4 : decide (i < 0) = false := decide_eq_false (by omega)
  have g5 : decide (len ≤ i) = false := decide_eq_false (by omega)
  subst hk
  have g6 : decide (i < q - p) = false := decide_eq_false (by omega)
  go_enter Tryd.func14, Tryd.ntmps14
  go_wp2
  go_ret
  exact ⟨ret_bool (by first | rfl | (simp; omega)), (Below.refl w.heap.size w).alloc (Nat.le_refl _) _⟩
theorem rvalid_103 (K sec q p i len : Int) (w : World) (hq0 : 0 ≤ q) (hq : q < 18446744073709551616) (hp : 0 ≤ p) (l0 : -9223372036854775808 ≤ len) (l1 : len ≤ 9223372036854775807) (i0 : -9223372036854775808 ≤ i) (i1 : i ≤ 9223372036854775807) (h : 1 ≤ q) (h2 : 1 ≤ len) (h3 : len ≤ 65535) (h4 : 0 ≤ i) (h5 : i < len) (hk : K = 3) (h6 : sec = 0) (h7 : p < q) (h8 : i < q - p) :
    Calls Tryd.prog 14 #[.agg #[.int .u8 K, .int .i64 sec, .int .u64 q, .int .u64 p, .int .i64 i, .int .i64 len]] w fun e w' => e = .returned (.bool true) ∧ Below w.heap.size w w' := by
  have g1 : decide (q < 1) = false := decide_eq_false (by omega)
  have g2 : decide (len < 1) = false := decide_eq_false (by omega)
  have g3 : decide (65535 < len) = false := decide_eq_false (by omega)
  have g4 : decide (i < 0) = false := decide_eq_false (by omega)
  have g5 : decide (len ≤ i) = false := decide_eq_false (by omega)
  subst hk
  go_enter Tryd.func14, Tryd.ntmps14
  go_wp2
  go_ret
  exact ⟨ret_bool (by first | rfl | (simp; omega)), (Below.refl w.heap.size w).alloc (Nat.le_refl _) _⟩
theorem rvalid_11 (K sec q p i len : Int) (w : World) (hq0 : 0 ≤ q) (hq : q < 18446744073709551616) (hp : 0 ≤ p) (l0 : -9223372036854775808 ≤ len) (l1 : len ≤ 9223372036854775807) (i0 : -9223372036854775808 ≤ i) (i1 : i ≤ 9223372036854775807) (h : 1 ≤ q) (h2 : 1 ≤ len) (h3 : len ≤ 65535) (h4 : 0 ≤ i) (h5 : i < len) (k1 : ¬ K = 1) (k2 : ¬ K = 2) (k3 : ¬ K = 3) :
    Calls Tryd.prog 14 #[.agg #[.int .u8 K, .int .i64 sec, .int .u64 q, .int .u64 p, .int .i64 i, .int .i64 len]] w fun e w' => e = .returned (.bool false) ∧ Below w.heap.size w w' := by
  have g1 : decide (q < 1) = false := decide_eq_false (by omega)
  have g2 : decide (len < 1) = false := decide_eq_false (by omega)
  have g3 : decide (65535 < len) = false := decide_eq_false (by omega)
  have g4 : decide (i < 0) = false := decide_eq_false (by omega)
  have g5 : decide (len ≤ i) = false := decide_eq_false (by omega)
  have e1 : (K == 1) = false := by simpa using k1
  have e2 : (K == 2) = false := by simpa using k2
  have e3 : (K == 3) = false := by simpa using k3
  go_enter Tryd.func14, Tryd.ntmps14
  go_wp2
  go_ret
  exact ⟨ret_bool (by first | rfl | (simp; omega)), (Below.refl w.heap.size w).alloc (Nat.le_refl _) _⟩
theorem rValid_any (s : Sp) (hw : s.wf) (w : World) : Calls Tryd.prog 14 #[s.val] w fun e w' => e = .returned (.bool (decide s.ok)) ∧ Below w.heap.size w w' := by
  obtain ⟨k, sec, q, p, i, len⟩ := s
  obtain ⟨w1, w2, w3, w4, w5, w6, w7, w8, w9⟩ := hw
  simp only at w1 w2 w3 w4 w5 w6 w7 w8 w9
  have no : ¬ (Sp.mk k sec q p i len).ok → decide (Sp.mk k sec q p i len).ok = false := fun h => decide_eq_false h
  have yes : (Sp.mk k sec q p i len).ok → decide (Sp.mk k sec q p i len).ok = true := fun h => decide_eq_true h
  unfold Sp.val
  simp only [Sp.ok] at no yes ⊢
  by_cases a1 : (q : Int) < 1
  · rw [no (by omega)]; exact rvalid_1 _ _ _ _ _ _ _ (by omega) (by omega) (by omega) w8 w9 w6 w7 (by omega)
  by_cases a2 : len < 1
  · rw [no (by omega)]; exact rvalid_2a _ _ _ _ _ _ _ (by omega) (by omega) (by omega) w8 w9 w6 w7 (by omega) (by omega)
  by_cases a3 : 65535 < len
  · rw [no (by omega)]; exact rvalid_2b _ _ _ _ _ _ _ (by omega) (by omega) (by omega) w8 w9 w6 w7 (by omega) (by omega)
  by_cases a4 : i < 0
  · rw [no (by omega)]; exact rvalid_3a _ _ _ _ _ _ _ (by omega) (by omega) (by omega) w8 w9 w6 w7 (by omega) (by omega) (by omega) (by omega)
  by_cases a5 : len ≤ i
  · rw [no (by omega)]; exact rvalid_3b _ _ _ _ _ _ _ (by omega) (by omega) (by omega) w8 w9 w6 w7 (by omega) (by omega) (by omega) (by omega) (by omega)
  by_cases k1 : k = 1
  · by_cases b1 : sec < 0
    · rw [no (by omega)]; exact rvalid_4a _ _ _ _ _ _ _ (by omega) (by omega) (by omega) w8 w9 w6 w7 (by omega) (by omega) (by omega) (by omega) (by omega) (by omega) (by omega)
    by_cases b2 : 4294967294 < sec
    · rw [no (by omega)]; exact rvalid_4b _ _ _ _ _ _ _ (by omega) (by omega) (by omega) w8 w9 w6 w7 (by omega) (by omega) (by omega) (by omega) (by omega) (by omega) (by omega) (by omega)
    by_cases b3 : ¬ p = 0
    · rw [no (by omega)]; exact rvalid_5 _ _ _ _ _ _ _ (by omega) (by omega) (by omega) w8 w9 w6 w7 (by omega) (by omega) (by omega) (by omega) (by omega) (by omega) (by omega) (by omega) (by omega)
    by_cases b4 : ¬ len = 1
    · rw [no (by omega)]; exact rvalid_6 _ _ _ _ _ _ _ (by omega) (by omega) (by omega) w8 w9 w6 w7 (by omega) (by omega) (by omega) (by omega) (by omega) (by omega) (by omega) (by omega) (by omega) (by omega)
    rw [yes (by omega)]; exact rvalid_7 _ _ _ _ _ _ _ (by omega) (by omega) (by omega) w8 w9 w6 w7 (by omega) (by omega) (by omega) (by omega) (by omega) (by omega) (by omega) (by omega) (by omega) (by omega)
  by_cases k2 : k = 2
  · by_cases b1 : ¬ sec = 0
    · rw [no (by omega)]; exact rvalid_82 _ _ _ _ _ _ _ (by omega) (by omega) (by omega) w8 w9 w6 w7 (by omega) (by omega) (by omega) (by omega) (by omega) (by omega) (by omega)
    by_cases b2 : ¬ (p : Int) < q
    · rw [no (by omega)]; exact rvalid_9a2 _ _ _ _ _ _ _ (by omega) (by omega) (by omega) w8 w9 w6 w7 (by omega) (by omega) (by omega) (by omega) (by omega) (by omega) (by omega) (by omega)
    by_cases b3 : ¬ i < (q : Int) - p
    · rw [no (by omega)]; exact rvalid_9b2 _ _ _ _ _ _ _ (by omega) (by omega) (by omega) w8 w9 w6 w7 (by omega) (by omega) (by omega) (by omega) (by omega) (by omega) (by omega) (by omega) (by omega)
    rw [yes (by omega)]; exact rvalid_102 _ _ _ _ _ _ _ (by omega) (by omega) (by omega) w8 w9 w6 w7 (by omega) (by omega) (by omega) (by omega) (by omega) (by omega) (by omega) (by omega) (by omega)
  by_cases k3 : k = 3
  · by_cases b1 : ¬ sec = 0
    · rw [no (by omega)]; exact rvalid_83 _ _ _ _ _ _ _ (by omega) (by omega) (by omega) w8 w9 w6 w7 (by omega) (by omega) (by omega) (by omega) (by omega) (by omega) (by omega)
    by_cases b2 : ¬ (p : Int) < q
    · rw [no (by omega)]; exact rvalid_9a3 _ _ _ _ _ _ _ (by omega) (by omega) (by omega) w8 w9 w6 w7 (by omega) (by omega) (by omega) (by omega) (by omega) (by omega) (by omega) (by omega)
    by_cases b3 : ¬ i < (q : Int) - p
    · rw [no (by omega)]; exact rvalid_9b3 _ _ _ _ _ _ _ (by omega) (by omega) (by omega) w8 w9 w6 w7 (by omega) (by omega) (by omega) (by omega) (by omega) (by omega) (by omega) (by omega) (by omega)
    rw [yes (by omega)]; exact rvalid_103 _ _ _ _ _ _ _ (by omega) (by omega) (by omega) w8 w9 w6 w7 (by omega) (by omega) (by omega) (by omega) (by omega) (by omega) (by omega) (by omega) (by omega)
  rw [no (by omega)]; exact rvalid_11 _ _ _ _ _ _ _ (by omega) (by omega) (by omega) w8 w9 w6 w7 (by omega) (by omega) (by omega) (by omega) (by omega) (by omega) (by omega) (by omega)
theorem getV_drop_le (l : List UInt8) (m : Nat) (h8 : l.length ≤ 8) (h : m < l.length) : getV (l.drop (m + 1)) ≤ 72057594037927935 := by
  have h1 := getV_lt (l.drop (m + 1))
  rw [List.length_drop] at h1
  have h2 : 256 ^ (l.length - (m + 1)) ≤ 256 ^ 7 := Nat.pow_le_pow_right (by decide) (by omega)
  omega
/-- The bytes of which k from a on are those of a field. -/
def patch (l : List UInt8) (a V k : Nat) : List UInt8 := l.take a ++ putB V k ++ l.drop (a + k)
theorem patch_zero (l : List UInt8) (a V : Nat) : patch l a V 0 = l := by simp [patch, putB_zero]
theorem patch_length (l : List UInt8) (a V k : Nat) (h : a + k ≤ l.length) : (patch l a V k).length = l.length := by
  simp only [patch, List.length_append, List.length_take, putB_length, List.length_drop]; omega
theorem patch_step (l : List UInt8) (a V k : Nat) (h : a + k < l.length) : patch l a V (k + 1) = (patch l a V k).set (a + k) (UInt8.ofNat (V / 256 ^ k)) := by
  have h1 : (l.take a ++ putB V k).length = a + k := by simp only [List.length_append, List.length_take, putB_length]; omega
  unfold patch
  rw [List.set_append_right _ _ (by omega), h1, Nat.sub_self, List.drop_eq_getElem_cons h, List.set_cons_zero, putB_succ, ← Nat.add_assoc]
  simp only [List.append_assoc, List.cons_append, List.nil_append]
theorem patch_tail (X : List UInt8) (gap V n m : Nat) : patch (X ++ List.replicate (gap + n + m) 0) (X.length + gap) V n = X ++ List.replicate gap 0 ++ putB V n ++ List.replicate m 0 := by
  unfold patch
  have e : X ++ List.replicate (gap + n + m) (0 : UInt8) = (X ++ List.replicate gap 0) ++ (List.replicate n 0 ++ List.replicate m 0) := by
    rw [Nat.add_assoc, ← List.replicate_append_replicate, ← List.replicate_append_replicate, List.append_assoc]
  have hl : (X ++ List.replicate gap (0 : UInt8)).length = X.length + gap := by simp
  rw [e, ← hl, List.take_left, ← List.drop_drop, List.drop_left, List.drop_left' (by simp)]
theorem put_any (g cg : Nat) (l : List UInt8) (a V n : Nat) (N : Int) (w : World) (hN : N = n) (h : RowAt w g l) (hg : g < w.heap.size) (hV : V < 18446744073709551616) (hn : n ≤ 8) (ha : a + n ≤ l.length) (hl : l.length ≤ 1000) :
    Calls Tryd.prog 25 #[.slice (some ⟨g, 0, none⟩) l.length cg, .int .i64 (a : Int), .int .i64 N, .int .u64 (V : Int)] w fun e w' => e = .returned (.tuple #[]) ∧ RowAt w' g (patch l a V n) ∧ Chg (· = g) w w' := by
  subst hN
  have H := Lib.hid h; have Hg := Lib.hid hg; clear h hg
  generalize hLL : l.length = LL at *
  have HLL := Lib.hid hLL; clear hLL
  go_enter Tryd.func25, Tryd.ntmps25
  go_wp2
  go_loopw [8] (fun i wr => ∃ k : Nat, k ≤ n ∧ i = .int .i64 k ∧ Hid (RowAt wr g (patch l a V k) ∧ Chg (· = g) w wr)) (fun i _ => n - (intOf i).toNat)
  case atStart => exact ⟨0, Nat.zero_le _, rfl, Lib.hid ⟨by rw [patch_zero]; exact H.out, Chg.refl _ _⟩⟩
  case round =>
    obtain ⟨k, hk, rfl, HI⟩ := hrel
    by_cases hlt : k < n
    · have hbk : a + k < (patch l a V k).length := by rw [patch_length l a V k (by have := HLL.out; omega), HLL.out]; omega
      have hc1 := (HI.out.1 _ hbk).1
      have hf1 := (HI.out.1 _ hbk).2
      obtain ⟨x, hx⟩ : ∃ x : Int, x = ((patch l a V k)[a + k].toNat : Int) := ⟨_, rfl⟩
      rw [← hx] at hc1
      have hv := byte_shift V k
      have HN := Lib.hid (show RowAt (wr.setCell ⟨g, a + k, none⟩ (.int .u8 ((V : Int) / 2 ^ (8 * k) % 256))) g (patch l a V (k + 1)) ∧ Chg (· = g) w (wr.setCell ⟨g, a + k, none⟩ (.int .u8 ((V : Int) / 2 ^ (8 * k) % 256))) from by
        refine ⟨?_, HI.out.2.setCell (p := ⟨g, a + k, none⟩) rfl _⟩
        rw [hv, patch_step l a V k (by have := HLL.out; omega)]
        exact HI.out.1.set hbk _)
      have hak : (a : Int) + k = ((a + k : Nat) : Int) := by omega
      have hakl : a + k < LL := by omega
      clear hbk hx hv
      generalize a + k = m at *
      have hm0 : (0 : Int) ≤ m := by omega
      have hm1 : (m : Int) < LL := by omega
      go_wp2
      go_roundw
      case rel => exact ⟨k + 1, by omega, by go_num, HN⟩
      case measure => simp [intOf]; omega
    · have e : k = n := by omega
      subst e
      go_wp2
      go_end0
      exact ⟨rfl, HI.out.1, HI.out.2⟩
theorem get_any (v : Value) (l : List UInt8) (a n : Nat) (A N : Int) (w : World) (hA : A = a) (hN : N = n) (h : Byt w v l) (hn : n ≤ 8) (ha : a + n ≤ l.length) (hl : l.length ≤ 1000) :
    Calls Tryd.prog 30 #[v, .int .i64 A, .int .i64 N] w fun e w' => e = .returned (.int .u64 (getV ((l.drop a).take n) : Nat)) ∧ w = w' := by
  subst hA; subst hN
  obtain ⟨A, c, rfl, hc, hr⟩ := h
  obtain ⟨m, hm⟩ : ∃ m, m = (l.drop a).take n := ⟨_, rfl⟩
  have hml : m.length = n := by rw [hm, List.length_take, List.length_drop]; omega
  have hcell : ∀ j (hj : j < m.length), ∃ g o, A = some ⟨g, o, none⟩ ∧ w.cell? ⟨g, o + (a + j), none⟩ = some (.int .u8 (m[j].toNat : Int)) := fun j hj => by
    obtain ⟨g, o, hA, -, hcl⟩ := hr (by omega)
    refine ⟨g, o, hA, ?_⟩
    rw [hcl (a + j) (by omega)]
    simp [hm]
  rw [← hm]
  have Hcell := Lib.hid hcell; have Hml := Lib.hid hml; clear hcell hr hm hml hc
  have hll : (l.length : Int) ≤ 1000 := by omega
  go_enter Tryd.func30, Tryd.ntmps30
  go_wp2
  go_loop [7, 8] (fun x i => ∃ k : Nat, k ≤ n ∧ i = .int .i64 ((k : Int) - 1) ∧ x = .int .u64 (getV (m.drop k) : Int)) (fun _ i => (intOf i + 1).toNat)
  case atStart => exact ⟨n, Nat.le_refl _, rfl, by rw [List.drop_eq_nil_of_le (by rw [Hml.out]; exact Nat.le_refl _)]; simp [getV]⟩
  case round =>
    obtain ⟨k, hk, rfl, rfl⟩ := hrel
    rcases Nat.eq_zero_or_pos k with hk0 | hk0
    · have HK := Lib.hid hk0
      go_wp2
      go_ret
      exact ⟨ret_int (by first | rfl | rw [HK.out, List.drop_zero]), rfl⟩
    · obtain ⟨j, rfl⟩ : ∃ j, k = j + 1 := ⟨k - 1, by omega⟩
      rw [show (((j + 1 : Nat) : Int) - 1) = (j : Int) by omega]
      have hlt : j < m.length := by have := Hml.out; omega
      obtain ⟨g, o, rfl, hck⟩ := Hcell.out j hlt
      have hbb := byte_lt m[j]
      have hle := getV_drop_le m j (by have := Hml.out; omega) hlt
      have Hd := Lib.hid (getV_drop m j hlt)
      generalize getV (m.drop (j + 1)) = y at *
      generalize m[j].toNat = z at *
      have hor : bits .or .u64 ((y : Int) * 256) (z : Int) = ((y * 256 + z : Nat) : Int) := by
        rw [show (y : Int) * 256 = ((y * 256 : Nat) : Int) by omega, u64_or_nat _ _ (by omega) (by omega)]
        congr 1
        rw [Nat.mul_comm, show (256 : Nat) = 2 ^ 8 from rfl, Nat.two_pow_add_eq_or_of_lt (by omega)]
      have hak : (a : Int) + j = ((a + j : Nat) : Int) := by omega
      have hakl : ((a + j : Nat) : Int) < l.length := by omega
      generalize a + j = t at *
      go_wp2
      go_round
      case rel => exact ⟨j, by omega, rfl, by rw [Hd.out]; go_num⟩
      case measure => simp [intOf]
end Go.Proofs.YtcebockdfkjoiaaDoor
