/- The contract of the reference's Valid. Conditions stand in each theorem. -/
import Derived.Test.YtajlddgemkkcdaaQF
namespace Go.Proofs.Ytajlddgemkkcdaa
open Go.RowKit
set_option linter.unusedVariables false
set_option maxHeartbeats 1000000
set_option maxRecDepth 100000
theorem ret_bool {a b : Bool} (h : a = b) : Ending.returned (.bool a) = Ending.returned (.bool b) := by rw [h]
theorem rvalid_1 (K sec q p i len : Int) (w : World) (hq0 : 0 ≤ q) (hq : q < 18446744073709551616) (hp : 0 ≤ p) (l0 : -9223372036854775808 ≤ len) (l1 : len ≤ 9223372036854775807) (i0 : -9223372036854775808 ≤ i) (i1 : i ≤ 9223372036854775807) (h : q < 1) :
    Calls Try.prog 59 #[.agg #[.int .u8 K, .int .i64 sec, .int .u64 q, .int .u64 p, .int .i64 i, .int .i64 len]] w (Ret w (.bool false)) := by
  go_enter Try.func59, Try.ntmps59
  go_wp2
  go_ret
  exact ⟨ret_bool (by first | rfl | (simp; omega)), (Gr.refl _).alloc _⟩
theorem rvalid_2a (K sec q p i len : Int) (w : World) (hq0 : 0 ≤ q) (hq : q < 18446744073709551616) (hp : 0 ≤ p) (l0 : -9223372036854775808 ≤ len) (l1 : len ≤ 9223372036854775807) (i0 : -9223372036854775808 ≤ i) (i1 : i ≤ 9223372036854775807) (h : 1 ≤ q) (h2 : len < 1) :
    Calls Try.prog 59 #[.agg #[.int .u8 K, .int .i64 sec, .int .u64 q, .int .u64 p, .int .i64 i, .int .i64 len]] w (Ret w (.bool false)) := by
  have g1 : decide (q < 1) = false := decide_eq_false (by omega)
  go_enter Try.func59, Try.ntmps59
  go_wp2
  go_ret
  exact ⟨ret_bool (by first | rfl | (simp; omega)), (Gr.refl _).alloc _⟩
theorem rvalid_2b (K sec q p i len : Int) (w : World) (hq0 : 0 ≤ q) (hq : q < 18446744073709551616) (hp : 0 ≤ p) (l0 : -9223372036854775808 ≤ len) (l1 : len ≤ 9223372036854775807) (i0 : -9223372036854775808 ≤ i) (i1 : i ≤ 9223372036854775807) (h : 1 ≤ q) (h2 : 65535 < len) :
    Calls Try.prog 59 #[.agg #[.int .u8 K, .int .i64 sec, .int .u64 q, .int .u64 p, .int .i64 i, .int .i64 len]] w (Ret w (.bool false)) := by
  have g1 : decide (q < 1) = false := decide_eq_false (by omega)
  have g2 : decide (len < 1) = false := decide_eq_false (by omega)
  go_enter Try.func59, Try.ntmps59
  go_wp2
  go_ret
  exact ⟨ret_bool (by first | rfl | (simp; omega)), (Gr.refl _).alloc _⟩
theorem rvalid_3a (K sec q p i len : Int) (w : World) (hq0 : 0 ≤ q) (hq : q < 18446744073709551616) (hp : 0 ≤ p) (l0 : -9223372036854775808 ≤ len) (l1 : len ≤ 9223372036854775807) (i0 : -9223372036854775808 ≤ i) (i1 : i ≤ 9223372036854775807) (h : 1 ≤ q) (h2 : 1 ≤ len) (h3 : len ≤ 65535) (h4 : i < 0) :
    Calls Try.prog 59 #[.agg #[.int .u8 K, .int .i64 sec, .int .u64 q, .int .u64 p, .int .i64 i, .int .i64 len]] w (Ret w (.bool false)) := by
  have g1 : decide (q < 1) = false := decide_eq_false (by omega)
  have g2 : decide (len < 1) = false := decide_eq_false (by omega)
  have g3 : decide (65535 < len) = false := decide_eq_false (by omega)
  go_enter Try.func59, Try.ntmps59
  go_wp2
  go_ret
  exact ⟨ret_bool (by first | rfl | (simp; omega)), (Gr.refl _).alloc _⟩
theorem rvalid_3b (K sec q p i len : Int) (w : World) (hq0 : 0 ≤ q) (hq : q < 18446744073709551616) (hp : 0 ≤ p) (l0 : -9223372036854775808 ≤ len) (l1 : len ≤ 9223372036854775807) (i0 : -9223372036854775808 ≤ i) (i1 : i ≤ 9223372036854775807) (h : 1 ≤ q) (h2 : 1 ≤ len) (h3 : len ≤ 65535) (h4 : 0 ≤ i) (h5 : len ≤ i) :
    Calls Try.prog 59 #[.agg #[.int .u8 K, .int .i64 sec, .int .u64 q, .int .u64 p, .int .i64 i, .int .i64 len]] w (Ret w (.bool false)) := by
  have g1 : decide (q < 1) = false := decide_eq_false (by omega)
  have g2 : decide (len < 1) = false := decide_eq_false (by omega)
  have g3 : decide (65535 < len) = false := decide_eq_false (by omega)
  have g4 : decide (i < 0) = false := decide_eq_false (by omega)
  go_enter Try.func59, Try.ntmps59
  go_wp2
  go_ret
  exact ⟨ret_bool (by first | rfl | (simp; omega)), (Gr.refl _).alloc _⟩
theorem rvalid_4a (K sec q p i len : Int) (w : World) (hq0 : 0 ≤ q) (hq : q < 18446744073709551616) (hp : 0 ≤ p) (l0 : -9223372036854775808 ≤ len) (l1 : len ≤ 9223372036854775807) (i0 : -9223372036854775808 ≤ i) (i1 : i ≤ 9223372036854775807) (h : 1 ≤ q) (h2 : 1 ≤ len) (h3 : len ≤ 65535) (h4 : 0 ≤ i) (h5 : i < len) (hk : K = 1) (h6 : sec < 0) :
    Calls Try.prog 59 #[.agg #[.int .u8 K, .int .i64 sec, .int .u64 q, .int .u64 p, .int .i64 i, .int .i64 len]] w (Ret w (.bool false)) := by
  have g1 : decide (q < 1) = false := decide_eq_false (by omega)
  have g2 : decide (len < 1) = false := decide_eq_false (by omega)
  have g3 : decide (65535 < len) = false := decide_eq_false (by omega)
  have g4 : decide (i < 0) = false := decide_eq_false (by omega)
  have g5 : decide (len ≤ i) = false := decide_eq_false (by omega)
  subst hk
  have g6 : decide (0 ≤ sec) = false := decide_eq_false (by omega)
  go_enter Try.func59, Try.ntmps59
  go_wp2
  go_ret
  exact ⟨ret_bool (by first | rfl | (simp; omega)), (Gr.refl _).alloc _⟩
theorem rvalid_4b (K sec q p i len : Int) (w : World) (hq0 : 0 ≤ q) (hq : q < 18446744073709551616) (hp : 0 ≤ p) (l0 : -9223372036854775808 ≤ len) (l1 : len ≤ 9223372036854775807) (i0 : -9223372036854775808 ≤ i) (i1 : i ≤ 9223372036854775807) (h : 1 ≤ q) (h2 : 1 ≤ len) (h3 : len ≤ 65535) (h4 : 0 ≤ i) (h5 : i < len) (hk : K = 1) (h6 : 0 ≤ sec) (h7 : 4294967294 < sec) :
    Calls Try.prog 59 #[.agg #[.int .u8 K, .int .i64 sec, .int .u64 q, .int .u64 p, .int .i64 i, .int .i64 len]] w (Ret w (.bool false)) := by
  have g1 : decide (q < 1) = false := decide_eq_false (by omega)
  have g2 : decide (len < 1) = false := decide_eq_false (by omega)
  have g3 : decide (65535 < len) = false := decide_eq_false (by omega)
  have g4 : decide (i < 0) = false := decide_eq_false (by omega)
  have g5 : decide (len ≤ i) = false := decide_eq_false (by omega)
  subst hk
  have g6 : decide (sec ≤ 4294967294) = false := decide_eq_false (by omega)
  go_enter Try.func59, Try.ntmps59
  go_wp2
  go_ret
  exact ⟨ret_bool (by first | rfl | (simp; omega)), (Gr.refl _).alloc _⟩
theorem rvalid_5 (K sec q p i len : Int) (w : World) (hq0 : 0 ≤ q) (hq : q < 18446744073709551616) (hp : 0 ≤ p) (l0 : -9223372036854775808 ≤ len) (l1 : len ≤ 9223372036854775807) (i0 : -9223372036854775808 ≤ i) (i1 : i ≤ 9223372036854775807) (h : 1 ≤ q) (h2 : 1 ≤ len) (h3 : len ≤ 65535) (h4 : 0 ≤ i) (h5 : i < len) (hk : K = 1) (h6 : 0 ≤ sec) (h7 : sec ≤ 4294967294) (h8 : ¬ p = 0) :
    Calls Try.prog 59 #[.agg #[.int .u8 K, .int .i64 sec, .int .u64 q, .int .u64 p, .int .i64 i, .int .i64 len]] w (Ret w (.bool false)) := by
  have g1 : decide (q < 1) = false := decide_eq_false (by omega)
  have g2 : decide (len < 1) = false := decide_eq_false (by omega)
  have g3 : decide (65535 < len) = false := decide_eq_false (by omega)
  have g4 : decide (i < 0) = false := decide_eq_false (by omega)
  have g5 : decide (len ≤ i) = false := decide_eq_false (by omega)
  subst hk
  have g6 : (p == 0) = false := by simpa using h8
  go_enter Try.func59, Try.ntmps59
  go_wp2
  go_ret
  exact ⟨ret_bool (by first | rfl | (simp; omega)), (Gr.refl _).alloc _⟩
theorem rvalid_6 (K sec q p i len : Int) (w : World) (hq0 : 0 ≤ q) (hq : q < 18446744073709551616) (hp : 0 ≤ p) (l0 : -9223372036854775808 ≤ len) (l1 : len ≤ 9223372036854775807) (i0 : -9223372036854775808 ≤ i) (i1 : i ≤ 9223372036854775807) (h : 1 ≤ q) (h2 : 1 ≤ len) (h3 : len ≤ 65535) (h4 : 0 ≤ i) (h5 : i < len) (hk : K = 1) (h6 : 0 ≤ sec) (h7 : sec ≤ 4294967294) (h8 : p = 0) (h9 : ¬ len = 1) :
    Calls Try.prog 59 #[.agg #[.int .u8 K, .int .i64 sec, .int .u64 q, .int .u64 p, .int .i64 i, .int .i64 len]] w (Ret w (.bool false)) := by
  have g1 : decide (q < 1) = false := decide_eq_false (by omega)
  have g2 : decide (len < 1) = false := decide_eq_false (by omega)
  have g3 : decide (65535 < len) = false := decide_eq_false (by omega)
  have g4 : decide (i < 0) = false := decide_eq_false (by omega)
  have g5 : decide (len ≤ i) = false := decide_eq_false (by omega)
  subst hk
  go_enter Try.func59, Try.ntmps59
  go_wp2
  go_ret
  exact ⟨ret_bool (by first | rfl | (simp; omega)), (Gr.refl _).alloc _⟩
theorem rvalid_7 (K sec q p i len : Int) (w : World) (hq0 : 0 ≤ q) (hq : q < 18446744073709551616) (hp : 0 ≤ p) (l0 : -9223372036854775808 ≤ len) (l1 : len ≤ 9223372036854775807) (i0 : -9223372036854775808 ≤ i) (i1 : i ≤ 9223372036854775807) (h : 1 ≤ q) (h2 : 1 ≤ len) (h3 : len ≤ 65535) (h4 : 0 ≤ i) (h5 : i < len) (hk : K = 1) (h6 : 0 ≤ sec) (h7 : sec ≤ 4294967294) (h8 : p = 0) (h9 : len = 1) :
    Calls Try.prog 59 #[.agg #[.int .u8 K, .int .i64 sec, .int .u64 q, .int .u64 p, .int .i64 i, .int .i64 len]] w (Ret w (.bool true)) := by
  have g1 : decide (q < 1) = false := decide_eq_false (by omega)
  have g2 : decide (len < 1) = false := decide_eq_false (by omega)
  have g3 : decide (65535 < len) = false := decide_eq_false (by omega)
  have g4 : decide (i < 0) = false := decide_eq_false (by omega)
  have g5 : decide (len ≤ i) = false := decide_eq_false (by omega)
  subst hk
  go_enter Try.func59, Try.ntmps59
  go_wp2
  go_ret
  exact ⟨ret_bool (by first | rfl | (simp; omega)), (Gr.refl _).alloc _⟩
theorem rvalid_82 (K sec q p i len : Int) (w : World) (hq0 : 0 ≤ q) (hq : q < 18446744073709551616) (hp : 0 ≤ p) (l0 : -9223372036854775808 ≤ len) (l1 : len ≤ 9223372036854775807) (i0 : -9223372036854775808 ≤ i) (i1 : i ≤ 9223372036854775807) (h : 1 ≤ q) (h2 : 1 ≤ len) (h3 : len ≤ 65535) (h4 : 0 ≤ i) (h5 : i < len) (hk : K = 2) (h6 : ¬ sec = 0) :
    Calls Try.prog 59 #[.agg #[.int .u8 K, .int .i64 sec, .int .u64 q, .int .u64 p, .int .i64 i, .int .i64 len]] w (Ret w (.bool false)) := by
  have g1 : decide (q < 1) = false := decide_eq_false (by omega)
  have g2 : decide (len < 1) = false := decide_eq_false (by omega)
  have g3 : decide (65535 < len) = false := decide_eq_false (by omega)
  have g4 : decide (i < 0) = false := decide_eq_false (by omega)
  have g5 : decide (len ≤ i) = false := decide_eq_false (by omega)
  subst hk
  have g6 : (sec == 0) = false := by simpa using h6
  go_enter Try.func59, Try.ntmps59
  go_wp2
  go_ret
  exact ⟨ret_bool (by first | rfl | (simp; omega)), (Gr.refl _).alloc _⟩
theorem rvalid_9a2 (K sec q p i len : Int) (w : World) (hq0 : 0 ≤ q) (hq : q < 18446744073709551616) (hp : 0 ≤ p) (l0 : -9223372036854775808 ≤ len) (l1 : len ≤ 9223372036854775807) (i0 : -9223372036854775808 ≤ i) (i1 : i ≤ 9223372036854775807) (h : 1 ≤ q) (h2 : 1 ≤ len) (h3 : len ≤ 65535) (h4 : 0 ≤ i) (h5 : i < len) (hk : K = 2) (h6 : sec = 0) (h7 : ¬ p < q) :
    Calls Try.prog 59 #[.agg #[.int .u8 K, .int .i64 sec, .int .u64 q, .int .u64 p, .int .i64 i, .int .i64 len]] w (Ret w (.bool false)) := by
  have g1 : decide (q < 1) = false := decide_eq_false (by omega)
  have g2 : decide (len < 1) = false := decide_eq_false (by omega)
  have g3 : decide (65535 < len) = false := decide_eq_false (by omega)
  have g4 : decide (i < 0) = false := decide_eq_false (by omega)
  have g5 : decide (len ≤ i) = false := decide_eq_false (by omega)
  subst hk
  have g6 : decide (p < q) = false := decide_eq_false (by omega)
  go_enter Try.func59, Try.ntmps59
  go_wp2
  go_ret
  exact ⟨ret_bool (by first | rfl | (simp; omega)), (Gr.refl _).alloc _⟩
theorem rvalid_9b2 (K sec q p i len : Int) (w : World) (hq0 : 0 ≤ q) (hq : q < 18446744073709551616) (hp : 0 ≤ p) (l0 : -9223372036854775808 ≤ len) (l1 : len ≤ 9223372036854775807) (i0 : -9223372036854775808 ≤ i) (i1 : i ≤ 9223372036854775807) (h : 1 ≤ q) (h2 : 1 ≤ len) (h3 : len ≤ 65535) (h4 : 0 ≤ i) (h5 : i < len) (hk : K = 2) (h6 : sec = 0) (h7 : p < q) (h8 : ¬ i < q - p) :
    Calls Try.prog 59 #[.agg #[.int .u8 K, .int .i64 sec, .int .u64 q, .int .u64 p, .int .i64 i, .int .i64 len]] w (Ret w (.bool false)) := by
  have g1 : decide (q < 1) = false := decide_eq_false (by omega)
  have g2 : decide (len < 1) = false := decide_eq_false (by omega)
  have g3 : decide (65535 < len) = false := decide_eq_false (by omega)
  have g4 : decide (i < 0) = false := decide_eq_false (by omega)
  have g5 : decide (len ≤ i) = false := decide_eq_false (by omega)
  subst hk
  have g6 : decide (i < q - p) = false := decide_eq_false (by omega)
  go_enter Try.func59, Try.ntmps59
  go_wp2
  go_ret
  exact ⟨ret_bool (by first | rfl | (simp; omega)), (Gr.refl _).alloc _⟩
theorem rvalid_102 (K sec q p i len : Int) (w : World) (hq0 : 0 ≤ q) (hq : q < 18446744073709551616) (hp : 0 ≤ p) (l0 : -9223372036854775808 ≤ len) (l1 : len ≤ 9223372036854775807) (i0 : -9223372036854775808 ≤ i) (i1 : i ≤ 9223372036854775807) (h : 1 ≤ q) (h2 : 1 ≤ len) (h3 : len ≤ 65535) (h4 : 0 ≤ i) (h5 : i < len) (hk : K = 2) (h6 : sec = 0) (h7 : p < q) (h8 : i < q - p) :
    Calls Try.prog 59 #[.agg #[.int .u8 K, .int .i64 sec, .int .u64 q, .int .u64 p, .int .i64 i, .int .i64 len]] w (Ret w (.bool true)) := by
  have g1 : decide (q < 1) = false := decide_eq_false (by omega)
  have g2 : decide (len < 1) = false := decide_eq_false (by omega)
  have g3 : decide (65535 < len) = false := decide_eq_false (by omega)
  have g4 : decide (i < 0) = false := decide_eq_false (by omega)
  have g5 : decide (len ≤ i) = false := decide_eq_false (by omega)
  subst hk
  go_enter Try.func59, Try.ntmps59
  go_wp2
  go_ret
  exact ⟨ret_bool (by first | rfl | (simp; omega)), (Gr.refl _).alloc _⟩
theorem rvalid_83 (K sec q p i len : Int) (w : World) (hq0 : 0 ≤ q) (hq : q < 18446744073709551616) (hp : 0 ≤ p) (l0 : -9223372036854775808 ≤ len) (l1 : len ≤ 9223372036854775807) (i0 : -9223372036854775808 ≤ i) (i1 : i ≤ 9223372036854775807) (h : 1 ≤ q) (h2 : 1 ≤ len) (h3 : len ≤ 65535) (h4 : 0 ≤ i) (h5 : i < len) (hk : K = 3) (h6 : ¬ sec = 0) :
    Calls Try.prog 59 #[.agg #[.int .u8 K, .int .i64 sec, .int .u64 q, .int .u64 p, .int .i64 i, .int .i64 len]] w (Ret w (.bool false)) := by
  have g1 : decide (q < 1) = false := decide_eq_false (by omega)
  have g2 : decide (len < 1) = false := decide_eq_false (by omega)
  have g3 : decide (65535 < len) = false := decide_eq_false (by omega)
  have g4 : decide (i < 0) = false := decide_eq_false (by omega)
  have g5 : decide (len ≤ i) = false := decide_eq_false (by omega)
  subst hk
  have g6 : (sec == 0) = false := by simpa using h6
  go_enter Try.func59, Try.ntmps59
  go_wp2
  go_ret
  exact ⟨ret_bool (by first | rfl | (simp; omega)), (Gr.refl _).alloc _⟩
theorem rvalid_9a3 (K sec q p i len : Int) (w : World) (hq0 : 0 ≤ q) (hq : q < 18446744073709551616) (hp : 0 ≤ p) (l0 : -9223372036854775808 ≤ len) (l1 : len ≤ 9223372036854775807) (i0 : -9223372036854775808 ≤ i) (i1 : i ≤ 9223372036854775807) (h : 1 ≤ q) (h2 : 1 ≤ len) (h3 : len ≤ 65535) (h4 : 0 ≤ i) (h5 : i < len) (hk : K = 3) (h6 : sec = 0) (h7 : ¬ p < q) :
    Calls Try.prog 59 #[.agg #[.int .u8 K, .int .i64 sec, .int .u64 q, .int .u64 p, .int .i64 i, .int .i64 len]] w (Ret w (.bool false)) := by
  have g1 : decide (q < 1) = false := decide_eq_false (by omega)
  have g2 : decide (len < 1) = false := decide_eq_false (by omega)
  have g3 : decide (65535 < len) = false := decide_eq_false (by omega)
  have g4 : decide (i < 0) = false := decide_eq_false (by omega)
  have g5 : decide (len ≤ i) = false := decide_eq_false (by omega)
  subst hk
  have g6 : decide (p < q) = false := decide_eq_false (by omega)
  go_enter Try.func59, Try.ntmps59
  go_wp2
  go_ret
  exact ⟨ret_bool (by first | rfl | (simp; omega)), (Gr.refl _).alloc _⟩
theorem rvalid_9b3 (K sec q p i len : Int) (w : World) (hq0 : 0 ≤ q) (hq : q < 18446744073709551616) (hp : 0 ≤ p) (l0 : -9223372036854775808 ≤ len) (l1 : len ≤ 9223372036854775807) (i0 : -9223372036854775808 ≤ i) (i1 : i ≤ 9223372036854775807) (h : 1 ≤ q) (h2 : 1 ≤ len) (h3 : len ≤ 65535) (h4 : 0 ≤ i) (h5 : i < len) (hk : K = 3) (h6 : sec = 0) (h7 : p < q) (h8 : ¬ i < q - p) :
    Calls Try.prog 59 #[.agg #[.int .u8 K, .int .i64 sec, .int .u64 q, .int .u64 p, .int .i64 i, .int .i64 len]] w (Ret w (.bool false)) := by
  have g1 : decide (q < 1) = false := decide_eq_false (by omega)
  have g2 : decide (len < 1) = false := decide_eq_false (by omega)
  have g3 : decide (65535 < len) = false := decide_eq_false (by omega)
  have g4 : decide (i < 0) = false := decide_eq_false (by omega)
  have g5 : decide (len ≤ i) = false := decide_eq_false (by omega)
  subst hk
  have g6 : decide (i < q - p) = false := decide_eq_false (by omega)
  go_enter Try.func59, Try.ntmps59
  go_wp2
  go_ret
  exact ⟨ret_bool (by first | rfl | (simp; omega)), (Gr.refl _).alloc _⟩
theorem rvalid_103 (K sec q p i len : Int) (w : World) (hq0 : 0 ≤ q) (hq : q < 18446744073709551616) (hp : 0 ≤ p) (l0 : -9223372036854775808 ≤ len) (l1 : len ≤ 9223372036854775807) (i0 : -9223372036854775808 ≤ i) (i1 : i ≤ 9223372036854775807) (h : 1 ≤ q) (h2 : 1 ≤ len) (h3 : len ≤ 65535) (h4 : 0 ≤ i) (h5 : i < len) (hk : K = 3) (h6 : sec = 0) (h7 : p < q) (h8 : i < q - p) :
    Calls Try.prog 59 #[.agg #[.int .u8 K, .int .i64 sec, .int .u64 q, .int .u64 p, .int .i64 i, .int .i64 len]] w (Ret w (.bool true)) := by
  have g1 : decide (q < 1) = false := decide_eq_false (by omega)
  have g2 : decide (len < 1) = false := decide_eq_false (by omega)
  have g3 : decide (65535 < len) = false := decide_eq_false (by omega)
  have g4 : decide (i < 0) = false := decide_eq_false (by omega)
  have g5 : decide (len ≤ i) = false := decide_eq_false (by omega)
  subst hk
  go_enter Try.func59, Try.ntmps59
  go_wp2
  go_ret
  exact ⟨ret_bool (by first | rfl | (simp; omega)), (Gr.refl _).alloc _⟩
theorem rvalid_11 (K sec q p i len : Int) (w : World) (hq0 : 0 ≤ q) (hq : q < 18446744073709551616) (hp : 0 ≤ p) (l0 : -9223372036854775808 ≤ len) (l1 : len ≤ 9223372036854775807) (i0 : -9223372036854775808 ≤ i) (i1 : i ≤ 9223372036854775807) (h : 1 ≤ q) (h2 : 1 ≤ len) (h3 : len ≤ 65535) (h4 : 0 ≤ i) (h5 : i < len) (k1 : ¬ K = 1) (k2 : ¬ K = 2) (k3 : ¬ K = 3) :
    Calls Try.prog 59 #[.agg #[.int .u8 K, .int .i64 sec, .int .u64 q, .int .u64 p, .int .i64 i, .int .i64 len]] w (Ret w (.bool false)) := by
  have g1 : decide (q < 1) = false := decide_eq_false (by omega)
  have g2 : decide (len < 1) = false := decide_eq_false (by omega)
  have g3 : decide (65535 < len) = false := decide_eq_false (by omega)
  have g4 : decide (i < 0) = false := decide_eq_false (by omega)
  have g5 : decide (len ≤ i) = false := decide_eq_false (by omega)
  have e1 : (K == 1) = false := by simpa using k1
  have e2 : (K == 2) = false := by simpa using k2
  have e3 : (K == 3) = false := by simpa using k3
  go_enter Try.func59, Try.ntmps59
  go_wp2
  go_ret
  exact ⟨ret_bool (by first | rfl | (simp; omega)), (Gr.refl _).alloc _⟩
/-- What the reference's Valid says. -/
def rvB (x : Spr) : Bool := decide (1 ≤ x.q ∧ 1 ≤ x.n ∧ x.n ≤ 65535 ∧ 0 ≤ x.i ∧ x.i < x.n ∧ ((x.k = 1 ∧ 0 ≤ x.s ∧ x.s ≤ 4294967294 ∧ x.p = 0 ∧ x.n = 1) ∨ ((x.k = 2 ∨ x.k = 3) ∧ x.s = 0 ∧ x.p < x.q ∧ x.i < x.q - x.p)))
theorem rvB_jn {x : Spr} (hx : x.ok) (hk : x.k = 2 ∨ x.k = 3) : rvB x = jnB x := by
  have h1 := hx.p0
  unfold rvB jnB kdB wiB
  refine decide_eq_decide.2 ?_
  simp only [decide_eq_true_eq]
  constructor
  · intro h; refine ⟨⟨⟨⟨⟨hk, ?_⟩, ?_⟩, ?_⟩, ?_⟩, ?_⟩ <;> omega
  · intro h; omega
theorem rvalid_any (x : Spr) (hx : x.ok) (hi : I64 x.i) (hn : I64 x.n) (w : World) : Calls Try.prog 59 #[x.v] w (Ret w (.bool (rvB x))) := by
  obtain ⟨k, s, q, p, i, n⟩ := x
  obtain ⟨c0, c1, c2, c3⟩ := hx
  obtain ⟨w6, w7⟩ := hi
  obtain ⟨w8, w9⟩ := hn
  simp only at c0 c1 c2 c3 w6 w7 w8 w9
  have no : ¬ (1 ≤ q ∧ 1 ≤ n ∧ n ≤ 65535 ∧ 0 ≤ i ∧ i < n ∧ ((k = 1 ∧ 0 ≤ s ∧ s ≤ 4294967294 ∧ p = 0 ∧ n = 1) ∨ ((k = 2 ∨ k = 3) ∧ s = 0 ∧ p < q ∧ i < q - p))) → rvB ⟨k, s, q, p, i, n⟩ = false := fun h => decide_eq_false h
  have yes : (1 ≤ q ∧ 1 ≤ n ∧ n ≤ 65535 ∧ 0 ≤ i ∧ i < n ∧ ((k = 1 ∧ 0 ≤ s ∧ s ≤ 4294967294 ∧ p = 0 ∧ n = 1) ∨ ((k = 2 ∨ k = 3) ∧ s = 0 ∧ p < q ∧ i < q - p))) → rvB ⟨k, s, q, p, i, n⟩ = true := fun h => decide_eq_true h
  show Calls Try.prog 59 #[.agg #[.int .u8 k, .int .i64 s, .int .u64 q, .int .u64 p, .int .i64 i, .int .i64 n]] w (Ret w (.bool (rvB ⟨k, s, q, p, i, n⟩)))
  generalize rvB ⟨k, s, q, p, i, n⟩ = R at *
  by_cases a1 : (q : Int) < 1
  · rw [no (by omega)]; exact rvalid_1 _ _ _ _ _ _ _ (by omega) (by omega) (by omega) w8 w9 w6 w7 (by omega)
  by_cases a2 : n < 1
  · rw [no (by omega)]; exact rvalid_2a _ _ _ _ _ _ _ (by omega) (by omega) (by omega) w8 w9 w6 w7 (by omega) (by omega)
  by_cases a3 : 65535 < n
  · rw [no (by omega)]; exact rvalid_2b _ _ _ _ _ _ _ (by omega) (by omega) (by omega) w8 w9 w6 w7 (by omega) (by omega)
  by_cases a4 : i < 0
  · rw [no (by omega)]; exact rvalid_3a _ _ _ _ _ _ _ (by omega) (by omega) (by omega) w8 w9 w6 w7 (by omega) (by omega) (by omega) (by omega)
  by_cases a5 : n ≤ i
  · rw [no (by omega)]; exact rvalid_3b _ _ _ _ _ _ _ (by omega) (by omega) (by omega) w8 w9 w6 w7 (by omega) (by omega) (by omega) (by omega) (by omega)
  by_cases k1 : k = 1
  · by_cases b1 : s < 0
    · rw [no (by omega)]; exact rvalid_4a _ _ _ _ _ _ _ (by omega) (by omega) (by omega) w8 w9 w6 w7 (by omega) (by omega) (by omega) (by omega) (by omega) (by omega) (by omega)
    by_cases b2 : 4294967294 < s
    · rw [no (by omega)]; exact rvalid_4b _ _ _ _ _ _ _ (by omega) (by omega) (by omega) w8 w9 w6 w7 (by omega) (by omega) (by omega) (by omega) (by omega) (by omega) (by omega) (by omega)
    by_cases b3 : ¬ p = 0
    · rw [no (by omega)]; exact rvalid_5 _ _ _ _ _ _ _ (by omega) (by omega) (by omega) w8 w9 w6 w7 (by omega) (by omega) (by omega) (by omega) (by omega) (by omega) (by omega) (by omega) (by omega)
    by_cases b4 : ¬ n = 1
    · rw [no (by omega)]; exact rvalid_6 _ _ _ _ _ _ _ (by omega) (by omega) (by omega) w8 w9 w6 w7 (by omega) (by omega) (by omega) (by omega) (by omega) (by omega) (by omega) (by omega) (by omega) (by omega)
    rw [yes (by omega)]; exact rvalid_7 _ _ _ _ _ _ _ (by omega) (by omega) (by omega) w8 w9 w6 w7 (by omega) (by omega) (by omega) (by omega) (by omega) (by omega) (by omega) (by omega) (by omega) (by omega)
  by_cases k2 : k = 2
  · by_cases b1 : ¬ s = 0
    · rw [no (by omega)]; exact rvalid_82 _ _ _ _ _ _ _ (by omega) (by omega) (by omega) w8 w9 w6 w7 (by omega) (by omega) (by omega) (by omega) (by omega) (by omega) (by omega)
    by_cases b2 : ¬ (p : Int) < q
    · rw [no (by omega)]; exact rvalid_9a2 _ _ _ _ _ _ _ (by omega) (by omega) (by omega) w8 w9 w6 w7 (by omega) (by omega) (by omega) (by omega) (by omega) (by omega) (by omega) (by omega)
    by_cases b3 : ¬ i < (q : Int) - p
    · rw [no (by omega)]; exact rvalid_9b2 _ _ _ _ _ _ _ (by omega) (by omega) (by omega) w8 w9 w6 w7 (by omega) (by omega) (by omega) (by omega) (by omega) (by omega) (by omega) (by omega) (by omega)
    rw [yes (by omega)]; exact rvalid_102 _ _ _ _ _ _ _ (by omega) (by omega) (by omega) w8 w9 w6 w7 (by omega) (by omega) (by omega) (by omega) (by omega) (by omega) (by omega) (by omega) (by omega)
  by_cases k3 : k = 3
  · by_cases b1 : ¬ s = 0
    · rw [no (by omega)]; exact rvalid_83 _ _ _ _ _ _ _ (by omega) (by omega) (by omega) w8 w9 w6 w7 (by omega) (by omega) (by omega) (by omega) (by omega) (by omega) (by omega)
    by_cases b2 : ¬ (p : Int) < q
    · rw [no (by omega)]; exact rvalid_9a3 _ _ _ _ _ _ _ (by omega) (by omega) (by omega) w8 w9 w6 w7 (by omega) (by omega) (by omega) (by omega) (by omega) (by omega) (by omega) (by omega)
    by_cases b3 : ¬ i < (q : Int) - p
    · rw [no (by omega)]; exact rvalid_9b3 _ _ _ _ _ _ _ (by omega) (by omega) (by omega) w8 w9 w6 w7 (by omega) (by omega) (by omega) (by omega) (by omega) (by omega) (by omega) (by omega) (by omega)
    rw [yes (by omega)]; exact rvalid_103 _ _ _ _ _ _ _ (by omega) (by omega) (by omega) w8 w9 w6 w7 (by omega) (by omega) (by omega) (by omega) (by omega) (by omega) (by omega) (by omega) (by omega)
  rw [no (by omega)]; exact rvalid_11 _ _ _ _ _ _ _ (by omega) (by omega) (by omega) w8 w9 w6 w7 (by omega) (by omega) (by omega) (by omega) (by omega) (by omega) (by omega) (by omega)
end Go.Proofs.Ytajlddgemkkcdaa
