/- The contracts of bits.Mul at 1 and a small number, of slices.Repeat at one page. Conditions stand in each theorem. -/
import Derived.Test.YtddejcoagcaidaaP
import Derived.Laws.CopyOwn
import Derived.Laws.MakeOwn
import Derived.Laws.BitsAll
namespace Go.Proofs.Ytddejcoagcaidaa
open Go.RowKit
set_option linter.unusedVariables false
set_option maxHeartbeats 2000000
set_option maxRecDepth 100000
theorem mask_small (n : Nat) (h : n ≤ 512) : bits .and .u64 (n : Int) 4294967295 = (n : Int) := by
  have : ∀ k : Fin 513, bits .and .u64 ((k.val : Nat) : Int) 4294967295 = ((k.val : Nat) : Int) := by decide +kernel
  exact this ⟨n, by omega⟩
theorem Mul64_any (n : Nat) (h : n ≤ 512) (w : World) : Calls Try.prog 79 #[.int .u64 1, .int .u64 (n : Int)] w fun e w' => e = .returned (.tuple #[.int .u64 0, .int .u64 (n : Int)]) ∧ w = w' := by
  have m1 := mask_small n h
  have m2 : bits .and .u64 1 4294967295 = 1 := mask_small 1 (by decide)
  have m3 : bits .and .u64 0 4294967295 = 0 := mask_small 0 (by decide)
  have hn : (n : Int) ≤ 512 := by omega
  have hn0 : (0 : Int) ≤ n := by omega
  have hd : (n : Int) / 4294967296 = 0 := by omega
  go_enter Try.func79, Try.ntmps79
  go_wp2
  go_ret2
  exact ⟨rfl, rfl⟩
theorem Mul_any (n : Nat) (h : n ≤ 512) (w : World) : Calls Try.prog 77 #[.int .u64 1, .int .u64 (n : Int)] w fun e w' => e = .returned (.tuple #[.int .u64 0, .int .u64 (n : Int)]) ∧ w = w' := by
  have HM := Lib.hid (Mul64_any n h)
  go_enter Try.func77, Try.ntmps77
  go_wp2_with ((go_at_call 79; with_reducible refine (HM.out _).mono ?_); rintro e w' ⟨rfl, rfl⟩)
  go_ret2
  exact ⟨rfl, rfl⟩
end Go.Proofs.Ytddejcoagcaidaa
