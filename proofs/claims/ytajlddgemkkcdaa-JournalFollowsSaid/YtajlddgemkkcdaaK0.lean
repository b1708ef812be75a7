/- Keys of records in maps. Conditions stand in each theorem. -/
import Derived.Test.YtajlddgemkkcdaaJA
import Derived.DeepKeys4
import Derived.WideKeyEntry
namespace Go.Proofs.Ytajlddgemkkcdaa
open Go.RowKit
set_option linter.unusedVariables false
set_option maxHeartbeats 4000000
set_option maxRecDepth 100000
theorem laid76 : laidOutB Try.prog = true := by kernel_rfl
theorem row76 : (76 : TypeId) < Try.prog.types.size := of_decide_eq_true (by kernel_rfl)
theorem lawR : WideMaps.KeyLaw Try.prog 76 := deep_law_laid laid76 (m := 2) (by omega) row76 (by kernel_rfl) (by kernel_rfl)
structure Rec.ok (x : Rec) : Prop where
  k0 : 0 ≤ x.k
  k1 : x.k ≤ 255
  f0 : 0 ≤ x.f
  f1 : x.f ≤ 18446744073709551615
  p0 : 0 ≤ x.p
  p1 : x.p ≤ 18446744073709551615
  n0 : 0 ≤ x.n
  n1 : x.n ≤ 65535
theorem key_of (r : Rec) (h : r.ok) : ∃ kl, keyOf Try.prog 76 r.v = some kl := by
  obtain ⟨k0, k1, f0, f1, p0, p1, n0, n1⟩ := h
  have e1 : Try.prog.keyType 76 = true := by kernel_rfl
  have c76 : Try.prog.cellsOf 76 = 4 := by kernel_rfl
  have c38 : Try.prog.cellsOf 38 = 1 := by kernel_rfl
  have c34 : Try.prog.cellsOf 34 = 1 := by kernel_rfl
  have c3 : Try.prog.cellsOf 3 = 1 := by kernel_rfl
  have e2 : r.v.formed Try.prog 76 = true := by
    simp [Value.formed, Try.underlying76, c76]
  obtain ⟨d, hd⟩ : ∃ d, Try.prog.types.size + 1 = d + 2 := by
    obtain ⟨d, hd⟩ := Nat.exists_eq_add_of_le (Nat.le_trans (by decide : 1 ≤ 77) row76)
    exact ⟨d, by omega⟩
  have w1 := WalkArith.wf_u8 ⟨k0, k1⟩
  have w2 := WalkArith.wf_u64 ⟨f0, f1⟩
  have w3 := WalkArith.wf_u64 ⟨p0, p1⟩
  have w4 := WalkArith.wf_i64 (n := r.n) (by omega)
  have e3 : Try.prog.keyLits (d + 2) 76 r.v.cells.toList = some [.int .u8 r.k, .int .u64 r.f, .int .u64 r.p, .int .i64 r.n] := by
    simp [Program.keyLits, Try.underlying76, Try.underlying38, Try.underlying34, Try.underlying3, c76, c38, c34, c3, w1, w2, w3, w4, Value.cells]
  unfold keyOf
  simp only [Try.underlying76, e1, e2]
  rw [hd, e3]
  exact ⟨_, rfl⟩
end Go.Proofs.Ytajlddgemkkcdaa
