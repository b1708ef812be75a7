/- Two calls that came in are opened. No condition. -/
import Derived.Test.YtmnlkejhhdbhlaaO
namespace Go.Proofs.Ytmnlkejhhdbhlaa
open Go.ChangeShapes Go.WideShapes Go.ChangeAt Go.RowKit
set_option linter.unusedVariables false
theorem cells54 : Try.prog.cellsOf 54 = 10 := by kernel_rfl
/-- The cells of two calls. -/
abbrev two2 (a c : KA) : Array Value := #[.int .i64 a.wh, .int .i64 a.n, .int .u64 (a.ad : Int), a.vb, .int .u8 (a.x.toNat : Int), .int .i64 c.wh, .int .i64 c.n, .int .u64 (c.ad : Int), c.vb, .int .u8 (c.x.toNat : Int)]
section
variable {H : Type} {enc : TypeId × Value → H} {W : World}
set_option maxRecDepth 100000 in
theorem open_two {base : Nat} {v : Value} {d : DataW H} {ps : List MemPlace} (hval : Value.okWide Try.prog W .any base 54 v) (h : DataW.Trod enc Try.prog W 0 (fun _ => true) true 54 v d ps) : ∃ a c : KA, v = .agg (two2 a c) ∧ KA.ok W a ∧ KA.ok W c := by
  simp only [Value.okWide, Try.underlying54] at hval
  obtain ⟨cs, rfl, hsz, _⟩ := hval
  obtain ⟨fuel, hf⟩ := h
  obtain ⟨l⟩ := cs
  match l, hsz.trans cells54 with
  | [c0, c1, c2, c3, c4, c5, c6, c7, c8, c9], _ =>
    obtain ⟨xs, n, _, _, _, hlen, hg⟩ := DataW.trod_array Try.underlying54 (show DataW.trod enc Try.prog W 0 (fun _ => true) true fuel 54 [c0, c1, c2, c3, c4, c5, c6, c7, c8, c9] = some (d, ps) by simpa [Value.cells] using hf)
    have hl : xs.length = 2 := hlen
    match xs, hl with
    | [y0, y1], _ =>
      have t0 := hg 0 (by decide)
      have t1 := hg 1 (by decide)
      rw [cells40] at t0 t1
      obtain ⟨a, ha, hao⟩ := open_act5 (show DataW.trod enc Try.prog W 0 (fun _ => true) true n 40 [c0, c1, c2, c3, c4] = some y0 from t0)
      obtain ⟨c, hc, hco⟩ := open_act5 (show DataW.trod enc Try.prog W 0 (fun _ => true) true n 40 [c5, c6, c7, c8, c9] = some y1 from t1)
      simp only [KA.cells, Array.mk.injEq, List.cons.injEq, and_true] at ha hc
      obtain ⟨rfl, rfl, rfl, rfl, rfl⟩ := ha
      obtain ⟨rfl, rfl, rfl, rfl, rfl⟩ := hc
      exact ⟨a, c, rfl, hao, hco⟩
end
end Go.Proofs.Ytmnlkejhhdbhlaa
