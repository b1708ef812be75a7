/- An argument opened: three bytes. No condition. -/
import Derived.Test.YtildofclgofjdaaOB
namespace Go.Proofs.Ytildofclgofjdaa
open Go.ChangeShapes Go.WideShapes Go.ChangeAt Go.RowKit
set_option linter.unusedVariables false
theorem cells44 : Try.prog.cellsOf 44 = 3 := by kernel_rfl
theorem cells5 : Try.prog.cellsOf 5 = 1 := by kernel_rfl
theorem okWide_three {P : Program} {w : World} {r : Reach} {base : Nat} {t e : TypeId} {v : Value} {n : Nat} (ht : P.underlying t = some (.array n e)) (h : Value.okWide P w r base t v) : ∃ cs, v = .agg cs ∧ cs.size = P.cellsOf t := by
  simp only [Value.okWide, ht] at h
  obtain ⟨cs, h1, h2, _⟩ := h
  exact ⟨cs, h1, h2⟩
theorem nat_of_u8 {n : Int} (h : (Lit.int .u8 n).wf = true) : ∃ x : Nat, n = (x : Int) ∧ x ≤ 255 := by
  have := bounds_u8 h
  exact ⟨n.toNat, by omega, by omega⟩
section
variable {H : Type} {enc : TypeId × Value → H} {W : World}
set_option maxRecDepth 100000 in
theorem open_three0 {fuel : Nat} {c0 c1 c2 : Value} {x : DataW H × List MemPlace} (h : DataW.trod enc Try.prog W 0 (fun _ => true) true fuel 44 [c0, c1, c2] = some x) :
    ∃ x0 x1 x2 : Nat, c0 = .int .u8 x0 ∧ c1 = .int .u8 x1 ∧ c2 = .int .u8 x2 ∧ x0 ≤ 255 ∧ x1 ≤ 255 ∧ x2 ≤ 255 := by
  obtain ⟨xs, m, _, _, _, hlen, hg⟩ := DataW.trod_array Try.underlying44 h
  have hl : xs.length = 3 := hlen
  match xs, hl with
  | [y0, y1, y2], _ =>
    have t0 := hg 0 (by decide)
    have t1 := hg 1 (by decide)
    have t2 := hg 2 (by decide)
    rw [cells5] at t0 t1 t2
    obtain ⟨n0, e0, -, w0⟩ := DataW.trod_int (k := .u8) Try.underlying5 t0
    obtain ⟨n1, e1, -, w1⟩ := DataW.trod_int (k := .u8) Try.underlying5 t1
    obtain ⟨n2, e2, -, w2⟩ := DataW.trod_int (k := .u8) Try.underlying5 t2
    simp at e0 e1 e2
    obtain ⟨x0, rfl, b0⟩ := nat_of_u8 w0
    obtain ⟨x1, rfl, b1⟩ := nat_of_u8 w1
    obtain ⟨x2, rfl, b2⟩ := nat_of_u8 w2
    exact ⟨x0, x1, x2, e0, e1, e2, b0, b1, b2⟩
set_option maxRecDepth 100000 in
theorem open_three {base : Nat} {v : Value} {d : DataW H} {ps : List MemPlace} (hval : Value.okWide Try.prog W .any base 44 v) (h : DataW.Trod enc Try.prog W 0 (fun _ => true) true 44 v d ps) :
    ∃ x0 x1 x2 : Nat, v = .agg #[.int .u8 x0, .int .u8 x1, .int .u8 x2] ∧ x0 ≤ 255 ∧ x1 ≤ 255 ∧ x2 ≤ 255 := by
  obtain ⟨cs, rfl, hsz⟩ := okWide_three Try.underlying44 hval
  obtain ⟨fuel, hf⟩ := h
  obtain ⟨l⟩ := cs
  match l, hsz.trans cells44 with
  | [c0, c1, c2], _ =>
    obtain ⟨x0, x1, x2, rfl, rfl, rfl, h⟩ := open_three0 (by simpa [Value.cells] using hf)
    exact ⟨x0, x1, x2, rfl, h⟩
end
end Go.Proofs.Ytildofclgofjdaa
