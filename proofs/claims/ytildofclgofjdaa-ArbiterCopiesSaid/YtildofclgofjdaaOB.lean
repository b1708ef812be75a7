/- Arguments opened: a configuration, a slice of loads. No condition. -/
import Derived.Test.YtildofclgofjdaaO
import Derived.Deep.SlicePairs
import Derived.Deep.Fields
namespace Go.Proofs.Ytildofclgofjdaa
open Go.ChangeShapes Go.WideShapes Go.ChangeAt Go.RowKit
set_option linter.unusedVariables false
theorem cells48 : Try.prog.cellsOf 48 = 2 := by kernel_rfl
theorem cells23 : Try.prog.cellsOf 23 = 5 := by kernel_rfl
theorem cells4 : Try.prog.cellsOf 4 = 1 := by kernel_rfl
section
variable {H : Type} {enc : TypeId × Value → H} {W : World}
set_option maxRecDepth 100000 in
/-- The five cells of a configuration. -/
theorem open_cfg5 {fuel : Nat} {c0 c1 c2 c3 c4 : Value} {x : DataW H × List MemPlace} (h : DataW.trod enc Try.prog W 0 (fun _ => true) true fuel 23 [c0, c1, c2, c3, c4] = some x) :
    ∃ wt bu hi me lo, c0 = .bool wt ∧ c1 = .int .i64 bu ∧ c2 = .int .i64 hi ∧ c3 = .int .i64 me ∧ c4 = .int .i64 lo ∧ I64 bu ∧ I64 hi ∧ I64 me ∧ I64 lo := by
  obtain ⟨xs, n, _, _, _, hlen, hg⟩ := DataW.trod_struct Try.underlying23 h
  have hl : xs.length = 5 := hlen
  match xs, hl with
  | [y0, y1, y2, y3, y4], _ =>
    have t0 : DataW.trod enc Try.prog W 0 (fun _ => true) true n 4 (([c0, c1, c2, c3, c4].drop 0).take (Try.prog.cellsOf 4)) = some y0 := hg 0 _ rfl
    have t1 : DataW.trod enc Try.prog W 0 (fun _ => true) true n 3 (([c0, c1, c2, c3, c4].drop 1).take (Try.prog.cellsOf 3)) = some y1 := hg 1 _ rfl
    have t2 : DataW.trod enc Try.prog W 0 (fun _ => true) true n 3 (([c0, c1, c2, c3, c4].drop 2).take (Try.prog.cellsOf 3)) = some y2 := hg 2 _ rfl
    have t3 : DataW.trod enc Try.prog W 0 (fun _ => true) true n 3 (([c0, c1, c2, c3, c4].drop 3).take (Try.prog.cellsOf 3)) = some y3 := hg 3 _ rfl
    have t4 : DataW.trod enc Try.prog W 0 (fun _ => true) true n 3 (([c0, c1, c2, c3, c4].drop 4).take (Try.prog.cellsOf 3)) = some y4 := hg 4 _ rfl
    rw [cells4] at t0
    rw [cells3] at t1 t2 t3 t4
    obtain ⟨b0, e0, _⟩ := DataW.trod_bool Try.underlying4 t0
    obtain ⟨n1, e1, -, w1⟩ := DataW.trod_int (k := .i64) Try.underlying3 t1
    obtain ⟨n2, e2, -, w2⟩ := DataW.trod_int (k := .i64) Try.underlying3 t2
    obtain ⟨n3, e3, -, w3⟩ := DataW.trod_int (k := .i64) Try.underlying3 t3
    obtain ⟨n4, e4, -, w4⟩ := DataW.trod_int (k := .i64) Try.underlying3 t4
    simp at e0 e1 e2 e3 e4
    exact ⟨b0, n1, n2, n3, n4, e0, e1, e2, e3, e4, i64_of_wf w1, i64_of_wf w2, i64_of_wf w3, i64_of_wf w4⟩
set_option maxRecDepth 100000 in
theorem open_cfg {base : Nat} {v : Value} {d : DataW H} {ps : List MemPlace} (hval : Value.okWide Try.prog W .any base 23 v) (h : DataW.Trod enc Try.prog W 0 (fun _ => true) true 23 v d ps) :
    ∃ wt bu hi me lo, v = .agg #[.bool wt, .int .i64 bu, .int .i64 hi, .int .i64 me, .int .i64 lo] ∧ I64 bu ∧ I64 hi ∧ I64 me ∧ I64 lo := by
  obtain ⟨cs, rfl, hsz⟩ := okWide_struct Try.underlying23 hval
  obtain ⟨fuel, hf⟩ := h
  obtain ⟨l⟩ := cs
  match l, hsz.trans cells23 with
  | [c0, c1, c2, c3, c4], _ =>
    obtain ⟨wt, bu, hi, me, lo, rfl, rfl, rfl, rfl, rfl, h⟩ := open_cfg5 (by simpa [Value.cells] using hf)
    exact ⟨wt, bu, hi, me, lo, rfl, h⟩
set_option maxRecDepth 100000 in
theorem open_lds0 {fuel : Nat} {A : Option Addr} {len cap : Nat} {x : DataW H × List MemPlace} (hf : DataW.trod enc Try.prog W 0 (fun _ => true) true fuel 40 [.slice A len cap] = some x) :
    ∃ l : List (Int × Int), Lds W (.slice A len cap) l ∧ Rng l ∧ l.length ≤ maxLen := by
  rcases Deep.open_slice_pairs Try.underlying40 Try.underlying48 cells48 rfl rfl cells3 cells3 hf with ⟨hcs, hx⟩ | ⟨a, len', cap', m, n, V0, V1, D0, D1, P0, P1, hcs, _, hl, hm, hmm, hx, hcell⟩
  · simp at hcs
    obtain ⟨rfl, rfl, rfl⟩ := hcs
    exact ⟨[], Lds.nil W, fun p hp => (by cases hp), Nat.zero_le _⟩
  · simp at hcs
    obtain ⟨rfl, rfl, rfl⟩ := hcs
    simp only [if_true] at hmm
    subst hmm
    have each : ∀ i, i < len → W.cell? (a.add (i * 2)) = some (.int .i64 (RowKit.intOf (V0 i))) ∧ W.cell? (a.add (i * 2 + 1)) = some (.int .i64 (RowKit.intOf (V1 i))) ∧ I64 (RowKit.intOf (V0 i)) ∧ I64 (RowKit.intOf (V1 i)) := by
      intro i hi
      obtain ⟨c0, c1, t0, t1⟩ := hcell i (by omega)
      obtain ⟨n0, e0, -, w0⟩ := DataW.trod_int (k := .i64) Try.underlying3 t0
      obtain ⟨n1, e1, -, w1⟩ := DataW.trod_int (k := .i64) Try.underlying3 t1
      simp at e0 e1
      rw [e0] at c0
      rw [e1] at c1
      rw [e0, e1]
      exact ⟨c0, c1, i64_of_wf w0, i64_of_wf w1⟩
    have hlen : ((List.range len).map fun i => (RowKit.intOf (V0 i), RowKit.intOf (V1 i))).length = len := by simp
    refine ⟨(List.range len).map fun i => (RowKit.intOf (V0 i), RowKit.intOf (V1 i)), ⟨some a, m, by rw [hlen], by omega, fun h0 => ?_⟩, fun f hf => ?_, by rw [hlen]; omega⟩
    · rw [hlen] at h0
      obtain ⟨b, off, spot⟩ := a
      have hspot : spot = none := by simpa [Addr.add] using World.cell?_spot (each 0 h0).1
      subst hspot
      have hc0 := (each 0 h0).1
      rw [add_plain] at hc0
      refine ⟨b, off, rfl, World.block_lt_of_cell? W _ hc0, fun j hj => ?_⟩
      rw [hlen] at hj
      obtain ⟨h1, h2, -⟩ := each j hj
      rw [add_plain] at h1 h2
      simp only [List.getElem_map, List.getElem_range]
      exact ⟨h1, by rw [Nat.add_assoc]; exact h2⟩
    · obtain ⟨i, hi, rfl⟩ := List.mem_map.1 hf
      exact (each i (List.mem_range.1 hi)).2.2
set_option maxRecDepth 100000 in
theorem open_lds {base : Nat} {v : Value} {d : DataW H} {ps : List MemPlace} (hval : Value.okWide Try.prog W .any base 40 v) (h : DataW.Trod enc Try.prog W 0 (fun _ => true) true 40 v d ps) :
    ∃ l : List (Int × Int), Lds W v l ∧ Rng l ∧ l.length ≤ maxLen := by
  obtain ⟨a0, len, cap, rfl⟩ := okWide_slice Try.underlying40 hval
  obtain ⟨fuel, hf⟩ := h
  exact open_lds0 (by simpa [Value.cells] using hf)
end
end Go.Proofs.Ytildofclgofjdaa
