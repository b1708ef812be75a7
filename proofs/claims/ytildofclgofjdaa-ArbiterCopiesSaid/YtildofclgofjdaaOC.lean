/- Arguments opened: a call of the laws. No condition. -/
import Derived.Test.YtildofclgofjdaaOB
namespace Go.Proofs.Ytildofclgofjdaa
open Go.ChangeShapes Go.WideShapes Go.ChangeAt Go.RowKit
set_option linter.unusedVariables false
theorem cells42 : Try.prog.cellsOf 42 = 9 := by kernel_rfl
theorem cells39 : Try.prog.cellsOf 39 = 1 := by kernel_rfl
theorem cells40 : Try.prog.cellsOf 40 = 1 := by kernel_rfl
section
variable {H : Type} {enc : TypeId × Value → H} {W : World}
set_option maxRecDepth 100000 in
theorem open_ldsc {fuel : Nat} {c : Value} {x : DataW H × List MemPlace} (hf : DataW.trod enc Try.prog W 0 (fun _ => true) true fuel 40 [c] = some x) :
    ∃ (A : Option Addr) (len cap : Nat) (l : List (Int × Int)), c = .slice A len cap ∧ Lds W c l ∧ Rng l ∧ l.length ≤ maxLen := by
  have key : ∃ (A : Option Addr) (len cap : Nat), c = .slice A len cap := by
    rcases Deep.open_slice_pairs Try.underlying40 Try.underlying48 cells48 rfl rfl cells3 cells3 hf with ⟨hcs, _⟩ | ⟨a, len', cap', m, n, V0, V1, D0, D1, P0, P1, hcs, _⟩
    · simp at hcs
      exact ⟨_, _, _, hcs⟩
    · simp at hcs
      exact ⟨_, _, _, hcs⟩
  obtain ⟨A, len, cap, rfl⟩ := key
  obtain ⟨l, h⟩ := open_lds0 hf
  exact ⟨A, len, cap, l, rfl, h⟩
/-- A call: nine cells. -/
structure ActIs (W : World) (c0 c1 c2 c3 c4 c5 c6 c7 c8 : Value) (kd q c : Int) (wt : Bool) (bu hi me lo : Int) (l : List (Int × Int)) : Prop where
  e0 : c0 = .int .i64 kd
  e1 : c1 = .int .i64 q
  e2 : c2 = .int .i64 c
  e3 : c3 = .bool wt
  e4 : c4 = .int .i64 bu
  e5 : c5 = .int .i64 hi
  e6 : c6 = .int .i64 me
  e7 : c7 = .int .i64 lo
  e8 : ∃ (A : Option Addr) (len cap : Nat), c8 = .slice A len cap
  iq : I64 q
  ic : I64 c
  lds : Lds W c8 l
  rng : Rng l
set_option maxRecDepth 100000 in
theorem open_act9 {fuel : Nat} {c0 c1 c2 c3 c4 c5 c6 c7 c8 : Value} {x : DataW H × List MemPlace} (h : DataW.trod enc Try.prog W 0 (fun _ => true) true fuel 42 [c0, c1, c2, c3, c4, c5, c6, c7, c8] = some x) :
    ∃ kd q c wt bu hi me lo l, ActIs W c0 c1 c2 c3 c4 c5 c6 c7 c8 kd q c wt bu hi me lo l := by
  obtain ⟨xs, n, _, _, _, hlen, hg⟩ := DataW.trod_struct Try.underlying42 h
  have hl : xs.length = 5 := hlen
  match xs, hl with
  | [y0, y1, y2, y3, y4], _ =>
    have t0 : DataW.trod enc Try.prog W 0 (fun _ => true) true n 3 (([c0, c1, c2, c3, c4, c5, c6, c7, c8].drop 0).take (Try.prog.cellsOf 3)) = some y0 := hg 0 _ rfl
    have t1 : DataW.trod enc Try.prog W 0 (fun _ => true) true n 3 (([c0, c1, c2, c3, c4, c5, c6, c7, c8].drop 1).take (Try.prog.cellsOf 3)) = some y1 := hg 1 _ rfl
    have t2 : DataW.trod enc Try.prog W 0 (fun _ => true) true n 39 (([c0, c1, c2, c3, c4, c5, c6, c7, c8].drop 2).take (Try.prog.cellsOf 39)) = some y2 := hg 2 _ rfl
    have t3 : DataW.trod enc Try.prog W 0 (fun _ => true) true n 23 (([c0, c1, c2, c3, c4, c5, c6, c7, c8].drop 3).take (Try.prog.cellsOf 23)) = some y3 := hg 3 _ rfl
    have t4 : DataW.trod enc Try.prog W 0 (fun _ => true) true n 40 (([c0, c1, c2, c3, c4, c5, c6, c7, c8].drop 8).take (Try.prog.cellsOf 40)) = some y4 := hg 4 _ rfl
    rw [cells3] at t0 t1
    rw [cells39] at t2
    rw [cells23] at t3
    rw [cells40] at t4
    obtain ⟨n0, e0, -, w0⟩ := DataW.trod_int (k := .i64) Try.underlying3 t0
    obtain ⟨n1, e1, -, w1⟩ := DataW.trod_int (k := .i64) Try.underlying3 t1
    obtain ⟨n2, e2, -, w2⟩ := DataW.trod_int (k := .i64) Try.underlying39 t2
    obtain ⟨wt, bu, hi, me, lo, e3, e4, e5, e6, e7, _⟩ := open_cfg5 t3
    obtain ⟨A, len, cap, l, e8, hL, hR, _⟩ := open_ldsc t4
    simp at e0 e1 e2
    exact ⟨n0, n1, n2, wt, bu, hi, me, lo, l, e0, e1, e2, e3, e4, e5, e6, e7, ⟨A, len, cap, e8⟩, i64_of_wf w1, i64_of_wf w2, hL, hR⟩
set_option maxRecDepth 100000 in
theorem open_act {base : Nat} {v : Value} {d : DataW H} {ps : List MemPlace} (hval : Value.okWide Try.prog W .any base 42 v) (h : DataW.Trod enc Try.prog W 0 (fun _ => true) true 42 v d ps) :
    ∃ (kd q c : Int) (wt : Bool) (bu hi me lo : Int) (A : Option Addr) (len cap : Nat), v = .agg #[.int .i64 kd, .int .i64 q, .int .i64 c, .bool wt, .int .i64 bu, .int .i64 hi, .int .i64 me, .int .i64 lo, .slice A len cap] := by
  obtain ⟨cs, rfl, hsz⟩ := okWide_struct Try.underlying42 hval
  obtain ⟨fuel, hf⟩ := h
  obtain ⟨l⟩ := cs
  match l, hsz.trans cells42 with
  | [c0, c1, c2, c3, c4, c5, c6, c7, c8], _ =>
    obtain ⟨kd, q, c, wt, bu, hi, me, lo, l, ha⟩ := open_act9 (by simpa [Value.cells] using hf)
    obtain ⟨rfl, rfl, rfl, rfl, rfl, rfl, rfl, rfl, ⟨A, len, cap, rfl⟩, _⟩ := ha
    exact ⟨kd, q, c, wt, bu, hi, me, lo, A, len, cap, rfl⟩
end
end Go.Proofs.Ytildofclgofjdaa
