/- A slice of calls of a reader that came in is opened: its cells, and what lies behind them. No condition. -/
import Derived.Test.YtmolpnhgmdpdmaaDoorRt
import Derived.Test.YtmolpnhgmdpdmaaDoorLf
import Derived.Deep.SlicePairs
namespace Go.Proofs.YtmolpnhgmdpdmaaDoor
open Go.ChangeShapes Go.WideShapes Go.ChangeAt Go.RowKit
set_option linter.unusedVariables false
set_option maxHeartbeats 1000000

theorem cells67 : Tryd.prog.cellsOf 67 = 3 := by kernel_rfl
theorem cells3i : Tryd.prog.cellsOf 3 = 1 := by kernel_rfl
section
variable {H : Type} {enc : TypeId × Value → H} {W : World}
set_option maxRecDepth 100000 in
theorem open_int_cells {fuel : Nat} {cs : List Value} {x : DataW H × List MemPlace} (hf : DataW.trod enc Tryd.prog W 0 (fun _ => true) true fuel 65 cs = some x) : ∃ v l, cs = [v] ∧ Ints .i64 W v l ∧ l.length ≤ maxLen := by
  rcases open_ints Tryd.underlying65 Tryd.underlying3 cells3i hf with ⟨hcs, hx⟩ | ⟨a, len, cap, zs, hcs, _, hl, hm, hz, hx, hcell, hwz⟩
  · exact ⟨_, [], hcs, ⟨none, 0, rfl, by simp, fun h => absurd h (by simp)⟩, Nat.zero_le _⟩
  · simp only [if_true] at hz
    have hlen : (zs.take len).length = len := by simp; omega
    refine ⟨_, zs.take len, hcs, ⟨some a, cap, by rw [hlen], by omega, fun h0 => ?_⟩, by rw [hlen]; omega⟩
    rw [hlen] at h0
    obtain ⟨b, off, rfl, hc⟩ := ints_at hcell (by omega)
    refine ⟨b, off, rfl, World.block_lt_of_cell? W _ (hc 0 (by omega)), fun j hj => ?_⟩
    rw [hlen] at hj
    rw [hc j (by omega)]
    have hjz : j < zs.length := by omega
    have e : zs.getD j 0 = zs[j] := by simp [hjz]
    rw [e]
    congr 2
    simp only [List.getElem_take]
instance : Inhabited LookD := ⟨⟨0, 0, undef, []⟩⟩
/-- One call, from its three cells. -/
def AtLook (W : World) (a : Addr) (x : LookD) : Prop :=
  x.ok W ∧ W.cell? (a.add 0) = some (.int .i64 x.K) ∧ W.cell? (a.add 1) = some (.int .i64 x.N) ∧ W.cell? (a.add 2) = some x.sv
set_option maxRecDepth 100000 in
theorem open_look {n : Nat} {a : Addr} {cs : List Value} {d : DataW H × List MemPlace} (h1 : W.cells? 0 a 3 = some cs) (h2 : DataW.trod enc Tryd.prog W 0 (fun _ => true) true n 67 cs = some d) : ∃ x, AtLook W a x := by
  obtain ⟨_, hlen, hcell⟩ := World.cells?_some h1
  obtain ⟨ys, k, -, -, -, hxl, hf⟩ := DataW.trod_struct Tryd.underlying67 h2
  have g0 := hf 0 _ rfl
  have g1 := hf 1 _ rfl
  have g2 := hf 2 _ rfl
  match ys, hxl, cs, hlen with
  | [y0, y1, y2], _, [v0, v1, v2], _ =>
    simp only [List.getElem?_cons_zero, List.getElem?_cons_succ] at g0 g1 g2
    obtain ⟨K, e0, -, w0⟩ := DataW.trod_int (k := .i64) Tryd.underlying3 g0
    obtain ⟨N, e1, -, w1⟩ := DataW.trod_int (k := .i64) Tryd.underlying3 g1
    obtain ⟨sv, ns, e2, hI, hIl⟩ := open_int_cells g2
    refine ⟨⟨K, N, sv, ns⟩, ⟨hI, hIl⟩, ?_, ?_, ?_⟩
    · rw [← List.head_eq_of_cons_eq e0]; exact hcell 0 (by decide)
    · rw [← List.head_eq_of_cons_eq e1]; exact hcell 1 (by decide)
    · rw [← List.head_eq_of_cons_eq e2]; exact hcell 2 (by decide)
set_option maxRecDepth 100000 in
theorem open_lo {base : Nat} {v : Value} {d : DataW H} {ps : List MemPlace} (hval : Value.okWide Tryd.prog W .any base 61 v) (h : DataW.Trod enc Tryd.prog W 0 (fun _ => true) true 61 v d ps) : ∃ xs : List LookD, Lo W v xs := by
  obtain ⟨a0, len, cap, rfl⟩ := okWide_slice Tryd.underlying61 hval
  obtain ⟨fuel, hf⟩ := h
  rcases Deep.open_slice Tryd.underlying61 hf with ⟨hcs, hx⟩ | ⟨a, len', cap', m, n, D, Pl, hcs, _, hl, hm, hmm, hx, hel⟩
  · simp [Value.cells] at hcs
    obtain ⟨rfl, rfl, rfl⟩ := hcs
    exact ⟨[], ⟨_, 0, rfl, by simp, by simp, by simp, fun h => absurd h (by simp)⟩⟩
  · simp [Value.cells] at hcs
    obtain ⟨rfl, rfl, rfl⟩ := hcs
    simp only [if_true] at hmm
    subst hmm
    rw [cells67] at hel
    obtain ⟨q, hq⟩ := Deep.choose_lt (n := len) (p := fun i x => AtLook W (a.add (i * 3)) x) (fun i hi => by
      obtain ⟨cs', h1, h2⟩ := hel i (by omega)
      exact open_look h1 h2)
    have hlen : ((List.range len).map q).length = len := by simp
    refine ⟨(List.range len).map q, ⟨some a, m, by rw [hlen], by omega, by rw [hlen]; omega, fun x hx => ?_, fun h0 => ?_⟩⟩
    · obtain ⟨i, hi, rfl⟩ := List.mem_map.1 hx
      exact (hq i (List.mem_range.1 hi)).1
    · rw [hlen] at h0
      obtain ⟨b, off, spot⟩ := a
      have hspot : spot = none := by simpa [Addr.add] using World.cell?_spot (hq 0 h0).2.1
      subst hspot
      have hc0 := (hq 0 h0).2.1
      rw [add_plain, add_plain] at hc0
      refine ⟨b, off, rfl, World.block_lt_of_cell? W _ hc0, fun j hj => ?_⟩
      rw [hlen] at hj
      obtain ⟨-, g0, g1, g2⟩ := hq j hj
      rw [add_plain, add_plain] at g0 g1 g2
      simp only [List.getElem_map, List.getElem_range]
      exact ⟨g0, g1, g2⟩
end
end Go.Proofs.YtmolpnhgmdpdmaaDoor
