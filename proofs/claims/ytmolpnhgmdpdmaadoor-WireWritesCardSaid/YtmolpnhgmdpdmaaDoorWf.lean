/- A slice of calls that came in is opened: its cells, and what lies behind them. No condition. -/
import Derived.Test.YtmolpnhgmdpdmaaDoorWe
import Derived.Test.YtmolpnhgmdpdmaaDoorLf
import Derived.Deep.SlicePairs
namespace Go.Proofs.YtmolpnhgmdpdmaaDoor
open Go.ChangeShapes Go.WideShapes Go.ChangeAt Go.RowKit
set_option linter.unusedVariables false
set_option maxHeartbeats 1000000

theorem cells58 : Tryd.prog.cellsOf 58 = 5 := by kernel_rfl
theorem cells56 : Tryd.prog.cellsOf 56 = 1 := by kernel_rfl
theorem cells23 : Tryd.prog.cellsOf 23 = 1 := by kernel_rfl
section
variable {H : Type} {enc : TypeId × Value → H} {W : World}
set_option maxRecDepth 100000 in
theorem open_byt_cells {fuel : Nat} {cs : List Value} {x : DataW H × List MemPlace} (hf : DataW.trod enc Tryd.prog W 0 (fun _ => true) true fuel 23 cs = some x) : ∃ v l, cs = [v] ∧ Byt W v l ∧ l.length ≤ maxLen := by
  rcases open_ints Tryd.underlying23 Tryd.underlying5 cells5 hf with ⟨hcs, hx⟩ | ⟨a, len, cap, zs, hcs, _, hl, hm, hz, hx, hcell, hwz⟩
  · exact ⟨_, [], hcs, Byt.none W, Nat.zero_le _⟩
  · simp only [if_true] at hz
    have hlen : ((zs.take len).map fun z => UInt8.ofNat z.toNat).length = len := by simp; omega
    refine ⟨_, (zs.take len).map fun z => UInt8.ofNat z.toNat, hcs, ⟨some a, cap, by rw [hlen], by omega, fun h0 => ?_⟩, by rw [hlen]; omega⟩
    rw [hlen] at h0
    obtain ⟨b, off, rfl, hc⟩ := ints_at hcell (by omega)
    refine ⟨b, off, rfl, World.block_lt_of_cell? W _ (hc 0 (by omega)), fun j hj => ?_⟩
    rw [hlen] at hj
    rw [hc j (by omega)]
    have hjz : j < zs.length := by omega
    have hb := bounds_u8 (hwz zs[j] (List.getElem_mem hjz))
    have e : zs.getD j 0 = zs[j] := by simp [hjz]
    rw [e]
    congr 2
    simp only [List.getElem_map, List.getElem_take]
    rw [UInt8.toNat_ofNat']
    omega
set_option maxRecDepth 100000 in
theorem open_fl_cells {fuel : Nat} {cs : List Value} {x : DataW H × List MemPlace} (hf : DataW.trod enc Tryd.prog W 0 (fun _ => true) true fuel 56 cs = some x) :
    ∃ v fs, cs = [v] ∧ Fl W v fs ∧ (∀ f ∈ fs, 0 ≤ f.1 ∧ f.1 ≤ 18446744073709551615) ∧ fs.length ≤ maxLen := by
  rcases Deep.open_slice_pairs Tryd.underlying56 Tryd.underlying74 cells74 rfl rfl cells22 cells3 hf with ⟨hcs, hx⟩ | ⟨a, len, cap, m, n, V0, V1, D0, D1, P0, P1, hcs, _, hl, hm, hmm, hx, hcell⟩
  · exact ⟨_, [], hcs, ⟨_, 0, rfl, by simp, fun h => absurd h (by simp)⟩, by simp, Nat.zero_le _⟩
  · simp only [if_true] at hmm
    subst hmm
    have each : ∀ i, i < len → W.cell? (a.add (i * 2)) = some (.int .u64 (intOf (V0 i))) ∧ W.cell? (a.add (i * 2 + 1)) = some (.int .i64 (intOf (V1 i))) ∧ 0 ≤ intOf (V0 i) ∧ intOf (V0 i) ≤ 18446744073709551615 := by
      intro i hi
      obtain ⟨c0, c1, t0, t1⟩ := hcell i (by omega)
      obtain ⟨n0, e0, -, w0⟩ := DataW.trod_int (k := .u64) Tryd.underlying22 t0
      obtain ⟨n1, e1, -, w1⟩ := DataW.trod_int (k := .i64) Tryd.underlying3 t1
      simp at e0 e1
      rw [e0] at c0
      rw [e1] at c1
      rw [e0, e1]
      have hb := bounds_u64 w0
      exact ⟨c0, c1, hb.1, by show n0 ≤ _; omega⟩
    have hlen : ((List.range len).map fun i => (intOf (V0 i), intOf (V1 i))).length = len := by simp
    refine ⟨_, (List.range len).map fun i => (intOf (V0 i), intOf (V1 i)), hcs, ⟨some a, m, by rw [hlen], by omega, fun h0 => ?_⟩, fun f hf => ?_, by rw [hlen]; omega⟩
    · rw [hlen] at h0
      obtain ⟨b, off, spot⟩ := a
      have hspot : spot = none := by simpa [Addr.add] using World.cell?_spot (each 0 h0).1
      subst hspot
      have hc0 := (each 0 h0).1
      rw [add_plain] at hc0
      refine ⟨b, off, rfl, World.block_lt_of_cell? W _ hc0, fun j hj => ?_⟩
      rw [hlen] at hj
      obtain ⟨h1, h2, -⟩ := each j hj
      rw [add_plain] at h1 h2
      simp only [List.getElem_map, List.getElem_range]
      exact ⟨h1, by rw [Nat.add_assoc]; exact h2⟩
    · obtain ⟨i, hi, rfl⟩ := List.mem_map.1 hf
      exact (each i (List.mem_range.1 hi)).2.2
instance : Inhabited ActD := ⟨⟨0, 0, 0, undef, undef, [], []⟩⟩
/-- One call, from its five cells. -/
def AtAct (W : World) (a : Addr) (x : ActD) : Prop :=
  x.ok W ∧ W.cell? (a.add 0) = some (.int .i64 x.K) ∧ W.cell? (a.add 1) = some (.int .u64 x.V) ∧ W.cell? (a.add 2) = some (.int .i64 x.N) ∧ W.cell? (a.add 3) = some x.fv ∧ W.cell? (a.add 4) = some x.bv
set_option maxRecDepth 100000 in
theorem open_act {n : Nat} {a : Addr} {cs : List Value} {d : DataW H × List MemPlace} (h1 : W.cells? 0 a 5 = some cs) (h2 : DataW.trod enc Tryd.prog W 0 (fun _ => true) true n 58 cs = some d) : ∃ x, AtAct W a x := by
  obtain ⟨_, hlen, hcell⟩ := World.cells?_some h1
  obtain ⟨ys, k, -, -, -, hxl, hf⟩ := DataW.trod_struct Tryd.underlying58 h2
  have g0 := hf 0 _ rfl
  have g1 := hf 1 _ rfl
  have g2 := hf 2 _ rfl
  have g3 := hf 3 _ rfl
  have g4 := hf 4 _ rfl
  match ys, hxl, cs, hlen with
  | [y0, y1, y2, y3, y4], _, [v0, v1, v2, v3, v4], _ =>
    simp only [List.getElem?_cons_zero, List.getElem?_cons_succ] at g0 g1 g2 g3 g4
    obtain ⟨K, e0, -, w0⟩ := DataW.trod_int (k := .i64) Tryd.underlying3 g0
    obtain ⟨V, e1, -, w1⟩ := DataW.trod_int (k := .u64) Tryd.underlying22 g1
    obtain ⟨N, e2, -, w2⟩ := DataW.trod_int (k := .i64) Tryd.underlying3 g2
    obtain ⟨fv, fs, e3, hF, hfs, hfl⟩ := open_fl_cells g3
    obtain ⟨bv, B, e4, hB, hBl⟩ := open_byt_cells g4
    have hb := bounds_u64 w1
    refine ⟨⟨K, V, N, fv, bv, fs, B⟩, ⟨hb.1, by show V ≤ _; omega, hF, hfs, hB, hfl, hBl⟩, ?_, ?_, ?_, ?_, ?_⟩
    · rw [← List.head_eq_of_cons_eq e0]; exact hcell 0 (by decide)
    · rw [← List.head_eq_of_cons_eq e1]; exact hcell 1 (by decide)
    · rw [← List.head_eq_of_cons_eq e2]; exact hcell 2 (by decide)
    · rw [← List.head_eq_of_cons_eq e3]; exact hcell 3 (by decide)
    · rw [← List.head_eq_of_cons_eq e4]; exact hcell 4 (by decide)
set_option maxRecDepth 100000 in
theorem open_al {base : Nat} {v : Value} {d : DataW H} {ps : List MemPlace} (hval : Value.okWide Tryd.prog W .any base 49 v) (h : DataW.Trod enc Tryd.prog W 0 (fun _ => true) true 49 v d ps) : ∃ xs : List ActD, Al W v xs := by
  obtain ⟨a0, len, cap, rfl⟩ := okWide_slice Tryd.underlying49 hval
  obtain ⟨fuel, hf⟩ := h
  rcases Deep.open_slice Tryd.underlying49 hf with ⟨hcs, hx⟩ | ⟨a, len', cap', m, n, D, Pl, hcs, _, hl, hm, hmm, hx, hel⟩
  · simp [Value.cells] at hcs
    obtain ⟨rfl, rfl, rfl⟩ := hcs
    exact ⟨[], ⟨_, 0, rfl, by simp, by simp, by simp, fun h => absurd h (by simp)⟩⟩
  · simp [Value.cells] at hcs
    obtain ⟨rfl, rfl, rfl⟩ := hcs
    simp only [if_true] at hmm
    subst hmm
    rw [cells58] at hel
    obtain ⟨q, hq⟩ := Deep.choose_lt (n := len) (p := fun i x => AtAct W (a.add (i * 5)) x) (fun i hi => by
      obtain ⟨cs', h1, h2⟩ := hel i (by omega)
      exact open_act h1 h2)
    have hlen : ((List.range len).map q).length = len := by simp
    refine ⟨(List.range len).map q, ⟨some a, m, by rw [hlen], by omega, by rw [hlen]; omega, fun x hx => ?_, fun h0 => ?_⟩⟩
    · obtain ⟨i, hi, rfl⟩ := List.mem_map.1 hx
      exact (hq i (List.mem_range.1 hi)).1
    · rw [hlen] at h0
      obtain ⟨b, off, spot⟩ := a
      have hspot : spot = none := by simpa [Addr.add] using World.cell?_spot (hq 0 h0).2.1
      subst hspot
      have hc0 := (hq 0 h0).2.1
      rw [add_plain, add_plain] at hc0
      refine ⟨b, off, rfl, World.block_lt_of_cell? W _ hc0, fun j hj => ?_⟩
      rw [hlen] at hj
      obtain ⟨-, g0, g1, g2, g3, g4⟩ := hq j hj
      rw [add_plain, add_plain] at g0 g1 g2 g3 g4
      simp only [List.getElem_map, List.getElem_range]
      exact ⟨g0, g1, g2, g3, g4⟩
end
end Go.Proofs.YtmolpnhgmdpdmaaDoor
