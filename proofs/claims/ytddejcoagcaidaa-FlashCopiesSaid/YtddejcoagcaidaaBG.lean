/- Small lemmas that lead from a law's walk to its row: arguments that were read are read again behind the call; a geometry, integers and calls that came in are opened. No condition. -/
import Derived.Test.YtddejcoagcaidaaBB
import Derived.Carry
import Derived.ProofKit
import Derived.OpenShut
import Derived.Deep.Slices
import Derived.Deep.Fields
namespace Go.Proofs.Ytddejcoagcaidaa
open Go.ChangeShapes Go.WideShapes Go.ChangeAt Go.RowKit
set_option linter.unusedVariables false
theorem own : ownKnob Try.prog.godebug = none := by kernel_rfl
theorem laidOut : laidOutB Try.prog = true := by kernel_rfl
theorem cells3 : Try.prog.cellsOf 3 = 1 := by kernel_rfl
theorem cells5 : Try.prog.cellsOf 5 = 1 := by kernel_rfl
theorem cells23 : Try.prog.cellsOf 23 = 4 := by kernel_rfl
theorem cells41 : Try.prog.cellsOf 41 = 1 := by kernel_rfl
theorem cells43 : Try.prog.cellsOf 43 = 5 := by kernel_rfl
set_option maxRecDepth 100000 in
theorem args_back {H : Type} {enc : TypeId × Value → H} {W W' : World} (hb : Below W.heap.size W W') {ts : List TypeId} {vs : List Value} {ds : List (DataW H)} {p : List MemPlace}
    (ht : (ts.all fun t => Try.prog.readableRec t && decide (t < Try.prog.types.size)) = true) (h : DataW.TrodAll enc Try.prog W 0 (fun _ => true) true ts vs ds p) (hlt : ∀ x ∈ p, x.block < W.heap.size) :
    DataW.TrodAll enc Try.prog W' 0 (fun b => decide (b < W.heap.size)) true ts vs ds p := by
  induction ts generalizing vs ds p with
  | nil =>
    obtain ⟨rfl, rfl, rfl⟩ := trodAll_nil h
    exact trodAll_mk0
  | cons t ts ih =>
    obtain ⟨v, vs', d, ds', p0, q0, rfl, rfl, rfl, h0, r0⟩ := trodAll_cons h
    rw [List.all_cons, Bool.and_eq_true, Bool.and_eq_true] at ht
    exact trodAll_cons_mk (Below.trod laidOut ht.1.1 (of_decide_eq_true ht.1.2) h0 hb (fun x hx => hlt x (List.mem_append_left _ hx))) (ih ht.2 r0 (fun x hx => hlt x (List.mem_append_right _ hx)))
theorem i64_of_wf {x : Int} (h : (Lit.int .i64 x).wf = true) : I64 x := by
  have := bounds_i64 h
  unfold I64
  omega
section
variable {H : Type} {enc : TypeId × Value → H} {W : World}
set_option maxRecDepth 100000 in
theorem open_is {base : Nat} {v : Value} {d : DataW H} {ps : List MemPlace} (hval : Value.okWide Try.prog W .any base 24 v) (h : DataW.Trod enc Try.prog W 0 (fun _ => true) true 24 v d ps) :
    ∃ ws : List Int, Ints W v ws ∧ ∀ x ∈ ws, I64 x := by
  obtain ⟨a0, len, cap, rfl⟩ := okWide_slice Try.underlying24 hval
  obtain ⟨fuel, hf⟩ := h
  rcases open_ints Try.underlying24 Try.underlying3 cells3 hf with ⟨hcs, hx⟩ | ⟨a, len', cap', zs, hcs, _, hl, hm, hz, hx, hcell, hwz⟩
  · simp [Value.cells] at hcs
    obtain ⟨rfl, rfl, rfl⟩ := hcs
    exact ⟨[], ⟨none, 0, rfl, fun h => absurd h (by simp)⟩, fun x hx => by cases hx⟩
  · simp [Value.cells] at hcs
    obtain ⟨rfl, rfl, rfl⟩ := hcs
    simp only [if_true] at hz
    have hlen : (zs.take len).length = len := by simp; omega
    refine ⟨zs.take len, ⟨some a, cap, by rw [hlen], fun h0 => ?_⟩, fun x hx => i64_of_wf (hwz x (List.mem_of_mem_take hx))⟩
    rw [hlen] at h0
    obtain ⟨b, off, rfl, hc⟩ := ints_at hcell (by omega)
    refine ⟨b, off, rfl, World.block_lt_of_cell? W _ (hc 0 (by omega)), fun j hj => ?_⟩
    rw [hlen] at hj
    rw [hc j (by omega)]
    have hjz : j < zs.length := by omega
    simp [hjz]
set_option maxRecDepth 100000 in
theorem open_byt {fuel : Nat} {c : Value} {x : DataW H × List MemPlace} (hf : DataW.trod enc Try.prog W 0 (fun _ => true) true fuel 41 [c] = some x) : ∃ l : List UInt8, Byt W c l := by
  rcases open_ints Try.underlying41 Try.underlying5 cells5 hf with ⟨hcs, hx⟩ | ⟨a, len, cap, zs, hcs, _, hl, hm, hz, hx, hcell, hwz⟩
  · simp at hcs
    subst hcs
    exact ⟨[], Byt.nil W⟩
  · simp at hcs
    subst hcs
    simp only [if_true] at hz
    have hlen : ((zs.take len).map fun z => UInt8.ofNat z.toNat).length = len := by simp; omega
    refine ⟨(zs.take len).map fun z => UInt8.ofNat z.toNat, ⟨some a, cap, by rw [hlen], by omega, fun h0 => ?_⟩⟩
    rw [hlen] at h0
    obtain ⟨b, off, rfl, hc⟩ := ints_at hcell (by omega)
    refine ⟨b, off, rfl, World.block_lt_of_cell? W _ (hc 0 (by omega)), fun j hj => ?_⟩
    rw [hlen] at hj
    rw [hc j (by omega)]
    have hjz : j < zs.length := by omega
    have hb := bounds_u8 (hwz zs[j] (List.getElem_mem hjz))
    have e : zs.getD j 0 = zs[j] := by simp [hjz]
    rw [e]
    congr 2
    simp only [List.getElem_map, List.getElem_take]
    rw [UInt8.toNat_ofNat']
    omega
/-- The five cells of a call. -/
def ActAt (W : World) (c0 c1 c2 c3 c4 : Value) (e : KA) : Prop := c0 = .int .i64 e.wh ∧ c1 = .int .i64 e.bl ∧ c2 = .int .i64 e.pg ∧ c3 = e.vd ∧ c4 = e.vs ∧ KA.ok W e
set_option maxRecDepth 100000 in
theorem open_act5 {fuel : Nat} {c0 c1 c2 c3 c4 : Value} {x : DataW H × List MemPlace} (h : DataW.trod enc Try.prog W 0 (fun _ => true) true fuel 43 [c0, c1, c2, c3, c4] = some x) : ∃ e : KA, ActAt W c0 c1 c2 c3 c4 e := by
  obtain ⟨xs, n, _, _, _, hlen, hg⟩ := DataW.trod_struct Try.underlying43 h
  have hl : xs.length = 5 := hlen
  match xs, hl with
  | [y0, y1, y2, y3, y4], _ =>
    have t0 : DataW.trod enc Try.prog W 0 (fun _ => true) true n 3 (([c0, c1, c2, c3, c4].drop 0).take (Try.prog.cellsOf 3)) = some y0 := hg 0 _ rfl
    have t1 : DataW.trod enc Try.prog W 0 (fun _ => true) true n 3 (([c0, c1, c2, c3, c4].drop 1).take (Try.prog.cellsOf 3)) = some y1 := hg 1 _ rfl
    have t2 : DataW.trod enc Try.prog W 0 (fun _ => true) true n 3 (([c0, c1, c2, c3, c4].drop 2).take (Try.prog.cellsOf 3)) = some y2 := hg 2 _ rfl
    have t3 : DataW.trod enc Try.prog W 0 (fun _ => true) true n 41 (([c0, c1, c2, c3, c4].drop 3).take (Try.prog.cellsOf 41)) = some y3 := hg 3 _ rfl
    have t4 : DataW.trod enc Try.prog W 0 (fun _ => true) true n 41 (([c0, c1, c2, c3, c4].drop 4).take (Try.prog.cellsOf 41)) = some y4 := hg 4 _ rfl
    rw [cells3] at t0 t1 t2
    rw [cells41] at t3 t4
    obtain ⟨n0, e0, -, w0⟩ := DataW.trod_int (k := .i64) Try.underlying3 t0
    obtain ⟨n1, e1, -, w1⟩ := DataW.trod_int (k := .i64) Try.underlying3 t1
    obtain ⟨n2, e2, -, w2⟩ := DataW.trod_int (k := .i64) Try.underlying3 t2
    obtain ⟨l3, b3⟩ := open_byt (c := c3) (by simpa using t3)
    obtain ⟨l4, b4⟩ := open_byt (c := c4) (by simpa using t4)
    simp at e0 e1 e2
    exact ⟨⟨n0, n1, n2, c3, c4, l3, l4⟩, e0, e1, e2, rfl, rfl, b3, b4⟩
set_option maxRecDepth 100000 in
theorem open_geo {base : Nat} {v : Value} {d : DataW H} {ps : List MemPlace} (hval : Value.okWide Try.prog W .any base 23 v) (h : DataW.Trod enc Try.prog W 0 (fun _ => true) true 23 v d ps) :
    ∃ a b c e : Int, v = .agg #[.int .i64 a, .int .i64 b, .int .i64 c, .int .i64 e] := by
  obtain ⟨cs, rfl, hsz⟩ := okWide_struct Try.underlying23 hval
  obtain ⟨fuel, hf⟩ := h
  obtain ⟨l⟩ := cs
  match l, hsz.trans cells23 with
  | [c0, c1, c2, c3], _ =>
    obtain ⟨xs, n, _, _, _, hlen, hg⟩ := DataW.trod_struct Try.underlying23 (show DataW.trod enc Try.prog W 0 (fun _ => true) true fuel 23 [c0, c1, c2, c3] = some (d, ps) by simpa [Value.cells] using hf)
    have hl : xs.length = 4 := hlen
    match xs, hl with
    | [y0, y1, y2, y3], _ =>
      have t0 : DataW.trod enc Try.prog W 0 (fun _ => true) true n 3 (([c0, c1, c2, c3].drop 0).take (Try.prog.cellsOf 3)) = some y0 := hg 0 _ rfl
      have t1 : DataW.trod enc Try.prog W 0 (fun _ => true) true n 3 (([c0, c1, c2, c3].drop 1).take (Try.prog.cellsOf 3)) = some y1 := hg 1 _ rfl
      have t2 : DataW.trod enc Try.prog W 0 (fun _ => true) true n 3 (([c0, c1, c2, c3].drop 2).take (Try.prog.cellsOf 3)) = some y2 := hg 2 _ rfl
      have t3 : DataW.trod enc Try.prog W 0 (fun _ => true) true n 3 (([c0, c1, c2, c3].drop 3).take (Try.prog.cellsOf 3)) = some y3 := hg 3 _ rfl
      rw [cells3] at t0 t1 t2 t3
      obtain ⟨n0, e0, -, _⟩ := DataW.trod_int (k := .i64) Try.underlying3 t0
      obtain ⟨n1, e1, -, _⟩ := DataW.trod_int (k := .i64) Try.underlying3 t1
      obtain ⟨n2, e2, -, _⟩ := DataW.trod_int (k := .i64) Try.underlying3 t2
      obtain ⟨n3, e3, -, _⟩ := DataW.trod_int (k := .i64) Try.underlying3 t3
      simp at e0 e1 e2 e3
      exact ⟨n0, n1, n2, n3, by rw [e0, e1, e2, e3]⟩
set_option maxRecDepth 100000 in
theorem open_acts {base : Nat} {v : Value} {d : DataW H} {ps : List MemPlace} (hval : Value.okWide Try.prog W .any base 25 v) (h : DataW.Trod enc Try.prog W 0 (fun _ => true) true 25 v d ps) :
    ∃ L : List KA, Acts W v L ∧ ∀ e ∈ L, KA.ok W e := by
  obtain ⟨a0, len, cap, rfl⟩ := okWide_slice Try.underlying25 hval
  obtain ⟨fuel, hf⟩ := h
  rcases Deep.open_slice Try.underlying25 hf with ⟨hcs, hx⟩ | ⟨a, len', cap', m, n, D, Pl, hcs, _, hl, hm, hmm, hx, hi⟩
  · simp [Value.cells] at hcs
    obtain ⟨rfl, rfl, rfl⟩ := hcs
    exact ⟨[], ⟨none, 0, rfl, fun h => absurd h (by simp)⟩, fun e he => by cases he⟩
  · simp [Value.cells] at hcs
    obtain ⟨rfl, rfl, rfl⟩ := hcs
    simp only [if_true] at hmm
    subst hmm
    have each : ∀ i, ∃ e : KA, i < len → W.cell? (a.add (i * 5)) = some (.int .i64 e.wh) ∧ W.cell? ((a.add (i * 5)).add 1) = some (.int .i64 e.bl) ∧ W.cell? ((a.add (i * 5)).add 2) = some (.int .i64 e.pg) ∧ W.cell? ((a.add (i * 5)).add 3) = some e.vd ∧ W.cell? ((a.add (i * 5)).add 4) = some e.vs ∧ KA.ok W e := by
      intro i
      by_cases hil : i < len
      · obtain ⟨cs', hc, ht⟩ := hi i (by omega)
        rw [cells43] at hc
        obtain ⟨_, hcl, hat⟩ := World.cells?_some hc
        match cs', hcl with
        | [c0, c1, c2, c3, c4], _ =>
          obtain ⟨e, e0, e1, e2, e3, e4, hok⟩ := open_act5 ht
          subst e0 e1 e2 e3 e4
          have h0 := hat 0 (by decide)
          rw [Addr.add_zero'] at h0
          exact ⟨e, fun _ => ⟨h0, hat 1 (by decide), hat 2 (by decide), hat 3 (by decide), hat 4 (by decide), hok⟩⟩
      · exact ⟨⟨0, 0, 0, .slice none 0 0, .slice none 0 0, [], []⟩, fun h => absurd h hil⟩
    obtain ⟨E, hE⟩ := Classical.axiomOfChoice each
    have hlen : ((List.range len).map E).length = len := by simp
    refine ⟨(List.range len).map E, ⟨some a, _, by rw [hlen], fun h0 => ?_⟩, fun e he => ?_⟩
    · rw [hlen] at h0
      obtain ⟨b, off, spot⟩ := a
      have hspot : spot = none := by simpa [Addr.add] using World.cell?_spot (hE 0 h0).1
      subst hspot
      have hc0 := (hE 0 h0).1
      rw [add_plain] at hc0
      refine ⟨b, off, rfl, World.block_lt_of_cell? W _ hc0, fun j hj => ?_⟩
      rw [hlen] at hj
      obtain ⟨h1, h2, h3, h4, h5, -⟩ := hE j hj
      rw [add_plain] at h1 h2 h3 h4 h5
      rw [add_plain] at h2 h3 h4 h5
      simp only [List.getElem_map, List.getElem_range]
      exact ⟨h1, h2, h3, h4, h5⟩
    · obtain ⟨i, hi', rfl⟩ := List.mem_map.1 he
      exact (hE i (List.mem_range.1 hi')).2.2.2.2.2
end
end Go.Proofs.Ytddejcoagcaidaa
