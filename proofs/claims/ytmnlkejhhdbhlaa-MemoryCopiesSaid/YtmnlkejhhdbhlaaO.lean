/- Small lemmas that lead from a law's walk to its row: arguments that were read are read again behind the call; integers, bytes, rows of bytes, numbers and calls that came in are opened. No condition. -/
import Derived.Test.YtmnlkejhhdbhlaaD
import Derived.Carry
import Derived.ProofKit
import Derived.OpenShut
import Derived.Deep.Slices
import Derived.Deep.Fields
namespace Go.Proofs.Ytmnlkejhhdbhlaa
open Go.ChangeShapes Go.WideShapes Go.ChangeAt Go.RowKit
set_option linter.unusedVariables false
theorem own : ownKnob Try.prog.godebug = none := by kernel_rfl
theorem laidOut : laidOutB Try.prog = true := by kernel_rfl
theorem cells3 : Try.prog.cellsOf 3 = 1 := by kernel_rfl
theorem cells5 : Try.prog.cellsOf 5 = 1 := by kernel_rfl
theorem cells29 : Try.prog.cellsOf 29 = 1 := by kernel_rfl
theorem cells38 : Try.prog.cellsOf 38 = 1 := by kernel_rfl
theorem cells40 : Try.prog.cellsOf 40 = 5 := by kernel_rfl
theorem cells44 : Try.prog.cellsOf 44 = 1 := by kernel_rfl
set_option maxRecDepth 100000 in
theorem args_back {H : Type} {enc : TypeId × Value → H} {W W' : World} (hb : Below W.heap.size W W') {ts : List TypeId} {vs : List Value} {ds : List (DataW H)} {p : List MemPlace}
    (ht : (ts.all fun t => Try.prog.readableRec t && decide (t < Try.prog.types.size)) = true) (h : DataW.TrodAll enc Try.prog W 0 (fun _ => true) true ts vs ds p) (hlt : ∀ x ∈ p, x.block < W.heap.size) :
    DataW.TrodAll enc Try.prog W' 0 (fun b => decide (b < W.heap.size)) true ts vs ds p := by
  induction ts generalizing vs ds p with
  | nil =>
    obtain ⟨rfl, rfl, rfl⟩ := trodAll_nil h
    exact trodAll_mk0
  | cons t ts ih =>
    obtain ⟨v, vs', d, ds', p0, q0, rfl, rfl, rfl, h0, r0⟩ := trodAll_cons h
    rw [List.all_cons, Bool.and_eq_true, Bool.and_eq_true] at ht
    exact trodAll_cons_mk (Below.trod laidOut ht.1.1 (of_decide_eq_true ht.1.2) h0 hb (fun x hx => hlt x (List.mem_append_left _ hx))) (ih ht.2 r0 (fun x hx => hlt x (List.mem_append_right _ hx)))
/-- Whole numbers of 64 bits. -/
def I64 (x : Int) : Prop := -9223372036854775808 ≤ x ∧ x < 9223372036854775808
theorem i64_of_wf {x : Int} (h : (Lit.int .i64 x).wf = true) : I64 x := by
  have := bounds_i64 h
  unfold I64
  omega
/-- A slice of slices of bytes. -/
def Rws (w : World) (v : Value) (ls : List (List UInt8)) : Prop :=
  ∃ A c, v = .slice A ls.length c ∧ (0 < ls.length → ∃ g o, A = some ⟨g, o, none⟩ ∧ g < w.heap.size ∧ ∀ j (hj : j < ls.length), ∃ u, w.cell? ⟨g, o + j, none⟩ = some u ∧ Byt w u ls[j])
/-- A slice of numbers of 16 bits. -/
def U16s (w : World) (v : Value) (xs : List Nat) : Prop :=
  ∃ A c, v = .slice A xs.length c ∧ (∀ x ∈ xs, x < 65536) ∧ (0 < xs.length → ∃ g o, A = some ⟨g, o, none⟩ ∧ g < w.heap.size ∧ ∀ j (hj : j < xs.length), w.cell? ⟨g, o + j, none⟩ = some (.int .u16 (xs[j] : Int)))
/-- A call of the law: what, the numbers, the bytes. -/
structure KA where
  wh : Int
  n : Int
  ad : Nat
  vb : Value
  l : List UInt8
  x : UInt8
/-- The call's bytes read, and its numbers fit. -/
def KA.ok (W : World) (e : KA) : Prop := Byt W e.vb e.l ∧ e.ad < 18446744073709551616 ∧ I64 e.n
/-- The cells of a call. -/
abbrev KA.cells (e : KA) : Array Value := #[.int .i64 e.wh, .int .i64 e.n, .int .u64 (e.ad : Int), e.vb, .int .u8 (e.x.toNat : Int)]
/-- A slice of calls. -/
def Acts (W : World) (v : Value) (L : List KA) : Prop :=
  ∃ A c, v = .slice A L.length c ∧ (0 < L.length → ∃ g o, A = some ⟨g, o, none⟩ ∧ g < W.heap.size ∧ ∀ j (hj : j < L.length), W.cell? ⟨g, o + j * 5, none⟩ = some (.int .i64 L[j].wh) ∧ W.cell? ⟨g, o + j * 5 + 1, none⟩ = some (.int .i64 L[j].n) ∧ W.cell? ⟨g, o + j * 5 + 2, none⟩ = some (.int .u64 (L[j].ad : Int)) ∧ W.cell? ⟨g, o + j * 5 + 3, none⟩ = some L[j].vb ∧ W.cell? ⟨g, o + j * 5 + 4, none⟩ = some (.int .u8 (L[j].x.toNat : Int)))
section
variable {H : Type} {enc : TypeId × Value → H} {W : World}
set_option maxRecDepth 100000 in
theorem open_byt_cells {fuel : Nat} {cs : List Value} {x : DataW H × List MemPlace} (hf : DataW.trod enc Try.prog W 0 (fun _ => true) true fuel 29 cs = some x) : ∃ v l, cs = [v] ∧ Byt W v l ∧ l.length ≤ maxLen := by
  rcases open_ints Try.underlying29 Try.underlying5 cells5 hf with ⟨hcs, hx⟩ | ⟨a, len, cap, zs, hcs, _, hl, hm, hz, hx, hcell, hwz⟩
  · exact ⟨_, [], hcs, Byt.nil W, Nat.zero_le _⟩
  · simp only [if_true] at hz
    have hlen : ((zs.take len).map fun z => UInt8.ofNat z.toNat).length = len := by simp; omega
    refine ⟨_, (zs.take len).map fun z => UInt8.ofNat z.toNat, hcs, ⟨some a, cap, by rw [hlen], by omega, fun h0 => ?_⟩, by rw [hlen]; omega⟩
    rw [hlen] at h0
    obtain ⟨b, off, rfl, hc⟩ := ints_at hcell (by omega)
    refine ⟨b, off, rfl, World.block_lt_of_cell? W _ (hc 0 (by omega)), fun j hj => ?_⟩
    rw [hlen] at hj
    rw [hc j (by omega)]
    have hjz : j < zs.length := by omega
    have hb := bounds_u8 (hwz zs[j] (List.getElem_mem hjz))
    have e : zs.getD j 0 = zs[j] := by simp [hjz]
    rw [e]
    congr 2
    simp only [List.getElem_map, List.getElem_take]
    rw [UInt8.toNat_ofNat']
    omega
set_option maxRecDepth 100000 in
theorem open_rws {base : Nat} {v : Value} {d : DataW H} {ps : List MemPlace} (hval : Value.okWide Try.prog W .any base 71 v) (h : DataW.Trod enc Try.prog W 0 (fun _ => true) true 71 v d ps) :
    ∃ ls : List (List UInt8), Rws W v ls ∧ ls.length ≤ maxLen ∧ ∀ l ∈ ls, l.length ≤ maxLen := by
  obtain ⟨a0, len, cap, rfl⟩ := okWide_slice Try.underlying71 hval
  obtain ⟨fuel, hf⟩ := h
  rcases Deep.open_slice1 Try.underlying71 cells29 hf with ⟨hcs, hx⟩ | ⟨a, len', cap', m, n, V, D, Pl, hcs, _, hl, hm, hmm, hx, hel⟩
  · simp [Value.cells] at hcs
    obtain ⟨rfl, rfl, rfl⟩ := hcs
    exact ⟨[], ⟨_, 0, rfl, fun h => absurd h (by simp)⟩, Nat.zero_le _, by simp⟩
  · simp [Value.cells] at hcs
    obtain ⟨rfl, rfl, rfl⟩ := hcs
    simp only [if_true] at hmm
    subst hmm
    obtain ⟨q, hq⟩ := Deep.choose_lt (n := len) (p := fun i l => W.cell? (a.add i) = some (V i) ∧ Byt W (V i) l ∧ l.length ≤ maxLen) (fun i hi => by
      obtain ⟨h1, h2⟩ := hel i (by omega)
      obtain ⟨v, l, e, hB, hlen⟩ := open_byt_cells h2
      rw [List.cons.injEq] at e
      exact ⟨l, h1, by rw [e.1]; exact hB, hlen⟩)
    have hlen : ((List.range len).map q).length = len := by simp
    refine ⟨(List.range len).map q, ⟨some a, m, by rw [hlen], fun h0 => ?_⟩, by rw [hlen]; omega, fun l hl' => ?_⟩
    · rw [hlen] at h0
      obtain ⟨b, off, spot⟩ := a
      have hspot : spot = none := by simpa [Addr.add] using World.cell?_spot (hq 0 h0).1
      subst hspot
      have hc0 := (hq 0 h0).1
      rw [add_plain] at hc0
      refine ⟨b, off, rfl, World.block_lt_of_cell? W _ hc0, fun j hj => ?_⟩
      rw [hlen] at hj
      obtain ⟨g0, g1, -⟩ := hq j hj
      rw [add_plain] at g0
      simp only [List.getElem_map, List.getElem_range]
      exact ⟨V j, g0, g1⟩
    · obtain ⟨i, hi, rfl⟩ := List.mem_map.1 hl'
      exact (hq i (List.mem_range.1 hi)).2.2
set_option maxRecDepth 100000 in
theorem open_u16s {base : Nat} {v : Value} {d : DataW H} {ps : List MemPlace} (hval : Value.okWide Try.prog W .any base 43 v) (h : DataW.Trod enc Try.prog W 0 (fun _ => true) true 43 v d ps) :
    ∃ ws : List Nat, U16s W v ws := by
  obtain ⟨a0, len, cap, rfl⟩ := okWide_slice Try.underlying43 hval
  obtain ⟨fuel, hf⟩ := h
  rcases open_ints Try.underlying43 Try.underlying44 cells44 hf with ⟨hcs, hx⟩ | ⟨a, len', cap', zs, hcs, _, hl, hm, hz, hx, hcell, hwz⟩
  · simp [Value.cells] at hcs
    obtain ⟨rfl, rfl, rfl⟩ := hcs
    exact ⟨[], none, 0, rfl, by simp, fun h => absurd h (by simp)⟩
  · simp [Value.cells] at hcs
    obtain ⟨rfl, rfl, rfl⟩ := hcs
    simp only [if_true] at hz
    have hlen : ((zs.take len).map fun z => z.toNat).length = len := by simp; omega
    refine ⟨(zs.take len).map fun z => z.toNat, ⟨some a, cap, by rw [hlen], fun x hx => ?_, fun h0 => ?_⟩⟩
    · obtain ⟨z, hz1, rfl⟩ := List.mem_map.1 hx
      have := bounds_u16 (hwz z (List.mem_of_mem_take hz1))
      omega
    rw [hlen] at h0
    obtain ⟨b, off, rfl, hc⟩ := ints_at hcell (by omega)
    refine ⟨b, off, rfl, World.block_lt_of_cell? W _ (hc 0 (by omega)), fun j hj => ?_⟩
    rw [hlen] at hj
    rw [hc j (by omega)]
    have hjz : j < zs.length := by omega
    have hb := bounds_u16 (hwz zs[j] (List.getElem_mem hjz))
    have e : zs.getD j 0 = zs[j] := by simp [hjz]
    rw [e]
    congr 2
    simp only [List.getElem_map, List.getElem_take]
    omega
set_option maxRecDepth 100000 in
theorem open_act5 {fuel : Nat} {c0 c1 c2 c3 c4 : Value} {x : DataW H × List MemPlace} (h : DataW.trod enc Try.prog W 0 (fun _ => true) true fuel 40 [c0, c1, c2, c3, c4] = some x) : ∃ e : KA, #[c0, c1, c2, c3, c4] = e.cells ∧ KA.ok W e := by
  obtain ⟨xs, n, _, _, _, hlen, hg⟩ := DataW.trod_struct Try.underlying40 h
  have hl : xs.length = 5 := hlen
  match xs, hl with
  | [y0, y1, y2, y3, y4], _ =>
    have t0 : DataW.trod enc Try.prog W 0 (fun _ => true) true n 3 (([c0, c1, c2, c3, c4].drop 0).take (Try.prog.cellsOf 3)) = some y0 := hg 0 _ rfl
    have t1 : DataW.trod enc Try.prog W 0 (fun _ => true) true n 3 (([c0, c1, c2, c3, c4].drop 1).take (Try.prog.cellsOf 3)) = some y1 := hg 1 _ rfl
    have t2 : DataW.trod enc Try.prog W 0 (fun _ => true) true n 38 (([c0, c1, c2, c3, c4].drop 2).take (Try.prog.cellsOf 38)) = some y2 := hg 2 _ rfl
    have t3 : DataW.trod enc Try.prog W 0 (fun _ => true) true n 29 (([c0, c1, c2, c3, c4].drop 3).take (Try.prog.cellsOf 29)) = some y3 := hg 3 _ rfl
    have t4 : DataW.trod enc Try.prog W 0 (fun _ => true) true n 5 (([c0, c1, c2, c3, c4].drop 4).take (Try.prog.cellsOf 5)) = some y4 := hg 4 _ rfl
    rw [cells3] at t0 t1
    rw [cells38] at t2
    rw [cells29] at t3
    rw [cells5] at t4
    obtain ⟨n0, e0, -, w0⟩ := DataW.trod_int (k := .i64) Try.underlying3 t0
    obtain ⟨n1, e1, -, w1⟩ := DataW.trod_int (k := .i64) Try.underlying3 t1
    obtain ⟨n2, e2, -, w2⟩ := DataW.trod_int (k := .u64) Try.underlying38 t2
    obtain ⟨v3, l3, e3, b3, -⟩ := open_byt_cells t3
    obtain ⟨n4, e4, -, w4⟩ := DataW.trod_int (k := .u8) Try.underlying5 t4
    simp at e0 e1 e2 e3 e4
    have k2 := bounds_u64 w2
    have k4 := bounds_u8 w4
    subst e3
    refine ⟨⟨n0, n1, n2.toNat, _, l3, UInt8.ofNat n4.toNat⟩, ?_, b3, by show n2.toNat < _; omega, i64_of_wf w1⟩
    rw [e0, e1, e2, e4]
    show #[_, _, _, _, _] = #[_, _, Value.int .u64 ((n2.toNat : Nat) : Int), _, Value.int .u8 (((UInt8.ofNat n4.toNat).toNat : Nat) : Int)]
    rw [UInt8.toNat_ofNat', show ((n2.toNat : Nat) : Int) = n2 by omega, show ((n4.toNat % 2 ^ 8 : Nat) : Int) = n4 by omega]
set_option maxRecDepth 100000 in
theorem open_one {base : Nat} {v : Value} {d : DataW H} {ps : List MemPlace} (hval : Value.okWide Try.prog W .any base 40 v) (h : DataW.Trod enc Try.prog W 0 (fun _ => true) true 40 v d ps) : ∃ e : KA, v = .agg e.cells ∧ KA.ok W e := by
  obtain ⟨cs, rfl, hsz⟩ := okWide_struct Try.underlying40 hval
  obtain ⟨fuel, hf⟩ := h
  obtain ⟨l⟩ := cs
  match l, hsz.trans cells40 with
  | [c0, c1, c2, c3, c4], _ =>
    obtain ⟨e, h1, h2⟩ := open_act5 (show DataW.trod enc Try.prog W 0 (fun _ => true) true fuel 40 [c0, c1, c2, c3, c4] = some (d, ps) by simpa [Value.cells] using hf)
    exact ⟨e, by rw [← h1], h2⟩
set_option maxRecDepth 100000 in
theorem open_acts {base : Nat} {v : Value} {d : DataW H} {ps : List MemPlace} (hval : Value.okWide Try.prog W .any base 22 v) (h : DataW.Trod enc Try.prog W 0 (fun _ => true) true 22 v d ps) :
    ∃ L : List KA, Acts W v L ∧ ∀ e ∈ L, KA.ok W e := by
  obtain ⟨a0, len, cap, rfl⟩ := okWide_slice Try.underlying22 hval
  obtain ⟨fuel, hf⟩ := h
  rcases Deep.open_slice Try.underlying22 hf with ⟨hcs, hx⟩ | ⟨a, len', cap', m, n, D, Pl, hcs, _, hl, hm, hmm, hx, hi⟩
  · simp [Value.cells] at hcs
    obtain ⟨rfl, rfl, rfl⟩ := hcs
    exact ⟨[], ⟨none, 0, rfl, fun h => absurd h (by simp)⟩, fun e he => by cases he⟩
  · simp [Value.cells] at hcs
    obtain ⟨rfl, rfl, rfl⟩ := hcs
    simp only [if_true] at hmm
    subst hmm
    have each : ∀ i, ∃ e : KA, i < len → W.cell? (a.add (i * 5)) = some (.int .i64 e.wh) ∧ W.cell? ((a.add (i * 5)).add 1) = some (.int .i64 e.n) ∧ W.cell? ((a.add (i * 5)).add 2) = some (.int .u64 (e.ad : Int)) ∧ W.cell? ((a.add (i * 5)).add 3) = some e.vb ∧ W.cell? ((a.add (i * 5)).add 4) = some (.int .u8 (e.x.toNat : Int)) ∧ KA.ok W e := by
      intro i
      by_cases hil : i < len
      · obtain ⟨cs', hc, ht⟩ := hi i (by omega)
        rw [cells40] at hc
        obtain ⟨_, hcl, hat⟩ := World.cells?_some hc
        match cs', hcl with
        | [c0, c1, c2, c3, c4], _ =>
          obtain ⟨e, he, hok⟩ := open_act5 ht
          have h0 := hat 0 (by decide)
          have h1 := hat 1 (by decide)
          have h2 := hat 2 (by decide)
          have h3 := hat 3 (by decide)
          have h4 := hat 4 (by decide)
          rw [Addr.add_zero'] at h0
          simp only [KA.cells, Array.mk.injEq, List.cons.injEq, and_true] at he
          obtain ⟨rfl, rfl, rfl, rfl, rfl⟩ := he
          exact ⟨e, fun _ => ⟨h0, h1, h2, h3, h4, hok⟩⟩
      · exact ⟨⟨0, 0, 0, .slice none 0 0, [], 0⟩, fun h => absurd h hil⟩
    obtain ⟨E, hE⟩ := Classical.axiomOfChoice each
    have hlen : ((List.range len).map E).length = len := by simp
    refine ⟨(List.range len).map E, ⟨some a, _, by rw [hlen], fun h0 => ?_⟩, fun e he => ?_⟩
    · rw [hlen] at h0
      obtain ⟨b, off, spot⟩ := a
      have hspot : spot = none := by simpa [Addr.add] using World.cell?_spot (hE 0 h0).1
      subst hspot
      have hc0 := (hE 0 h0).1
      rw [add_plain] at hc0
      refine ⟨b, off, rfl, World.block_lt_of_cell? W _ hc0, fun j hj => ?_⟩
      rw [hlen] at hj
      obtain ⟨h1, h2, h3, h4, h5, -⟩ := hE j hj
      rw [add_plain] at h1 h2 h3 h4 h5
      rw [add_plain] at h2 h3 h4 h5
      simp only [List.getElem_map, List.getElem_range]
      exact ⟨h1, h2, h3, h4, h5⟩
    · obtain ⟨i, hi', rfl⟩ := List.mem_map.1 he
      exact (hE i (List.mem_range.1 hi')).2.2.2.2.2
end
end Go.Proofs.Ytmnlkejhhdbhlaa
