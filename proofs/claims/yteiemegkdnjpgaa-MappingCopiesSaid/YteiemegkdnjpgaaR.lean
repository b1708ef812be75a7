/- Small lemmas that lead from a law's walk to its row: arguments that were read are read again behind the call; entries, rows of them, and rows of such rows that came in are opened. No condition. -/
import Derived.Test.YteiemegkdnjpgaaP
import Derived.Carry
import Derived.ProofKit
import Derived.OpenShut
import Derived.Deep.Slices
import Derived.Deep.Fields
namespace Go.Proofs.Yteiemegkdnjpgaa
open Go.ChangeShapes Go.WideShapes Go.ChangeAt Go.RowKit
set_option linter.unusedVariables false
theorem own : ownKnob Try.prog.godebug = none := by kernel_rfl
theorem laidOut : laidOutB Try.prog = true := by kernel_rfl
theorem cells3 : Try.prog.cellsOf 3 = 1 := by kernel_rfl
theorem cells27 : Try.prog.cellsOf 27 = 1 := by kernel_rfl
theorem cells50 : Try.prog.cellsOf 50 = 2 := by kernel_rfl
theorem cells39 : Try.prog.cellsOf 39 = 2 := by kernel_rfl
theorem bounds_i64 {n : Int} (h : (Lit.int .i64 n).wf = true) : I64 n := by
  simp [Lit.wf, IntKind.min, IntKind.max, IntKind.signed, IntKind.bits] at h
  unfold I64
  omega
/-- Entries whose numbers fit. -/
def Rng (l : List (Int × Int)) : Prop := ∀ x ∈ l, I64 x.1 ∧ I64 x.2
/-- A slice value that reads as rows of entries. -/
def Lol (w : World) (v : Value) (ls : List (List (Int × Int))) : Prop :=
  ∃ A c, v = .slice A ls.length c ∧ (0 < ls.length → ∃ g o, A = some ⟨g, o, none⟩ ∧ g < w.heap.size ∧ ∀ j (hj : j < ls.length), ∃ u, w.cell? ⟨g, o + j, none⟩ = some u ∧ Ent w u ls[j])
theorem Lol.below {w w' : World} {v : Value} {ls : List (List (Int × Int))} (h : Lol w v ls) (hb : Below w.heap.size w w') : Lol w' v ls := by
  obtain ⟨A, c, rfl, hr⟩ := h
  refine ⟨A, c, rfl, fun h0 => ?_⟩
  obtain ⟨g, o, rfl, hg, hc⟩ := hr h0
  refine ⟨g, o, rfl, Nat.lt_of_lt_of_le hg hb.size, fun j hj => ?_⟩
  obtain ⟨u, h1, h2⟩ := hc j hj
  exact ⟨u, (hb.cell (p := ⟨g, o + j, none⟩) hg).trans h1, h2.below hb⟩
theorem cell_cells {W : World} {g k : Nat} {u : Value} (h : W.cell? ⟨g, k, none⟩ = some u) : ∃ cs ty fr, W.heap[g]? = some (.cells cs ty fr) ∧ cs[k]? = some u := by
  unfold World.cell? at h
  split at h
  · rename_i cs ty fr he
    exact ⟨cs, ty, fr, he, by simpa using h⟩
  · cases h
set_option maxRecDepth 100000 in
theorem args_back {H : Type} {enc : TypeId × Value → H} {W W' : World} (hb : Below W.heap.size W W') {ts : List TypeId} {vs : List Value} {ds : List (DataW H)} {p : List MemPlace}
    (ht : (ts.all fun t => Try.prog.readableRec t && decide (t < Try.prog.types.size)) = true) (h : DataW.TrodAll enc Try.prog W 0 (fun _ => true) true ts vs ds p) (hlt : ∀ x ∈ p, x.block < W.heap.size) :
    DataW.TrodAll enc Try.prog W' 0 (fun b => decide (b < W.heap.size)) true ts vs ds p := by
  induction ts generalizing vs ds p with
  | nil =>
    obtain ⟨rfl, rfl, rfl⟩ := trodAll_nil h
    exact trodAll_mk0
  | cons t ts ih =>
    obtain ⟨v, vs', d, ds', p0, q0, rfl, rfl, rfl, h0, r0⟩ := trodAll_cons h
    rw [List.all_cons, Bool.and_eq_true, Bool.and_eq_true] at ht
    exact trodAll_cons_mk (Below.trod laidOut ht.1.1 (of_decide_eq_true ht.1.2) h0 hb (fun x hx => hlt x (List.mem_append_left _ hx))) (ih ht.2 r0 (fun x hx => hlt x (List.mem_append_right _ hx)))
theorem okWide_arr {P : Program} {w : World} {r : Reach} {base : Nat} {t e : TypeId} {v : Value} {n : Nat} (ht : P.underlying t = some (.array n e)) (h : Value.okWide P w r base t v) : ∃ cs, v = .agg cs ∧ cs.size = P.cellsOf t := by
  simp only [Value.okWide, ht] at h
  obtain ⟨cs, h1, h2, _⟩ := h
  exact ⟨cs, h1, h2⟩
section
variable {H : Type} {enc : TypeId × Value → H} {W : World}
set_option maxRecDepth 100000 in
theorem open_two2 {fuel : Nat} {c0 c1 : Value} {x : DataW H × List MemPlace} (h : DataW.trod enc Try.prog W 0 (fun _ => true) true fuel 50 [c0, c1] = some x) :
    ∃ e : Int × Int, c0 = .int .i64 e.1 ∧ c1 = .int .i64 e.2 ∧ I64 e.1 ∧ I64 e.2 := by
  obtain ⟨xs, n, _, _, _, hlen, hg⟩ := DataW.trod_struct Try.underlying50 h
  have hl : xs.length = 2 := hlen
  match xs, hl with
  | [y0, y1], _ =>
    have t0 : DataW.trod enc Try.prog W 0 (fun _ => true) true n 3 (([c0, c1].drop 0).take (Try.prog.cellsOf 3)) = some y0 := hg 0 _ rfl
    have t1 : DataW.trod enc Try.prog W 0 (fun _ => true) true n 3 (([c0, c1].drop 1).take (Try.prog.cellsOf 3)) = some y1 := hg 1 _ rfl
    rw [cells3] at t0 t1
    obtain ⟨n0, e0, -, w0⟩ := DataW.trod_int (k := .i64) Try.underlying3 t0
    obtain ⟨n1, e1, -, w1⟩ := DataW.trod_int (k := .i64) Try.underlying3 t1
    simp at e0 e1
    exact ⟨⟨n0, n1⟩, e0, e1, bounds_i64 w0, bounds_i64 w1⟩
set_option maxRecDepth 100000 in
theorem open_ent1 {base : Nat} {v : Value} {d : DataW H} {ps : List MemPlace} (hval : Value.okWide Try.prog W .any base 50 v) (h : DataW.Trod enc Try.prog W 0 (fun _ => true) true 50 v d ps) :
    ∃ e : Int × Int, v = .agg #[.int .i64 e.1, .int .i64 e.2] ∧ I64 e.1 ∧ I64 e.2 := by
  obtain ⟨cs, rfl, hsz⟩ := okWide_struct Try.underlying50 hval
  obtain ⟨fuel, hf⟩ := h
  obtain ⟨l⟩ := cs
  match l, hsz.trans cells50 with
  | [c0, c1], _ =>
    obtain ⟨e, rfl, rfl, h2⟩ := open_two2 (show DataW.trod enc Try.prog W 0 (fun _ => true) true fuel 50 [c0, c1] = some (d, ps) by simpa [Value.cells] using hf)
    exact ⟨e, rfl, h2⟩
set_option maxRecDepth 100000 in
theorem open_ents {fuel : Nat} {cs : List Value} {x : DataW H × List MemPlace} (hf : DataW.trod enc Try.prog W 0 (fun _ => true) true fuel 27 cs = some x) : ∃ v l, cs = [v] ∧ Ent W v l ∧ Rng l := by
  rcases Deep.open_slice Try.underlying27 hf with ⟨hcs, hx⟩ | ⟨a, len, cap, m, n, D, Pl, hcs, _, hl, hm, hmm, hx, hi⟩
  · exact ⟨_, [], hcs, Ent.nil W 0 none, fun x hx => by cases hx⟩
  · simp only [if_true] at hmm
    subst hmm
    have each : ∀ i, ∃ e : Int × Int, i < len → W.cell? (a.add (i * 2)) = some (.int .i64 e.1) ∧ W.cell? ((a.add (i * 2)).add 1) = some (.int .i64 e.2) ∧ I64 e.1 ∧ I64 e.2 := by
      intro i
      by_cases hil : i < len
      · obtain ⟨cs', hc, ht⟩ := hi i (by omega)
        rw [cells50] at hc
        obtain ⟨_, hcl, hat⟩ := World.cells?_some hc
        match cs', hcl with
        | [c0, c1], _ =>
          obtain ⟨e, e0, e1, h2⟩ := open_two2 ht
          subst e0 e1
          have h0 := hat 0 (by decide)
          rw [Addr.add_zero'] at h0
          exact ⟨e, fun _ => ⟨h0, hat 1 (by decide), h2⟩⟩
      · exact ⟨(0, 0), fun h => absurd h hil⟩
    obtain ⟨E, hE⟩ := Classical.axiomOfChoice each
    have hlen : ((List.range len).map E).length = len := by simp
    refine ⟨_, (List.range len).map E, hcs, ⟨some a, _, by rw [hlen], by omega, fun h0 => ?_⟩, fun x hx => ?_⟩
    · rw [hlen] at h0
      obtain ⟨b, off, spot⟩ := a
      have hspot : spot = none := by simpa [Addr.add] using World.cell?_spot (hE 0 h0).1
      subst hspot
      have hc0 := (hE 0 h0).1
      rw [add_plain] at hc0
      obtain ⟨ocs, oty, ofr, hob, _⟩ := cell_cells hc0
      refine ⟨b, off, ocs, oty, ofr, rfl, hob, fun j hj => ?_⟩
      rw [hlen] at hj
      obtain ⟨h1, h2, _⟩ := hE j hj
      rw [add_plain] at h1 h2
      rw [add_plain] at h2
      simp only [List.getElem_map, List.getElem_range]
      exact ⟨(cell_of_row W b _ ocs oty ofr hob).symm.trans h1, (cell_of_row W b _ ocs oty ofr hob).symm.trans h2⟩
    · obtain ⟨i, hi, rfl⟩ := List.mem_map.1 hx
      exact (hE i (List.mem_range.1 hi)).2.2
set_option maxRecDepth 100000 in
theorem open_lol {base : Nat} {v : Value} {d : DataW H} {ps : List MemPlace} (hval : Value.okWide Try.prog W .any base 22 v) (h : DataW.Trod enc Try.prog W 0 (fun _ => true) true 22 v d ps) :
    ∃ ls : List (List (Int × Int)), Lol W v ls ∧ ∀ l ∈ ls, Rng l := by
  obtain ⟨a0, len, cap, rfl⟩ := okWide_slice Try.underlying22 hval
  obtain ⟨fuel, hf⟩ := h
  rcases Deep.open_slice1 Try.underlying22 cells27 hf with ⟨hcs, hx⟩ | ⟨a, len', cap', m, n, V, D, Pl, hcs, _, hl, hm, hmm, hx, hel⟩
  · simp [Value.cells] at hcs
    obtain ⟨rfl, rfl, rfl⟩ := hcs
    exact ⟨[], ⟨_, 0, rfl, fun h => absurd h (by simp)⟩, by simp⟩
  · simp [Value.cells] at hcs
    obtain ⟨rfl, rfl, rfl⟩ := hcs
    simp only [if_true] at hmm
    subst hmm
    obtain ⟨q, hq⟩ := Deep.choose_lt (n := len) (p := fun i l => W.cell? (a.add i) = some (V i) ∧ Ent W (V i) l ∧ Rng l) (fun i hi => by
      obtain ⟨h1, h2⟩ := hel i (by omega)
      obtain ⟨v, l, e, hB, hR⟩ := open_ents h2
      rw [List.cons.injEq] at e
      exact ⟨l, h1, by rw [e.1]; exact hB, hR⟩)
    have hlen : ((List.range len).map q).length = len := by simp
    refine ⟨(List.range len).map q, ⟨some a, m, by rw [hlen], fun h0 => ?_⟩, fun l hl' => ?_⟩
    · rw [hlen] at h0
      obtain ⟨b, off, spot⟩ := a
      have hspot : spot = none := by simpa [Addr.add] using World.cell?_spot (hq 0 h0).1
      subst hspot
      have hc0 := (hq 0 h0).1
      rw [add_plain] at hc0
      refine ⟨b, off, rfl, World.block_lt_of_cell? W _ hc0, fun j hj => ?_⟩
      rw [hlen] at hj
      obtain ⟨g0, g1, -⟩ := hq j hj
      rw [add_plain] at g0
      simp only [List.getElem_map, List.getElem_range]
      exact ⟨V j, g0, g1⟩
    · obtain ⟨i, hi, rfl⟩ := List.mem_map.1 hl'
      exact (hq i (List.mem_range.1 hi)).2.2
set_option maxRecDepth 100000 in
theorem open_pair {base : Nat} {v : Value} {d : DataW H} {ps : List MemPlace} (hval : Value.okWide Try.prog W .any base 39 v) (h : DataW.Trod enc Try.prog W 0 (fun _ => true) true 39 v d ps) :
    ∃ u0 u1 l0 l1, v = .agg #[u0, u1] ∧ (Ent W u0 l0 ∧ Rng l0) ∧ Ent W u1 l1 ∧ Rng l1 := by
  obtain ⟨cs, rfl, hsz⟩ := okWide_arr Try.underlying39 hval
  obtain ⟨fuel, hf⟩ := h
  obtain ⟨l⟩ := cs
  match l, hsz.trans cells39 with
  | [c0, c1], _ =>
    obtain ⟨xs, m, _, _, _, hlen, hg⟩ := DataW.trod_array Try.underlying39 (show DataW.trod enc Try.prog W 0 (fun _ => true) true fuel 39 [c0, c1] = some (d, ps) by simpa [Value.cells] using hf)
    have hl : xs.length = 2 := hlen
    match xs, hl with
    | [y0, y1], _ =>
      have t0 := hg 0 (by decide)
      have t1 := hg 1 (by decide)
      rw [cells27] at t0 t1
      obtain ⟨u0, l0, e0, h0⟩ := open_ents t0
      obtain ⟨u1, l1, e1, h1⟩ := open_ents t1
      simp at e0 e1
      subst e0 e1
      exact ⟨_, _, l0, l1, rfl, h0, h1⟩
end
end Go.Proofs.Yteiemegkdnjpgaa
