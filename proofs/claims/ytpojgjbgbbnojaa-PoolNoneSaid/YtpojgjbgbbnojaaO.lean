/- Small lemmas that lead from a law's walk to its row: arguments that were read are read again behind the call; integers, calls and rows of them that came in are opened. No condition. -/
import Derived.Test.YtpojgjbgbbnojaaG
import Derived.Carry
import Derived.ProofKit
import Derived.OpenShut
import Derived.Deep.Slices
import Derived.Deep.Fields
namespace Go.Proofs.Ytpojgjbgbbnojaa
open Go.ChangeShapes Go.WideShapes Go.ChangeAt Go.RowKit
set_option linter.unusedVariables false
theorem own : ownKnob Try.prog.godebug = none := by kernel_rfl
theorem laidOut : laidOutB Try.prog = true := by kernel_rfl
theorem cells3 : Try.prog.cellsOf 3 = 1 := by kernel_rfl
theorem cells37 : Try.prog.cellsOf 37 = 4 := by kernel_rfl
theorem cells40 : Try.prog.cellsOf 40 = 8 := by kernel_rfl
/-- A call: what, which block, the state, the erase count. -/
structure KA where
  wh : Int
  bl : Int
  st : Int
  er : Int
def KA.v (x : KA) : Value := .agg #[.int .i64 x.wh, .int .i64 x.bl, .int .i64 x.st, .int .i64 x.er]
/-- A slice value that reads as the calls L. -/
def Acts (w : World) (v : Value) (L : List KA) : Prop :=
  ∃ A c, v = .slice A L.length c ∧ (0 < L.length → ∃ g o, A = some ⟨g, o, none⟩ ∧ g < w.heap.size ∧ ∀ j (hj : j < L.length), w.cell? ⟨g, o + j * 4, none⟩ = some (.int .i64 L[j].wh) ∧ w.cell? ⟨g, o + j * 4 + 1, none⟩ = some (.int .i64 L[j].bl) ∧ w.cell? ⟨g, o + j * 4 + 2, none⟩ = some (.int .i64 L[j].st) ∧ w.cell? ⟨g, o + j * 4 + 3, none⟩ = some (.int .i64 L[j].er))
theorem Acts.below {w w' : World} {v : Value} {L : List KA} (h : Acts w v L) (hb : Below w.heap.size w w') : Acts w' v L := by
  obtain ⟨A, c, rfl, hr⟩ := h
  refine ⟨A, c, rfl, fun h0 => ?_⟩
  obtain ⟨g, o, rfl, hg, hc⟩ := hr h0
  refine ⟨g, o, rfl, Nat.lt_of_lt_of_le hg hb.size, fun j hj => ?_⟩
  obtain ⟨a0, a1, a2, a3⟩ := hc j hj
  have e : ∀ t, w'.cell? ⟨g, t, none⟩ = w.cell? ⟨g, t, none⟩ := fun t => hb.cell (p := ⟨g, t, none⟩) hg
  exact ⟨(e _).trans a0, (e _).trans a1, (e _).trans a2, (e _).trans a3⟩
set_option maxRecDepth 100000 in
theorem args_back {H : Type} {enc : TypeId × Value → H} {W W' : World} (hb : Below W.heap.size W W') {ts : List TypeId} {vs : List Value} {ds : List (DataW H)} {p : List MemPlace}
    (ht : (ts.all fun t => Try.prog.readableRec t && decide (t < Try.prog.types.size)) = true) (h : DataW.TrodAll enc Try.prog W 0 (fun _ => true) true ts vs ds p) (hlt : ∀ x ∈ p, x.block < W.heap.size) :
    DataW.TrodAll enc Try.prog W' 0 (fun b => decide (b < W.heap.size)) true ts vs ds p := by
  induction ts generalizing vs ds p with
  | nil =>
    obtain ⟨rfl, rfl, rfl⟩ := trodAll_nil h
    exact trodAll_mk0
  | cons t ts ih =>
    obtain ⟨v, vs', d, ds', p0, q0, rfl, rfl, rfl, h0, r0⟩ := trodAll_cons h
    rw [List.all_cons, Bool.and_eq_true, Bool.and_eq_true] at ht
    exact trodAll_cons_mk (Below.trod laidOut ht.1.1 (of_decide_eq_true ht.1.2) h0 hb (fun x hx => hlt x (List.mem_append_left _ hx))) (ih ht.2 r0 (fun x hx => hlt x (List.mem_append_right _ hx)))
theorem okWide_arr {P : Program} {w : World} {r : Reach} {base : Nat} {t e : TypeId} {v : Value} {n : Nat} (ht : P.underlying t = some (.array n e)) (h : Value.okWide P w r base t v) : ∃ cs, v = .agg cs ∧ cs.size = P.cellsOf t := by
  simp only [Value.okWide, ht] at h
  obtain ⟨cs, h1, h2, _⟩ := h
  exact ⟨cs, h1, h2⟩
section
variable {H : Type} {enc : TypeId × Value → H} {W : World}
set_option maxRecDepth 100000 in
theorem open_is {base : Nat} {v : Value} {d : DataW H} {ps : List MemPlace} (hval : Value.okWide Try.prog W .any base 22 v) (h : DataW.Trod enc Try.prog W 0 (fun _ => true) true 22 v d ps) :
    ∃ ws : List Int, Ints W v ws := by
  obtain ⟨a0, len, cap, rfl⟩ := okWide_slice Try.underlying22 hval
  obtain ⟨fuel, hf⟩ := h
  rcases open_ints Try.underlying22 Try.underlying3 cells3 hf with ⟨hcs, hx⟩ | ⟨a, len', cap', zs, hcs, _, hl, hm, hz, hx, hcell, hwz⟩
  · simp [Value.cells] at hcs
    obtain ⟨rfl, rfl, rfl⟩ := hcs
    exact ⟨[], none, 0, rfl, fun h => absurd h (by simp)⟩
  · simp [Value.cells] at hcs
    obtain ⟨rfl, rfl, rfl⟩ := hcs
    simp only [if_true] at hz
    have hlen : (zs.take len).length = len := by simp; omega
    refine ⟨zs.take len, some a, cap, by rw [hlen], fun h0 => ?_⟩
    rw [hlen] at h0
    obtain ⟨b, off, rfl, hc⟩ := ints_at hcell (by omega)
    refine ⟨b, off, rfl, World.block_lt_of_cell? W _ (hc 0 (by omega)), fun j hj => ?_⟩
    rw [hlen] at hj
    rw [hc j (by omega)]
    have hjz : j < zs.length := by omega
    simp [hjz]
set_option maxRecDepth 100000 in
theorem open_act4 {fuel : Nat} {c0 c1 c2 c3 : Value} {x : DataW H × List MemPlace} (h : DataW.trod enc Try.prog W 0 (fun _ => true) true fuel 37 [c0, c1, c2, c3] = some x) :
    ∃ e : KA, c0 = .int .i64 e.wh ∧ c1 = .int .i64 e.bl ∧ c2 = .int .i64 e.st ∧ c3 = .int .i64 e.er := by
  obtain ⟨xs, n, _, _, _, hlen, hg⟩ := DataW.trod_struct Try.underlying37 h
  have hl : xs.length = 4 := hlen
  match xs, hl with
  | [y0, y1, y2, y3], _ =>
    have t0 : DataW.trod enc Try.prog W 0 (fun _ => true) true n 3 (([c0, c1, c2, c3].drop 0).take (Try.prog.cellsOf 3)) = some y0 := hg 0 _ rfl
    have t1 : DataW.trod enc Try.prog W 0 (fun _ => true) true n 3 (([c0, c1, c2, c3].drop 1).take (Try.prog.cellsOf 3)) = some y1 := hg 1 _ rfl
    have t2 : DataW.trod enc Try.prog W 0 (fun _ => true) true n 3 (([c0, c1, c2, c3].drop 2).take (Try.prog.cellsOf 3)) = some y2 := hg 2 _ rfl
    have t3 : DataW.trod enc Try.prog W 0 (fun _ => true) true n 3 (([c0, c1, c2, c3].drop 3).take (Try.prog.cellsOf 3)) = some y3 := hg 3 _ rfl
    rw [cells3] at t0 t1 t2 t3
    obtain ⟨n0, e0, -, _⟩ := DataW.trod_int (k := .i64) Try.underlying3 t0
    obtain ⟨n1, e1, -, _⟩ := DataW.trod_int (k := .i64) Try.underlying3 t1
    obtain ⟨n2, e2, -, _⟩ := DataW.trod_int (k := .i64) Try.underlying3 t2
    obtain ⟨n3, e3, -, _⟩ := DataW.trod_int (k := .i64) Try.underlying3 t3
    simp at e0 e1 e2 e3
    exact ⟨⟨n0, n1, n2, n3⟩, e0, e1, e2, e3⟩
set_option maxRecDepth 100000 in
theorem open_act {base : Nat} {v : Value} {d : DataW H} {ps : List MemPlace} (hval : Value.okWide Try.prog W .any base 37 v) (h : DataW.Trod enc Try.prog W 0 (fun _ => true) true 37 v d ps) :
    ∃ e : KA, v = e.v := by
  obtain ⟨cs, rfl, hsz⟩ := okWide_struct Try.underlying37 hval
  obtain ⟨fuel, hf⟩ := h
  obtain ⟨l⟩ := cs
  match l, hsz.trans cells37 with
  | [c0, c1, c2, c3], _ =>
    obtain ⟨e, rfl, rfl, rfl, rfl⟩ := open_act4 (show DataW.trod enc Try.prog W 0 (fun _ => true) true fuel 37 [c0, c1, c2, c3] = some (d, ps) by simpa [Value.cells] using hf)
    exact ⟨e, rfl⟩
set_option maxRecDepth 100000 in
theorem open_two0 {fuel : Nat} {c0 c1 c2 c3 c4 c5 c6 c7 : Value} {x : DataW H × List MemPlace} (h : DataW.trod enc Try.prog W 0 (fun _ => true) true fuel 40 [c0, c1, c2, c3, c4, c5, c6, c7] = some x) :
    ∃ e f : KA, (c0 = .int .i64 e.wh ∧ c1 = .int .i64 e.bl ∧ c2 = .int .i64 e.st ∧ c3 = .int .i64 e.er) ∧ c4 = .int .i64 f.wh ∧ c5 = .int .i64 f.bl ∧ c6 = .int .i64 f.st ∧ c7 = .int .i64 f.er := by
  obtain ⟨xs, m, _, _, _, hlen, hg⟩ := DataW.trod_array Try.underlying40 h
  have hl : xs.length = 2 := hlen
  match xs, hl with
  | [y0, y1], _ =>
    have t0 := hg 0 (by decide)
    have t1 := hg 1 (by decide)
    rw [cells37] at t0 t1
    obtain ⟨e, h0⟩ := open_act4 t0
    obtain ⟨f, h1⟩ := open_act4 t1
    exact ⟨e, f, h0, h1⟩
set_option maxRecDepth 100000 in
theorem open_two {base : Nat} {v : Value} {d : DataW H} {ps : List MemPlace} (hval : Value.okWide Try.prog W .any base 40 v) (h : DataW.Trod enc Try.prog W 0 (fun _ => true) true 40 v d ps) :
    ∃ e f : KA, v = .agg #[.int .i64 e.wh, .int .i64 e.bl, .int .i64 e.st, .int .i64 e.er, .int .i64 f.wh, .int .i64 f.bl, .int .i64 f.st, .int .i64 f.er] := by
  obtain ⟨cs, rfl, hsz⟩ := okWide_arr Try.underlying40 hval
  obtain ⟨fuel, hf⟩ := h
  obtain ⟨l⟩ := cs
  match l, hsz.trans cells40 with
  | [c0, c1, c2, c3, c4, c5, c6, c7], _ =>
    obtain ⟨e, f, ⟨rfl, rfl, rfl, rfl⟩, rfl, rfl, rfl, rfl⟩ := open_two0 (show DataW.trod enc Try.prog W 0 (fun _ => true) true fuel 40 [c0, c1, c2, c3, c4, c5, c6, c7] = some (d, ps) by simpa [Value.cells] using hf)
    exact ⟨e, f, rfl⟩
set_option maxRecDepth 100000 in
theorem open_acts {base : Nat} {v : Value} {d : DataW H} {ps : List MemPlace} (hval : Value.okWide Try.prog W .any base 23 v) (h : DataW.Trod enc Try.prog W 0 (fun _ => true) true 23 v d ps) :
    ∃ L : List KA, Acts W v L := by
  obtain ⟨a0, len, cap, rfl⟩ := okWide_slice Try.underlying23 hval
  obtain ⟨fuel, hf⟩ := h
  rcases Deep.open_slice Try.underlying23 hf with ⟨hcs, hx⟩ | ⟨a, len', cap', m, n, D, Pl, hcs, _, hl, hm, hmm, hx, hi⟩
  · simp [Value.cells] at hcs
    obtain ⟨rfl, rfl, rfl⟩ := hcs
    exact ⟨[], none, 0, rfl, fun h => absurd h (by simp)⟩
  · simp [Value.cells] at hcs
    obtain ⟨rfl, rfl, rfl⟩ := hcs
    simp only [if_true] at hmm
    subst hmm
    have each : ∀ i, ∃ e : KA, i < len → W.cell? (a.add (i * 4)) = some (.int .i64 e.wh) ∧ W.cell? ((a.add (i * 4)).add 1) = some (.int .i64 e.bl) ∧ W.cell? ((a.add (i * 4)).add 2) = some (.int .i64 e.st) ∧ W.cell? ((a.add (i * 4)).add 3) = some (.int .i64 e.er) := by
      intro i
      by_cases hil : i < len
      · obtain ⟨cs', hc, ht⟩ := hi i (by omega)
        rw [cells37] at hc
        obtain ⟨_, hcl, hat⟩ := World.cells?_some hc
        match cs', hcl with
        | [c0, c1, c2, c3], _ =>
          obtain ⟨e, e0, e1, e2, e3⟩ := open_act4 ht
          subst e0 e1 e2 e3
          have h0 := hat 0 (by decide)
          rw [Addr.add_zero'] at h0
          exact ⟨e, fun _ => ⟨h0, hat 1 (by decide), hat 2 (by decide), hat 3 (by decide)⟩⟩
      · exact ⟨⟨0, 0, 0, 0⟩, fun h => absurd h hil⟩
    obtain ⟨E, hE⟩ := Classical.axiomOfChoice each
    have hlen : ((List.range len).map E).length = len := by simp
    refine ⟨(List.range len).map E, some a, _, by rw [hlen], fun h0 => ?_⟩
    rw [hlen] at h0
    obtain ⟨b, off, spot⟩ := a
    have hspot : spot = none := by simpa [Addr.add] using World.cell?_spot (hE 0 h0).1
    subst hspot
    have hc0 := (hE 0 h0).1
    rw [add_plain] at hc0
    refine ⟨b, off, rfl, World.block_lt_of_cell? W _ hc0, fun j hj => ?_⟩
    rw [hlen] at hj
    obtain ⟨h1, h2, h3, h4⟩ := hE j hj
    rw [add_plain] at h1 h2 h3 h4
    rw [add_plain] at h2 h3 h4
    simp only [List.getElem_map, List.getElem_range]
    exact ⟨h1, h2, h3, h4⟩
end
end Go.Proofs.Ytpojgjbgbbnojaa
