/- Lists of pages that came in are opened. No condition. -/
import Derived.Test.YtajlddgemkkcdaaOP
import Derived.Test.YtajlddgemkkcdaaQH
namespace Go.Proofs.Ytajlddgemkkcdaa
open Go.ChangeShapes Go.WideShapes Go.ChangeAt Go.RowKit
set_option linter.unusedVariables false
theorem cells22 : Try.prog.cellsOf 22 = 1 := by kernel_rfl
theorem cells34 : Try.prog.cellsOf 34 = 1 := by kernel_rfl
theorem cells38 : Try.prog.cellsOf 38 = 1 := by kernel_rfl
theorem cells44 : Try.prog.cellsOf 44 = 6 := by kernel_rfl
theorem cells46 : Try.prog.cellsOf 46 = 7 := by kernel_rfl
section
variable {H : Type} {enc : TypeId × Value → H} {W : World}
set_option maxRecDepth 100000 in
theorem open_entsC {fuel : Nat} {v : Value} {x : DataW H × List MemPlace} (h : DataW.trod enc Try.prog W 0 (fun _ => true) true fuel 22 [v] = some x) :
    ∃ (A : Option Addr) (k : Nat) (L : List (Int × Int)), v = .slice A L.length k ∧ Ent W v L := by
  rcases Deep.open_slice Try.underlying22 h with ⟨hcs, hx⟩ | ⟨a, len, cap, m, n, D, Pl, hcs, _, hl, hm, hmm, hx, hi⟩
  · obtain rfl : v = .slice none 0 0 := by simpa using hcs
    exact ⟨none, 0, [], rfl, ⟨none, 0, rfl, by simp, fun h => absurd h (by simp)⟩⟩
  · obtain rfl : v = .slice (some a) len cap := by simpa using hcs
    simp only [if_true] at hmm
    subst hmm
    have each : ∀ i, ∃ e : Int × Int, (i < len → W.cell? (a.add (i * 2)) = some (.int .i64 e.1) ∧ W.cell? ((a.add (i * 2)).add 1) = some (.int .i64 e.2)) := by
      intro i
      by_cases hil : i < len
      · obtain ⟨cs', hc, ht⟩ := hi i (by omega)
        rw [cells40] at hc
        obtain ⟨_, hcl, hat⟩ := World.cells?_some hc
        match cs', hcl with
        | [c0, c1], _ =>
          obtain ⟨e, e0, e1, e2, e3⟩ := open_ent2 ht
          subst e0 e1
          have h0 := hat 0 (by decide)
          rw [Addr.add_zero'] at h0
          exact ⟨e, fun _ => ⟨h0, hat 1 (by decide)⟩⟩
      · exact ⟨(0, 0), fun h => absurd h hil⟩
    obtain ⟨E, hE⟩ := Classical.axiomOfChoice each
    have hlen : ((List.range len).map E).length = len := by simp
    refine ⟨some a, _, (List.range len).map E, by rw [hlen], ⟨some a, _, by rw [hlen], by rw [hlen]; exact hl, fun h0 => ?_⟩⟩
    rw [hlen] at h0
    obtain ⟨b, off, spot⟩ := a
    have hspot : spot = none := by simpa [Addr.add] using World.cell?_spot (hE 0 (by omega)).1
    subst hspot
    have hc0 := (hE 0 (by omega)).1
    rw [add_plain] at hc0
    refine ⟨b, off, rfl, World.block_lt_of_cell? W _ hc0, fun j hj => ?_⟩
    rw [hlen] at hj
    obtain ⟨h1, h2⟩ := hE j hj
    rw [add_plain] at h1 h2
    rw [add_plain] at h2
    simp only [List.getElem_map, List.getElem_range]
    exact ⟨h1, h2⟩
set_option maxRecDepth 100000 in
theorem open_spr {fuel : Nat} {c0 c1 c2 c3 c4 c5 : Value} {x : DataW H × List MemPlace} (h : DataW.trod enc Try.prog W 0 (fun _ => true) true fuel 44 [c0, c1, c2, c3, c4, c5] = some x) :
    ∃ s : Spr, c0 = .int .u8 s.k ∧ c1 = .int .i64 s.s ∧ c2 = .int .u64 s.q ∧ c3 = .int .u64 s.p ∧ c4 = .int .i64 s.i ∧ c5 = .int .i64 s.n ∧ s.ok ∧ I64 s.i ∧ I64 s.n := by
  obtain ⟨xs, n, _, _, _, hlen, hg⟩ := DataW.trod_struct Try.underlying44 h
  have hl : xs.length = 6 := hlen
  match xs, hl with
  | [y0, y1, y2, y3, y4, y5], _ =>
    have t0 : DataW.trod enc Try.prog W 0 (fun _ => true) true n 38 (([c0, c1, c2, c3, c4, c5].drop 0).take (Try.prog.cellsOf 38)) = some y0 := hg 0 _ rfl
    have t1 : DataW.trod enc Try.prog W 0 (fun _ => true) true n 3 (([c0, c1, c2, c3, c4, c5].drop 1).take (Try.prog.cellsOf 3)) = some y1 := hg 1 _ rfl
    have t2 : DataW.trod enc Try.prog W 0 (fun _ => true) true n 34 (([c0, c1, c2, c3, c4, c5].drop 2).take (Try.prog.cellsOf 34)) = some y2 := hg 2 _ rfl
    have t3 : DataW.trod enc Try.prog W 0 (fun _ => true) true n 34 (([c0, c1, c2, c3, c4, c5].drop 3).take (Try.prog.cellsOf 34)) = some y3 := hg 3 _ rfl
    have t4 : DataW.trod enc Try.prog W 0 (fun _ => true) true n 3 (([c0, c1, c2, c3, c4, c5].drop 4).take (Try.prog.cellsOf 3)) = some y4 := hg 4 _ rfl
    have t5 : DataW.trod enc Try.prog W 0 (fun _ => true) true n 3 (([c0, c1, c2, c3, c4, c5].drop 5).take (Try.prog.cellsOf 3)) = some y5 := hg 5 _ rfl
    rw [cells38] at t0
    rw [cells3] at t1 t4 t5
    rw [cells34] at t2 t3
    obtain ⟨n0, e0, _, w0⟩ := DataW.trod_int (k := .u8) Try.underlying38 t0
    obtain ⟨n1, e1, _, w1⟩ := DataW.trod_int (k := .i64) Try.underlying3 t1
    obtain ⟨n2, e2, _, w2⟩ := DataW.trod_int (k := .u64) Try.underlying34 t2
    obtain ⟨n3, e3, _, w3⟩ := DataW.trod_int (k := .u64) Try.underlying34 t3
    obtain ⟨n4, e4, _, w4⟩ := DataW.trod_int (k := .i64) Try.underlying3 t4
    obtain ⟨n5, e5, _, w5⟩ := DataW.trod_int (k := .i64) Try.underlying3 t5
    simp at e0 e1 e2 e3 e4 e5
    exact ⟨⟨n0, n1, n2, n3, n4, n5⟩, e0, e1, e2, e3, e4, e5, ⟨(bounds_u64 w2).1, (bounds_u64 w2).2, (bounds_u64 w3).1, (bounds_u64 w3).2⟩, i64_of w4, i64_of w5⟩
set_option maxRecDepth 100000 in
theorem open_page {fuel : Nat} {c0 c1 c2 c3 c4 c5 c6 : Value} {x : DataW H × List MemPlace} (h : DataW.trod enc Try.prog W 0 (fun _ => true) true fuel 46 [c0, c1, c2, c3, c4, c5, c6] = some x) :
    ∃ y : Pg, c0 = .int .u8 y.s.k ∧ c1 = .int .i64 y.s.s ∧ c2 = .int .u64 y.s.q ∧ c3 = .int .u64 y.s.p ∧ c4 = .int .i64 y.s.i ∧ c5 = .int .i64 y.s.n ∧ c6 = y.ev ∧ Ent W y.ev y.es ∧ y.s.ok ∧ I64 y.s.i ∧ I64 y.s.n := by
  obtain ⟨xs, n, _, _, _, hlen, hg⟩ := DataW.trod_struct Try.underlying46 h
  have hl : xs.length = 2 := hlen
  match xs, hl with
  | [y0, y1], _ =>
    have t0 : DataW.trod enc Try.prog W 0 (fun _ => true) true n 44 (([c0, c1, c2, c3, c4, c5, c6].drop 0).take (Try.prog.cellsOf 44)) = some y0 := hg 0 _ rfl
    have t1 : DataW.trod enc Try.prog W 0 (fun _ => true) true n 22 (([c0, c1, c2, c3, c4, c5, c6].drop 6).take (Try.prog.cellsOf 22)) = some y1 := hg 1 _ rfl
    rw [cells44] at t0
    rw [cells22] at t1
    obtain ⟨s, e0, e1, e2, e3, e4, e5, h1, h2, h3⟩ := open_spr t0
    obtain ⟨A, k, L, e6, h4⟩ := open_entsC t1
    subst e6
    exact ⟨⟨s, A, k, L⟩, e0, e1, e2, e3, e4, e5, rfl, h4, h1, h2, h3⟩
set_option maxRecDepth 100000 in
theorem open_pages {base : Nat} {v : Value} {d : DataW H} {ps : List MemPlace} (hval : Value.okWide Try.prog W .any base 35 v) (h : DataW.Trod enc Try.prog W 0 (fun _ => true) true 35 v d ps) :
    ∃ L : List Pg, Pgs W v L ∧ (∀ x ∈ L, Ent W x.ev x.es) ∧ Okn L := by
  obtain ⟨a0, len, cap, rfl⟩ := okWide_slice Try.underlying35 hval
  obtain ⟨fuel, hf⟩ := h
  rcases Deep.open_slice Try.underlying35 hf with ⟨hcs, hx⟩ | ⟨a, len', cap', m, n, D, Pl, hcs, _, hl, hm, hmm, hx, hi⟩
  · simp [Value.cells] at hcs
    obtain ⟨rfl, rfl, rfl⟩ := hcs
    exact ⟨[], ⟨none, 0, rfl, by simp, fun h => absurd h (by simp)⟩, fun _ h => (by cases h), fun _ h => (by cases h)⟩
  · simp [Value.cells] at hcs
    obtain ⟨rfl, rfl, rfl⟩ := hcs
    simp only [if_true] at hmm
    subst hmm
    have each : ∀ i, ∃ y : Pg, (i < len → ∀ j u, y.row[j]? = some u → W.cell? ((a.add (i * 7)).add j) = some u) ∧ Ent W y.ev y.es ∧ y.s.ok ∧ I64 y.s.i ∧ I64 y.s.n := by
      intro i
      by_cases hil : i < len
      · obtain ⟨cs', hc, ht⟩ := hi i (by omega)
        rw [cells46] at hc
        obtain ⟨_, hcl, hat⟩ := World.cells?_some hc
        match cs', hcl with
        | [c0, c1, c2, c3, c4, c5, c6], _ =>
          obtain ⟨y, e0, e1, e2, e3, e4, e5, e6, h1, h2, h3, h4⟩ := open_page ht
          subst e0 e1 e2 e3 e4 e5 e6
          refine ⟨y, fun _ j u hu => ?_, h1, h2, h3, h4⟩
          have hj : j < 7 := (Array.getElem?_eq_some_iff.1 hu).1
          rw [hat j hj]
          rw [← hu, ← Array.getElem?_toList]
      · refine ⟨⟨⟨0, 0, 0, 0, 0, 0⟩, none, 0, []⟩, fun h => absurd h hil, ⟨none, 0, rfl, by simp, fun h => absurd h (by simp)⟩, ⟨by decide, by decide, by decide, by decide⟩, ?_, ?_⟩ <;> (unfold I64; simp)
    obtain ⟨E, hE⟩ := Classical.axiomOfChoice each
    have hlen : ((List.range len).map E).length = len := by simp
    refine ⟨(List.range len).map E, ⟨some a, _, by rw [hlen], by rw [hlen]; exact hl, fun h0 => ?_⟩, fun x hx => ?_, fun x hx => ?_⟩
    · rw [hlen] at h0
      obtain ⟨b, off, spot⟩ := a
      have hspot : spot = none := by simpa [Addr.add] using World.cell?_spot ((hE 0).1 (by omega) 0 _ rfl)
      subst hspot
      have hc0 := (hE 0).1 (by omega) 0 _ rfl
      rw [add_plain, add_plain] at hc0
      refine ⟨b, off, rfl, World.block_lt_of_cell? W _ hc0, fun j hj => ?_⟩
      rw [hlen] at hj
      have hc := (hE j).1 hj
      simp only [add_plain] at hc
      simp only [List.getElem_map, List.getElem_range]
      exact ⟨hc 0 _ rfl, hc 1 _ rfl, hc 2 _ rfl, hc 3 _ rfl, hc 4 _ rfl, hc 5 _ rfl, hc 6 _ rfl⟩
    · obtain ⟨i, _, rfl⟩ := List.mem_map.1 hx
      exact (hE i).2.1
    · obtain ⟨i, _, rfl⟩ := List.mem_map.1 hx
      exact (hE i).2.2
end
end Go.Proofs.Ytajlddgemkkcdaa
