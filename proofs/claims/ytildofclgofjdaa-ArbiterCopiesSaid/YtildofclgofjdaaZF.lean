/- A list of calls that comes in, opened; the contract of few. Conditions stand in each theorem. -/
import Derived.Test.YtildofclgofjdaaZE
import Derived.Test.YtildofclgofjdaaOC
import Derived.Deep.Slices
namespace Go.Proofs.Ytildofclgofjdaa
open Go.ChangeShapes Go.WideShapes Go.ChangeAt Go.RowKit Go.Shelf
set_option linter.unusedVariables false
set_option maxHeartbeats 4000000
set_option maxRecDepth 100000
/-- A call: its kind, number, class, configuration, the slice of its loads, and what that slice reads. -/
structure KC where
  kd : Int
  q : Int
  c : Int
  wt : Bool
  bu : Int
  hi : Int
  me : Int
  lo : Int
  lv : Value
  l : List (Int × Int)
def KC.ok (W : World) (e : KC) : Prop := Lds W e.lv e.l ∧ Rng e.l ∧ I64 e.q ∧ I64 e.c
/-- The nine cells of a call at an address. -/
def ActCells (W : World) (g o : Nat) (e : KC) : Prop := W.cell? ⟨g, o, none⟩ = some (.int .i64 e.kd) ∧ W.cell? ⟨g, o + 1, none⟩ = some (.int .i64 e.q) ∧ W.cell? ⟨g, o + 2, none⟩ = some (.int .i64 e.c) ∧ W.cell? ⟨g, o + 3, none⟩ = some (.bool e.wt) ∧ W.cell? ⟨g, o + 4, none⟩ = some (.int .i64 e.bu) ∧ W.cell? ⟨g, o + 5, none⟩ = some (.int .i64 e.hi) ∧ W.cell? ⟨g, o + 6, none⟩ = some (.int .i64 e.me) ∧ W.cell? ⟨g, o + 7, none⟩ = some (.int .i64 e.lo) ∧ W.cell? ⟨g, o + 8, none⟩ = some e.lv
/-- A slice value that reads as the calls L. -/
def Acts (W : World) (v : Value) (L : List KC) : Prop :=
  ∃ A c, v = .slice A L.length c ∧ (0 < L.length → ∃ g o, A = some ⟨g, o, none⟩ ∧ g < W.heap.size ∧ ∀ j (hj : j < L.length), ActCells W g (o + j * 9) L[j])
theorem ActCells.below {W W' : World} {g o : Nat} {e : KC} (h : ActCells W g o e) (hg : g < W.heap.size) (hb : Below W.heap.size W W') : ActCells W' g o e := by
  have k : ∀ i, W'.cell? ⟨g, i, none⟩ = W.cell? ⟨g, i, none⟩ := fun i => hb.cell (p := ⟨g, i, none⟩) hg
  obtain ⟨h0, h1, h2, h3, h4, h5, h6, h7, h8⟩ := h
  exact ⟨(k _).trans h0, (k _).trans h1, (k _).trans h2, (k _).trans h3, (k _).trans h4, (k _).trans h5, (k _).trans h6, (k _).trans h7, (k _).trans h8⟩
theorem Acts.below {W W' : World} {v : Value} {L : List KC} (h : Acts W v L) (hb : Below W.heap.size W W') : Acts W' v L := by
  obtain ⟨A, c, e, hr⟩ := h
  refine ⟨A, c, e, fun h0 => ?_⟩
  obtain ⟨g, o, e1, hg, hc⟩ := hr h0
  exact ⟨g, o, e1, Nat.lt_of_lt_of_le hg hb.size, fun j hj => (hc j hj).below hg hb⟩
theorem KC.ok.below {W W' : World} {e : KC} (h : KC.ok W e) (hb : Below W.heap.size W W') : KC.ok W' e := ⟨h.1.below hb, h.2⟩
section
variable {H : Type} {enc : TypeId × Value → H} {W : World}
set_option maxRecDepth 100000 in
theorem open_acts {base : Nat} {v : Value} {d : DataW H} {ps : List MemPlace} (hval : Value.okWide Try.prog W .any base 24 v) (h : DataW.Trod enc Try.prog W 0 (fun _ => true) true 24 v d ps) :
    ∃ L : List KC, Acts W v L ∧ ∀ e ∈ L, KC.ok W e := by
  obtain ⟨a0, len, cap, rfl⟩ := okWide_slice Try.underlying24 hval
  obtain ⟨fuel, hf⟩ := h
  rcases Deep.open_slice Try.underlying24 hf with ⟨hcs, hx⟩ | ⟨a, len', cap', m, n, D, Pl, hcs, _, hl, hm, hmm, hx, hi⟩
  · simp [Value.cells] at hcs
    obtain ⟨rfl, rfl, rfl⟩ := hcs
    exact ⟨[], ⟨none, 0, rfl, fun h => absurd h (by simp)⟩, fun e he => by cases he⟩
  · simp [Value.cells] at hcs
    obtain ⟨rfl, rfl, rfl⟩ := hcs
    simp only [if_true] at hmm
    subst hmm
    have each : ∀ i, ∃ e : KC, i < len → W.cell? (a.add (i * 9)) = some (.int .i64 e.kd) ∧ W.cell? ((a.add (i * 9)).add 1) = some (.int .i64 e.q) ∧ W.cell? ((a.add (i * 9)).add 2) = some (.int .i64 e.c) ∧ W.cell? ((a.add (i * 9)).add 3) = some (.bool e.wt) ∧ W.cell? ((a.add (i * 9)).add 4) = some (.int .i64 e.bu) ∧ W.cell? ((a.add (i * 9)).add 5) = some (.int .i64 e.hi) ∧ W.cell? ((a.add (i * 9)).add 6) = some (.int .i64 e.me) ∧ W.cell? ((a.add (i * 9)).add 7) = some (.int .i64 e.lo) ∧ W.cell? ((a.add (i * 9)).add 8) = some e.lv ∧ KC.ok W e := by
      intro i
      by_cases hil : i < len
      · obtain ⟨cs', hc, ht⟩ := hi i (by omega)
        rw [cells42] at hc
        obtain ⟨_, hcl, hat⟩ := World.cells?_some hc
        match cs', hcl with
        | [c0, c1, c2, c3, c4, c5, c6, c7, c8], _ =>
          obtain ⟨kd, q, c, wt, bu, hi', me, lo, l, ha⟩ := open_act9 ht
          obtain ⟨rfl, rfl, rfl, rfl, rfl, rfl, rfl, rfl, _, hq, hcc, hL, hR⟩ := ha
          have h0 := hat 0 (by decide)
          rw [Addr.add_zero'] at h0
          exact ⟨⟨kd, q, c, wt, bu, hi', me, lo, c8, l⟩, fun _ => ⟨h0, hat 1 (by decide), hat 2 (by decide), hat 3 (by decide), hat 4 (by decide), hat 5 (by decide), hat 6 (by decide), hat 7 (by decide), hat 8 (by decide), hL, hR, hq, hcc⟩⟩
      · exact ⟨⟨0, 0, 0, false, 0, 0, 0, 0, .slice none 0 0, []⟩, fun h => absurd h hil⟩
    obtain ⟨E, hE⟩ := Classical.axiomOfChoice each
    have hlen : ((List.range len).map E).length = len := by simp
    refine ⟨(List.range len).map E, ⟨some a, _, by rw [hlen], fun h0 => ?_⟩, fun e he => ?_⟩
    · rw [hlen] at h0
      obtain ⟨b, off, spot⟩ := a
      have hspot : spot = none := by simpa [Addr.add] using World.cell?_spot (hE 0 h0).1
      subst hspot
      have hc0 := (hE 0 h0).1
      rw [add_plain] at hc0
      refine ⟨b, off, rfl, World.block_lt_of_cell? W _ hc0, fun j hj => ?_⟩
      rw [hlen] at hj
      obtain ⟨h1, h2, h3, h4, h5, h6, h7, h8, h9, -⟩ := hE j hj
      rw [add_plain] at h1 h2 h3 h4 h5 h6 h7 h8 h9
      rw [add_plain] at h2 h3 h4 h5 h6 h7 h8 h9
      simp only [List.getElem_map, List.getElem_range]
      exact ⟨h1, h2, h3, h4, h5, h6, h7, h8, h9⟩
    · obtain ⟨i, hi', rfl⟩ := List.mem_map.1 he
      exact (hE i (List.mem_range.1 hi')).2.2.2.2.2.2.2.2.2
end
/-- At most 60 calls with at most 30 loads each. -/
def fewB (L : List KC) : Bool := decide (L.length ≤ 60) && L.all fun e => decide (e.l.length ≤ 30)
theorem few_any (v : Value) (L : List KC) (w : World) (h : Acts w v L) (hok : ∀ e ∈ L, KC.ok w e) : Calls Try.prog 13 #[v] w fun e w' => e = .returned (.bool (fewB L)) ∧ w = w' := by
  obtain ⟨A, c, rfl, hr⟩ := h
  by_cases hn : 60 < L.length
  · have e1 : fewB L = false := by unfold fewB; rw [decide_eq_false (by omega)]; rfl
    rw [e1]
    have hn2 : (60 : Int) < L.length := by omega
    clear hr hok
    go_enter Try.func13, Try.ntmps13
    go_wp2
    go_ret
    exact ⟨rfl, rfl⟩
  have hn2 : ¬ (60 : Int) < L.length := by omega
  have hn3 : (L.length : Int) ≤ 60 := by omega
  have HR := Lib.hid hr
  have HOK := Lib.hid hok
  have HYES : Hid ((∀ j (hj : j < L.length), L[j].l.length ≤ 30) → fewB L = true) := Lib.hid (fun h => by
    unfold fewB
    rw [decide_eq_true (by omega), Bool.true_and, List.all_eq_true]
    intro e he
    obtain ⟨j, hj, rfl⟩ := List.mem_iff_getElem.1 he
    exact decide_eq_true (h j hj))
  have HNO : Hid (∀ j (hj : j < L.length), 30 < L[j].l.length → fewB L = false) := Lib.hid (fun j hj h => by
    unfold fewB
    rw [Bool.and_eq_false_iff]
    right
    rw [List.all_eq_false]
    exact ⟨L[j], List.getElem_mem hj, by simp; omega⟩)
  clear hr hok hn
  go_enter Try.func13, Try.ntmps13
  go_wp2
  go_loop [3] (fun i => ∃ (k : Nat), k ≤ L.length ∧ i = .int .i64 k ∧ Hid (∀ j (hj : j < L.length), j < k → L[j].l.length ≤ 30)) (fun i => L.length - (RowKit.intOf i).toNat)
  case atStart => exact ⟨0, Nat.zero_le _, rfl, fun j hj h => absurd h (by omega)⟩
  case round =>
    obtain ⟨k, hk, rfl, HK⟩ := hrel
    by_cases hlt : k < L.length
    · obtain ⟨g, o, rfl, hg, hcell⟩ := HR.out (by omega)
      have c8 := (hcell k hlt).2.2.2.2.2.2.2.2
      obtain ⟨Al, cl, hlv, hcl, hr2⟩ := (HOK.out _ (List.getElem_mem hlt)).1
      rw [hlv] at c8
      clear hlv hr2 hcl
      have HN1 := Lib.hid (HNO.out k hlt)
      have HK2 : Hid (L[k].l.length ≤ 30 → ∀ j (hj : j < L.length), j < k + 1 → L[j].l.length ≤ 30) := Lib.hid (fun hx j hj hjk => by
        rcases Nat.lt_or_ge j k with h | h
        · exact HK.out j hj h
        · have : j = k := by omega
          subst this
          exact hx)
      generalize L[k].l.length = x at *
      clear hcell
      by_cases hx : 30 < x
      · have hx2 : (30 : Int) < x := by omega
        go_wp2
        go_ret
        exact ⟨by rw [HN1.out hx]; rfl, rfl⟩
      · have hx2 : ¬ (30 : Int) < x := by omega
        go_wp2
        go_round
        case rel => exact ⟨k + 1, by omega, by go_num, Lib.hid (HK2.out (by omega))⟩
        case measure => simp [RowKit.intOf]; omega
    · go_wp2
      go_ret
      exact ⟨by rw [HYES.out (fun j hj => HK.out j hj (by omega))]; rfl, rfl⟩
end Go.Proofs.Ytildofclgofjdaa
