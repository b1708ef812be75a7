/- Rows of complete records in memory. Conditions stand in each theorem. -/
import Derived.Test.YtajlddgemkkcdaaLA
import Derived.Laws.OwnMore
import Derived.Laws.MakeOwn
import Derived.Deep.AppendSrc
import Derived.Lib.AppendZeros
import Derived.Lib.SliceRun
namespace Go.Proofs.Ytajlddgemkkcdaa
open Go.RowKit
set_option linter.unusedVariables false
set_option maxHeartbeats 4000000
set_option maxRecDepth 100000
def Loc.cells (x : Loc) : List Value := [.int .u8 x.r.k, .int .u64 x.r.f, .int .u64 x.r.p, .int .i64 x.r.n, .int .i64 x.e, x.pl]
/-- The cells of complete records, as a row. -/
def fl6 (L : List Loc) : List Value := L.flatMap Loc.cells
theorem fl6_length (L : List Loc) : (fl6 L).length = L.length * 6 := by
  unfold fl6
  induction L with
  | nil => rfl
  | cons e r ih => rw [List.flatMap_cons, List.length_append, ih]; simp [Loc.cells]; omega
theorem fl6_snoc (L : List Loc) (r : Loc) : fl6 (L ++ [r]) = fl6 L ++ r.cells := by simp [fl6]
theorem fl6_at (L : List Loc) (i j : Nat) (hi : i < L.length) (hj : j < 6) : (fl6 L)[i * 6 + j]? = L[i].cells[j]? := by
  induction L generalizing i with
  | nil => cases hi
  | cons e r ih =>
    have hc : e.cells.length = 6 := rfl
    show (e.cells ++ fl6 r)[i * 6 + j]? = _
    cases i with
    | zero =>
      rw [List.getElem?_append_left (by rw [hc]; omega)]
      simp
    | succ i =>
      rw [List.getElem?_append_right (by rw [hc]; omega), hc, show (i + 1) * 6 + j - 6 = i * 6 + j by omega, ih i (by simpa using hi)]
      simp
/-- The slice of records: none yet, or a row of its own. -/
def Own6 (W : World) (base : Nat) (v : Value) (L : List Loc) : Prop := (L = [] ∧ v = .slice none 0 0) ∨ (L ≠ [] ∧ W.ownsRow base 78 6 v L.length (fl6 L))
theorem info78 : (Try.prog.info? 78).map (fun i => (i.zero, i.size, i.bytes)) = some (some (.agg #[.int .u8 0, .int .u64 0, .int .u64 0, .int .i64 0, .int .i64 0, .slice none 0 0]), 6, 64) := by kernel_rfl
theorem loc_one (r : Loc) : ∀ u ∈ r.cells, u.oneCell' = true := by
  intro u hu
  simp only [Loc.cells, List.mem_cons, List.mem_nil_iff, or_false] at hu
  rcases hu with rfl | rfl | rfl | rfl | rfl | rfl <;> rfl
theorem LoAt.cells {W : World} {b o : Nat} {r : Loc} (h : LoAt W b o r) : ∀ j u, r.cells[j]? = some u → W.cell? ((⟨b, o, none⟩ : Addr).add j) = some u := by
  intro j u hu
  rw [add_plain]
  have hj : j < 6 := (List.getElem?_eq_some_iff.1 hu).1
  have : j = 0 ∨ j = 1 ∨ j = 2 ∨ j = 3 ∨ j = 4 ∨ j = 5 := by omega
  rcases this with rfl | rfl | rfl | rfl | rfl | rfl <;> (simp only [Loc.cells, List.getElem?_cons_succ, List.getElem?_cons_zero, Option.some.injEq] at hu; subst hu)
  · exact h.c0
  · exact h.c1
  · exact h.c2
  · exact h.c3
  · exact h.c4
  · exact h.c5
theorem Own6.form {W : World} {base : Nat} {v : Value} {L : List Loc} (h : Own6 W base v L) : ∃ A c, v = .slice A L.length c := by
  rcases h with ⟨rfl, rfl⟩ | ⟨_, h⟩
  · exact ⟨none, 0, rfl⟩
  · exact own_form8 h
theorem Own6.later {W W' : World} {base : Nat} {v : Value} {L : List Loc} (h : Own6 W base v L) (hb : Below W.heap.size W W') : Own6 W' base v L := by
  rcases h with h | ⟨h1, h2⟩
  · exact .inl h
  · exact .inr ⟨h1, own_below8 h2 hb⟩
theorem Own6.at_ {W : World} {base : Nat} {v : Value} {L : List Loc} (h : Own6 W base v L) {k : Nat} (hk : k < L.length) : ∃ g c, v = .slice (some ⟨g, 0, none⟩) L.length c ∧ base ≤ g ∧ g < W.heap.size ∧ LoAt W g (k * 6) L[k] := by
  rcases h with ⟨rfl, _⟩ | ⟨_, h⟩
  · cases hk
  · rcases h.2 with ⟨_, h0⟩ | ⟨g, cap, cur, rfl, hb, hg, h1, h2, h3, h4⟩
    · omega
    · have hc : ∀ j, j < 6 → W.cell? ⟨g, k * 6 + j, none⟩ = L[k].cells[j]? := by
        intro j hj
        rw [cell_of_row _ _ _ _ _ (0, 0) hg, ← fl6_at L k j hk hj, ← h4, List.getElem?_take, if_pos (by omega)]
        simp
      refine ⟨g, cap, rfl, hb, (Array.getElem?_eq_some_iff.1 hg).1, ?_⟩
      have c0 := hc 0 (by omega)
      rw [Nat.add_zero] at c0
      exact ⟨c0, hc 1 (by omega), hc 2 (by omega), hc 3 (by omega), hc 4 (by omega), hc 5 (by omega)⟩
/-- One record is appended. -/
theorem app6 {W : World} {base b : Nat} {v : Value} {L : List Loc} {r : Loc} (ho : Own6 W base v L) (hb : base ≤ W.heap.size) (hl : L.length < 100000) (hr : LoAt W b 0 r) :
    ∃ A c W', (appX #[73, 73] 73 #[v, .slice (some ⟨b, 0, none⟩) 1 1]).run Try.prog W = .ok (.value (.slice A (L.length + 1) c)) W' ∧ Own6 W' base (.slice A (L.length + 1) c) (L ++ [r]) ∧ W.grownBy W' v.ownBlock := by
  obtain ⟨i, hi, hz0, hz1, hz2⟩ := info_parts8 info78
  have ho' : W.ownsRow base 78 6 v L.length (fl6 L) := by
    rcases ho with ⟨rfl, rfl⟩ | ⟨_, h⟩
    · exact World.ownsRow_nil _ _ _ _
    · exact h
  obtain ⟨v', W', h1, h2, h3, _⟩ := run_append_own (P := Try.prog) W base 73 73 78 i _ 6 64 Try.underlying73 hi hz0 hz1 hz2 rfl (by decide) v L.length (fl6 L) ho' ⟨b, 0, none⟩ 1 1 r.cells rfl hr.cells (loc_one r) (by unfold maxLen; omega) (by omega) hb
  obtain ⟨A, c, rfl⟩ := own_form8 h2
  refine ⟨A, c, W', appX_run h1, .inr ⟨by simp, ?_⟩, h3⟩
  rw [fl6_snoc, List.length_append]; exact h2
/-- A slice that reads as places: a row of its own. -/
def Pls (W : World) (v : Value) (l : List Nat) : Prop :=
  ∃ A c, v = .slice A l.length c ∧ l.length ≤ c ∧ (l.length ≠ 0 → ∃ g cur, A = some ⟨g, 0, none⟩ ∧ W.heap[g]? = some (.cells cur 3 (0, 0)) ∧ ∀ j (h : j < l.length), cur[j]? = some (.int .i64 (l[j] : Int)))
theorem Pls.at_ {W : World} {v : Value} {l : List Nat} (h : Pls W v l) {k : Nat} (hk : k < l.length) : ∃ g c, v = .slice (some ⟨g, 0, none⟩) l.length c ∧ l.length ≤ c ∧ g < W.heap.size ∧ ∀ j (h : j < l.length), W.cell? ⟨g, j, none⟩ = some (.int .i64 (l[j] : Int)) := by
  obtain ⟨A, c, rfl, hc, hr⟩ := h
  obtain ⟨g, cur, rfl, hg, hcell⟩ := hr (by omega)
  exact ⟨g, c, rfl, hc, (Array.getElem?_eq_some_iff.1 hg).1, fun j hj => (cell_of_row _ _ j _ 3 (0, 0) hg).trans (hcell j hj)⟩
theorem Pls.same {w w' : World} {v : Value} {l : List Nat} (h : Pls w v l) (hk : ∀ (g : Nat) (cur : Array Value), w.heap[g]? = some (Obj.cells cur 3 (0, 0)) → w'.heap[g]? = w.heap[g]?) : Pls w' v l := by
  obtain ⟨A, c, rfl, hc, hr⟩ := h
  refine ⟨A, c, rfl, hc, fun hn => ?_⟩
  obtain ⟨g, cur, rfl, hg, hcell⟩ := hr hn
  exact ⟨g, cur, rfl, (hk g cur hg).trans hg, hcell⟩
theorem Pls.below {w w' : World} {v : Value} {l : List Nat} (h : Pls w v l) (hb : Below w.heap.size w w') : Pls w' v l :=
  h.same fun g cur hg => hb.block g (Array.getElem?_eq_some_iff.1 hg).1
theorem Pls.of_own {W : World} {base : Nat} {v : Value} {l : List Nat} (h : W.ownsRow base 3 1 v l.length (iv l)) : Pls W v l := by
  obtain ⟨A, c, rfl⟩ := own_form8 h
  rcases h.2 with ⟨e, h0⟩ | ⟨g, cap, cur, e, hb, hg, h1, h2, h3, h4⟩
  · injection e with e1 _ e3
    exact ⟨A, c, rfl, by omega, fun hn => absurd h0 hn⟩
  · injection e with e1 _ e3
    refine ⟨A, c, rfl, by omega, fun hn => ⟨g, cur, e1, hg, fun j hj => ?_⟩⟩
    rw [← iv_get hj, ← h4, List.getElem?_take, if_pos (by omega)]
    simp
/-- A complete record: what its pages have in common, the place of the earliest, the places in order. -/
structure Cr where
  r : Rec
  e : Nat
  ps : List Nat
structure LocOf (W : World) (x : Loc) (c : Cr) : Prop where
  r : x.r = c.r
  e : x.e = (c.e : Int)
  n : x.pn = c.ps.length
  ps : Pls W x.pl c.ps
theorem LocOf.below {w w' : World} {x : Loc} {c : Cr} (h : LocOf w x c) (hb : Below w.heap.size w w') : LocOf w' x c := ⟨h.r, h.e, h.n, h.ps.below hb⟩
/-- Rows and records, pairwise. -/
def LocsOf (W : World) (L : List Loc) (C : List Cr) : Prop := L.length = C.length ∧ ∀ i (h : i < L.length) (h' : i < C.length), LocOf W L[i] C[i]
theorem LocsOf.below {w w' : World} {L : List Loc} {C : List Cr} (h : LocsOf w L C) (hb : Below w.heap.size w w') : LocsOf w' L C := ⟨h.1, fun i h1 h2 => (h.2 i h1 h2).below hb⟩
theorem LocsOf.snoc {w : World} {L : List Loc} {C : List Cr} (h : LocsOf w L C) {x : Loc} {c : Cr} (hx : LocOf w x c) : LocsOf w (L ++ [x]) (C ++ [c]) := by
  refine ⟨by simp [h.1], fun i h1 h2 => ?_⟩
  rcases Nat.lt_or_ge i L.length with hl | hl
  · have hc : i < C.length := by have := h.1; omega
    rw [List.getElem_append_left hl, List.getElem_append_left hc]
    exact h.2 i hl hc
  · have e : i = L.length := by simp at h1; omega
    subst e
    rw [List.getElem_append_right (Nat.le_refl _), List.getElem_append_right (by rw [h.1]; exact Nat.le_refl _)]
    simp only [Nat.sub_self, List.getElem_cons_zero, h.1]
    exact hx
/-- A cell stays where only an iterator has turned. -/
theorem cell_iter {W W' : World} {ri : Nat} {m : Option Nat} {s c : Nat} {seen : Array Nat} (hg : W.grownBy W' (some ri)) (hi : W.heap[ri]? = some (.mapIter m s seen c)) {g o : Nat} {v : Value} (h : W.cell? ⟨g, o, none⟩ = some v) : W'.cell? ⟨g, o, none⟩ = some v := by
  have hne : g ≠ ri := fun e => by
    subst e
    simp [World.cell?, hi] at h
  rw [World.cell?_of_block (w := W) (hg.block g (World.block_lt_of_cell? _ _ h) (fun e => hne (Option.some.inj e)))]
  exact h
theorem own_iter {W W' : World} {ri : Nat} {m : Option Nat} {s c : Nat} {seen : Array Nat} (hg : W.grownBy W' (some ri)) (hi : W.heap[ri]? = some (.mapIter m s seen c)) {base ty sz n : Nat} {v : Value} {xs : List Value} (h : W.ownsRow base ty sz v n xs) : W'.ownsRow base ty sz v n xs := by
  refine h.kept hg ?_
  rcases h.2 with ⟨rfl, _⟩ | ⟨g, cap, cur, rfl, _, hh, _⟩
  · exact .inl rfl
  · refine .inr (fun e => ?_)
    cases e
    rw [hh] at hi
    cases hi
theorem MS.iter {W W' : World} {ri : Nat} {m : Option Nat} {s c : Nat} {seen : Array Nat} (hg : W.grownBy W' (some ri)) (hi : W.heap[ri]? = some (.mapIter m s seen c)) {b base : Nat} {es : Array MapEntry} {ks : List Rec} {pl : Rec → List Nat} (h : MS W b base es ks pl) : MS W' b base es ks pl := by
  refine ⟨(hg.block b (Array.getElem?_eq_some_iff.1 h.blk).1 (fun e => ?_)).trans h.blk, h.lt, h.len, fun j hj => ?_, h.apart⟩
  · cases e
    have := h.blk
    rw [hi] at this
    cases this
  · obtain ⟨e, e1, e2, e3, e4⟩ := h.ent j hj
    exact ⟨e, e1, e2, e3, own_iter hg hi e4⟩
theorem Own6.iter {W W' : World} {ri : Nat} {m : Option Nat} {s c : Nat} {seen : Array Nat} (hg : W.grownBy W' (some ri)) (hi : W.heap[ri]? = some (.mapIter m s seen c)) {base : Nat} {v : Value} {L : List Loc} (h : Own6 W base v L) : Own6 W' base v L :=
  h.imp id fun ⟨a, b⟩ => ⟨a, own_iter hg hi b⟩
theorem Pls.iter {W W' : World} {ri : Nat} {m : Option Nat} {s c : Nat} {seen : Array Nat} (hg : W.grownBy W' (some ri)) (hi : W.heap[ri]? = some (.mapIter m s seen c)) {v : Value} {l : List Nat} (h : Pls W v l) : Pls W' v l :=
  h.same fun g cur hh => hg.block g (Array.getElem?_eq_some_iff.1 hh).1 (fun e => by cases e; rw [hi] at hh; cases hh)
theorem LocsOf.iter {W W' : World} {ri : Nat} {m : Option Nat} {s c : Nat} {seen : Array Nat} (hg : W.grownBy W' (some ri)) (hi : W.heap[ri]? = some (.mapIter m s seen c)) {L : List Loc} {C : List Cr} (h : LocsOf W L C) : LocsOf W' L C :=
  ⟨h.1, fun i h1 h2 => ⟨(h.2 i h1 h2).r, (h.2 i h1 h2).e, (h.2 i h1 h2).n, (h.2 i h1 h2).ps.iter hg hi⟩⟩
/-- The row that turns is one of records. -/
def Rw78 (W : World) (row : Option Nat) : Prop := ∀ g, row = some g → ∃ cur, W.heap[g]? = some (Obj.cells cur 78 (0, 0))
theorem Own6.rw78 {W : World} {base : Nat} {v : Value} {L : List Loc} (h : Own6 W base v L) : Rw78 W v.ownBlock := by
  intro g hg
  rcases h with ⟨_, rfl⟩ | ⟨_, h⟩
  · cases hg
  · rcases h.2 with ⟨rfl, _⟩ | ⟨g', cap, cur, rfl, _, hh, _⟩
    · cases hg
    · cases hg
      exact ⟨cur, hh⟩
theorem own_78 {W W' : World} {row : Option Nat} (hr : Rw78 W row) (hg : W.grownBy W' row) {base sz n : Nat} {ty : TypeId} {v : Value} {xs : List Value} (ht : ty ≠ 78) (h : W.ownsRow base ty sz v n xs) : W'.ownsRow base ty sz v n xs := by
  refine h.kept hg ?_
  rcases h.2 with ⟨rfl, _⟩ | ⟨g, cap, cur, rfl, _, hh, _⟩
  · exact .inl rfl
  · refine .inr (fun e => ?_)
    obtain ⟨cur', h'⟩ := hr g e.symm
    rw [hh] at h'
    exact ht (by injection h' with h'; injection h')
theorem MS.r78 {W W' : World} {row : Option Nat} (hr : Rw78 W row) (hg : W.grownBy W' row) {b base : Nat} {es : Array MapEntry} {ks : List Rec} {pl : Rec → List Nat} (h : MS W b base es ks pl) : MS W' b base es ks pl := by
  refine ⟨(hg.block b (Array.getElem?_eq_some_iff.1 h.blk).1 (fun e => ?_)).trans h.blk, h.lt, h.len, fun j hj => ?_, h.apart⟩
  · obtain ⟨cur', h'⟩ := hr b e.symm
    have := h.blk
    rw [h'] at this
    cases this
  · obtain ⟨e, e1, e2, e3, e4⟩ := h.ent j hj
    exact ⟨e, e1, e2, e3, own_78 hr hg (by decide) e4⟩
theorem Pls.r78 {W W' : World} {row : Option Nat} (hr : Rw78 W row) (hg : W.grownBy W' row) {v : Value} {l : List Nat} (h : Pls W v l) : Pls W' v l :=
  h.same fun g cur hh => hg.block g (Array.getElem?_eq_some_iff.1 hh).1 (fun e => by
    obtain ⟨cur', h'⟩ := hr g e.symm
    rw [hh] at h'
    injection h' with h'
    injection h' with _ h' _
    exact absurd h' (by decide))
theorem LocsOf.r78 {W W' : World} {row : Option Nat} (hr : Rw78 W row) (hg : W.grownBy W' row) {L : List Loc} {C : List Cr} (h : LocsOf W L C) : LocsOf W' L C :=
  ⟨h.1, fun i h1 h2 => ⟨(h.2 i h1 h2).r, (h.2 i h1 h2).e, (h.2 i h1 h2).n, (h.2 i h1 h2).ps.r78 hr hg⟩⟩
/-- The places in the order of their indices, the first of each index. -/
def ixF (l : List Pg) (p : Nat) : Int := match l[p]? with | some x => x.s.i | none => 0
def ordF (l : List Pg) (n : Nat) (P : List Nat) : List Nat := (List.range n).filterMap fun (j : Nat) => P.find? fun p => decide (ixF l p = (j : Int))
/-- The complete record of a key, if it is one. -/
def crF (l : List Pg) (r : Rec) : Option Cr :=
  if (ordF l r.n.toNat (plK l l.length r)).length = r.n.toNat then some ⟨r, (plK l l.length r).headD 0, ordF l r.n.toNat (plK l l.length r)⟩ else none
/-- What byIndex leaves. -/
def BiPost (w : World) (o : List Nat) (e : Ending) (w' : World) : Prop := (∃ A c, e = .returned (.slice A o.length c) ∧ Pls w' (.slice A o.length c) o) ∧ Below w.heap.size w w'
end Go.Proofs.Ytajlddgemkkcdaa
