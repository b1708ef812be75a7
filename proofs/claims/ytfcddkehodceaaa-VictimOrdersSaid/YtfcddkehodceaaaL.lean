/- append of candidates onto a row of the call's own; a row whose cells are written; the mathematics of VictimHolds. Conditions stand in each theorem. -/
import Derived.Test.YtfcddkehodceaaaK
import Derived.Maps.AppendAt
namespace Go.Proofs.Ytfcddkehodceaaa
open Go.RowKit
set_option linter.unusedVariables false
set_option maxHeartbeats 4000000
set_option maxRecDepth 100000
abbrev fl4 (L : List Cd) : List Value := L.flatMap Cd.cells
theorem fl4_one (l : List Cd) : ∀ u ∈ fl4 l, u.oneCell' = true := by
  intro u hu
  obtain ⟨e, he, hu2⟩ := List.mem_flatMap.1 hu
  exact cd_one e u hu2
theorem own4_form {w : World} {base n : Nat} {v : Value} {xs : List Value} (h : w.ownsRow base 23 4 v n xs) : ∃ A c, v = .slice A n c := by
  rcases h.2 with ⟨h1, h2⟩ | ⟨g, cap, cur, h1, _⟩
  · exact ⟨none, 0, by rw [h1, h2]⟩
  · exact ⟨_, cap, h1⟩
theorem app_cs (w : World) (base n : Nat) (v xv : Value) (L l : List Cd) (hown : w.ownsRow base 23 4 v n (fl4 L)) (hx : Cs w xv l) (hsz : n + l.length ≤ 1000000) (hbase : base ≤ w.heap.size) :
    ∃ A c w', (Builtin.append_ #[33, 33] 33 #[v, xv]).run Try.prog w = .ok (.slice A (n + l.length) c) w' ∧ w'.ownsRow base 23 4 (.slice A (n + l.length) c) (n + l.length) (fl4 (L ++ l)) ∧ w.grownBy w' v.ownBlock := by
  obtain ⟨i0, hi0, hz0, hz1, hz2⟩ := info_parts info23
  obtain ⟨A, c, rfl, hr⟩ := hx
  rcases A with _ | a
  · have h0 : l.length = 0 := by
      rcases Nat.eq_zero_or_pos l.length with h | h
      · exact h
      · obtain ⟨_, _, h, _⟩ := hr h; cases h
    have hm : l = [] := List.eq_nil_of_length_eq_zero h0
    subst hm
    obtain ⟨B, k, hv⟩ := own4_form hown
    refine ⟨B, k, w, ?_, by have h9 := hown; rw [hv] at h9; simpa using h9, World.grownBy.refl _ _⟩
    rcases hown.2 with ⟨rfl, rfl⟩ | ⟨g, cap, cur, rfl, _, _, hnc, _⟩
    · simp only [Value.slice.injEq] at hv
      obtain ⟨rfl, _, rfl⟩ := hv
      simp [Builtin.append_, run_underlying Try.underlying33, sizeOf, typeInfo, hi0, Builtin.lenOf, Builtin.firstCells]
    · simp only [Value.slice.injEq] at hv
      obtain ⟨rfl, _, rfl⟩ := hv
      simp [Builtin.append_, run_underlying Try.underlying33, sizeOf, typeInfo, hi0, Builtin.lenOf, Builtin.firstCells, hnc, storeCells]
  · have hnews : ∀ j u, (fl4 l)[j]? = some u → w.cell? (a.add j) = some u := by
      intro j u hu
      have hj : j < l.length * 4 := by
        rcases Nat.lt_or_ge j (l.length * 4) with h | h
        · exact h
        · rw [List.getElem?_eq_none (by rw [fl4_length]; exact h)] at hu; cases hu
      have hq : j / 4 < l.length := by omega
      obtain ⟨g, o, hv, _, hc⟩ := hr (by omega)
      cases hv
      have hcd := hc (j / 4) hq
      have hm4 : j % 4 < 4 := Nat.mod_lt _ (by decide)
      have e1 := fl4_at l (j / 4) (j % 4) hq hm4
      rw [show j / 4 * 4 + j % 4 = j by omega] at e1
      have hu2 := e1.symm.trans hu
      rw [add_plain, show o + j = o + j / 4 * 4 + j % 4 by omega]
      generalize j / 4 = t at *
      have hm : j % 4 = 0 ∨ j % 4 = 1 ∨ j % 4 = 2 ∨ j % 4 = 3 := by omega
      rcases hm with h5 | h5 | h5 | h5 <;> (rw [h5] at hu2 ⊢; simp only [Cd.cells, List.getElem?_cons_succ, List.getElem?_cons_zero, Option.some.injEq] at hu2; subst hu2)
      · exact hcd.c0
      · exact hcd.c1
      · exact hcd.c2
      · exact hcd.c3
    obtain ⟨v', w', hrun, h2, h3, _, h5⟩ := run_append_own_at (P := Try.prog) w base 33 33 23 i0 _ 4 32 Try.underlying33 hi0 hz0 hz1 hz2 rfl (by decide) v n (fl4 L) hown a l.length c (fl4 l) (by rw [fl4_length]) hnews (fl4_one l) (by unfold maxLen; omega) (by omega) hbase
    obtain ⟨B, k, rfl⟩ := own4_form h2
    exact ⟨B, k, w', hrun, by show w'.ownsRow _ _ _ _ _ ((L ++ l).flatMap Cd.cells); rw [List.flatMap_append]; exact h2, h3⟩
/-- Block g holds the candidates L from its first cell on. -/
structure RowC (W : World) (g : Nat) (L : List Cd) : Prop where
  row : ∃ cur, W.heap[g]? = some (.cells cur 23 (0, 0)) ∧ L.length * 4 ≤ cur.size
  el : ∀ i (h : i < L.length), CdO W g (i * 4) L[i]
theorem RowC.lt {W : World} {g : Nat} {L : List Cd} (h : RowC W g L) : g < W.heap.size := by
  obtain ⟨cur, h1, _⟩ := h.row
  exact (Array.getElem?_eq_some_iff.1 h1).1
theorem RowC.below {W W' : World} {g : Nat} {L : List Cd} (h : RowC W g L) (hb : Below W.heap.size W W') : RowC W' g L := by
  obtain ⟨cur, h1, h2⟩ := h.row
  exact ⟨⟨cur, (hb.block g h.lt).trans h1, h2⟩, fun i hi => (h.el i hi).below hb h.lt⟩
theorem RowC.cs {W : World} {g c : Nat} {L : List Cd} (h : RowC W g L) : Cs W (.slice (some ⟨g, 0, none⟩) L.length c) L :=
  ⟨_, c, rfl, fun _ => ⟨g, 0, rfl, h.lt, fun i hi => by rw [Nat.zero_add]; exact h.el i hi⟩⟩
theorem RowC.of_own {W : World} {base n g c : Nat} {L : List Cd} (h : W.ownsRow base 23 4 (.slice (some ⟨g, 0, none⟩) n c) n (fl4 L)) : n = L.length ∧ RowC W g L ∧ base ≤ g := by
  obtain ⟨hn, A, c', e, hc⟩ := Cs_of_own h
  refine ⟨hn, ?_⟩
  rcases h.2 with ⟨h1, _⟩ | ⟨g', cap, cur, h1, hb, hg, hnc, hcm, hcs, ht⟩
  · cases h1
  · cases h1
    refine ⟨⟨⟨cur, hg, by omega⟩, fun i hi => ?_⟩, hb⟩
    cases e
    obtain ⟨g', o, e2, _, hel⟩ := hc (by omega)
    cases e2
    have := hel i hi
    rwa [Nat.zero_add] at this
theorem RowC.bl {W : World} {g k : Nat} {L : List Cd} (h : RowC W g L) (hk : k < L.length) (q : Int) : RowC (W.setCell ⟨g, k * 4, none⟩ (.int .i64 q)) g (L.set k ⟨q, L[k].va, L[k].pa, L[k].ag⟩) := by
  obtain ⟨cur, h1, h2⟩ := h.row
  have h3 := heap_setCell_same W g (k * 4) cur 23 (.int .i64 q) h1
  refine ⟨⟨_, h3, by simpa using h2⟩, fun i hi => ?_⟩
  have hi' : i < L.length := by simpa using hi
  have e : ∀ j, j ≠ k * 4 → (W.setCell ⟨g, k * 4, none⟩ (.int .i64 q)).cell? ⟨g, j, none⟩ = W.cell? ⟨g, j, none⟩ := fun j hj => by
    rw [cell_of_row _ g _ _ 23 (0, 0) h3, cell_of_row W g _ cur 23 (0, 0) h1, Array.getElem?_setIfInBounds_ne (Ne.symm hj)]
  have hel := h.el i hi'
  by_cases hik : k = i
  · subst hik
    rw [List.getElem_set_self]
    refine ⟨?_, (e _ (by omega)).trans hel.c1, (e _ (by omega)).trans hel.c2, (e _ (by omega)).trans hel.c3⟩
    rw [cell_of_row _ g _ _ 23 (0, 0) h3]
    have : k * 4 < cur.size := by omega
    simp [this]
  · rw [List.getElem_set_ne hik]
    exact ⟨(e _ (by omega)).trans hel.c0, (e _ (by omega)).trans hel.c1, (e _ (by omega)).trans hel.c2, (e _ (by omega)).trans hel.c3⟩
theorem RowC.slot {W : World} {g k : Nat} {L : List Cd} (h : RowC W g L) (hk : k < L.length) : W.frozen? ⟨g, k * 4, none⟩ = false := by
  obtain ⟨cur, h1, h2⟩ := h.row
  exact frozen_of_row W g _ _ 23 h1
/-- The candidates with their indices for Blocks: the first k. -/
def blK (l : List Cd) (k : Nat) : List Cd := l.mapIdx fun i c => if i < k then ⟨(i : Int), c.va, c.pa, c.ag⟩ else c
theorem blK_len (l : List Cd) (k : Nat) : (blK l k).length = l.length := by simp [blK]
theorem blK_zero (l : List Cd) : blK l 0 = l := by
  apply List.ext_getElem (by simp [blK])
  intro i h1 h2
  simp [blK]
theorem blK_succ (l : List Cd) (k : Nat) (hk : k < (blK l k).length) : blK l (k + 1) = (blK l k).set k ⟨(k : Int), (blK l k)[k].va, (blK l k)[k].pa, (blK l k)[k].ag⟩ := by
  apply List.ext_getElem (by simp [blK])
  intro i h1 h2
  by_cases hik : k = i
  · subst hik
    simp [blK]
  · rw [List.getElem_set_ne hik]
    simp only [blK, List.getElem_mapIdx]
    by_cases h : i < k
    · rw [if_pos h, if_pos (by omega)]
    · rw [if_neg h, if_neg (by omega)]
theorem blK_bl (l : List Cd) (i : Nat) (h : i < (blK l l.length).length) : (blK l l.length)[i].bl = (i : Int) := by
  have : i < l.length := by simpa [blK_len] using h
  simp [blK, this]
/-- What rank gives, by its elements. -/
theorem rankR_mem {L : List Cd} {r : Rk} : r ∈ rankR L ↔ (∀ c ∈ L, c.ok) ∧ ∃ i, ∃ h : i < L.length, r = ⟨L[i], (i : Int)⟩ ∧ L[i].use := by
  unfold rankR
  by_cases hok : ∀ c ∈ L, c.ok
  · rw [if_pos hok]
    unfold usL useK
    rw [List.take_length, List.mem_filter]
    constructor
    · rintro ⟨h1, h2⟩
      obtain ⟨i, hi, rfl⟩ := List.getElem_of_mem h1
      rw [rkL_length] at hi
      have e := rkL_at L i hi
      rw [e] at h2 ⊢
      exact ⟨hok, i, hi, rfl, hok _ (List.getElem_mem hi), of_decide_eq_true h2⟩
    · rintro ⟨_, i, hi, rfl, h2⟩
      have e := rkL_at L i hi
      exact ⟨by rw [← e]; exact List.getElem_mem _, decide_eq_true h2.2⟩
  · rw [if_neg hok]
    exact ⟨fun h => (by cases h), fun h => absurd h.1 hok⟩
theorem errL_nz {L : List Cd} (h : rankR L = []) : errL L ≠ 0 := by
  unfold errL
  by_cases hok : ∀ c ∈ L, c.ok
  · rw [if_pos hok]
    have : usL L = [] := by unfold rankR at h; rwa [if_pos hok] at h
    rw [if_pos this]; omega
  · rw [if_neg hok]; omega
/-- What Choose has chosen, if it gives no error. -/
theorem ch_first {L : List Cd} {D : List Rk} (hp : D.Perm (rankR L)) (hq : D.Pairwise Qr) (he : chE L D = 0) :
    ∃ i, ∃ h : i < L.length, chK D = (i : Int) ∧ L[i].use ∧ (∀ c ∈ L, c.ok) ∧ ∀ j (hj : j < L.length), L[j].use → j = i ∨ Qr ⟨L[i], (i : Int)⟩ ⟨L[j], (j : Int)⟩ := by
  cases D with
  | nil =>
    unfold chE at he
    rw [if_pos rfl] at he
    exact absurd he (errL_nz hp.symm.eq_nil)
  | cons x R =>
    obtain ⟨hok, i, hi, hx, hu⟩ := rankR_mem.1 (hp.mem_iff.1 (List.mem_cons_self ..))
    refine ⟨i, hi, by rw [hx]; rfl, hu, hok, fun j hj hju => ?_⟩
    have hm := hp.mem_iff.2 (rankR_mem.2 ⟨hok, j, hj, rfl, hju⟩)
    rcases List.mem_cons.1 hm with h | h
    · left
      rw [hx] at h
      have : (j : Int) = (i : Int) := by injection h
      omega
    · right
      rw [← hx]
      exact (List.pairwise_cons.1 hq).1 _ h
theorem Qr.sge {x y : Rk} (h : Qr x y) : Sge x.c y.c := by
  rcases h with h | h
  · exact (Sge.total x.c y.c).resolve_right h
  · exact h.1
/-- Two choices over the same candidates in two orders, with different Blocks, choose the same. -/
theorem same_first {x y : Cd} {i j i' j' : Int} (h1 : Qr ⟨x, i⟩ ⟨y, j⟩) (h2 : Qr ⟨y, i'⟩ ⟨x, j'⟩) : x.bl = y.bl := by
  rcases h1 with h1 | ⟨a1, a2, a3⟩
  · rcases h2 with h2 | ⟨b1, b2, b3⟩
    · rcases Sge.total x y with h | h
      · exact absurd h h2
      · exact absurd h h1
    · exact absurd b1 h1
  · rcases h2 with h2 | ⟨b1, b2, b3⟩
    · exact absurd a1 h2
    · simp only at *; omega
/-- append as an operation, not laid open by the walk. -/
def appX (ats : Array TypeId) (ty : TypeId) (args : Array Value) : Sem Next := do pure (.value (← Builtin.append_ ats ty args))
theorem builtin_appX (ats : Array TypeId) (ty : TypeId) (cs : Array Bool) (args : Array Value) : builtin .append ats ty cs args = appX ats ty args := rfl
theorem appX_run {ats : Array TypeId} {ty : TypeId} {args : Array Value} {W W' : World} {r : Value} (h : (Builtin.append_ ats ty args).run Try.prog W = .ok r W') : (appX ats ty args).run Try.prog W = .ok (.value r) W' := by
  unfold appX
  simp only [Sem.run_bind, Sem.run_pure, Result.andThen_ok, h]
/-- A slice of a slice of candidates, its value under a letter. -/
theorem cs_cut {w : World} {l : List Cd} {A : Option Addr} {c lo hi : Nat} (h : Cs w (.slice A l.length c) l) (h1 : lo ≤ hi) (h2 : hi ≤ l.length) (hc : l.length ≤ c) : Cs w (sliced A lo hi c 4) ((l.take hi).drop lo) := by
  obtain ⟨A', c', e, hr⟩ := h
  simp only [Value.slice.injEq, true_and] at e
  obtain ⟨rfl, rfl⟩ := e
  have hlen : ((l.take hi).drop lo).length = hi - lo := by simp; omega
  refine ⟨_, _, by unfold sliced; rw [hlen], fun h0 => ?_⟩
  rw [hlen] at h0
  obtain ⟨g, o, rfl, hg, hcell⟩ := hr (by omega)
  refine ⟨g, o + lo * 4, ?_, hg, fun j hj => ?_⟩
  · rw [if_neg (by omega)]; simp [add_plain]
  · rw [hlen] at hj
    have := hcell (lo + j) (by omega)
    have e1 : o + lo * 4 + j * 4 = o + (lo + j) * 4 := by omega
    rw [e1]
    simpa only [List.getElem_drop, List.getElem_take] using this
theorem cs_slice_h {w : World} {l : List Cd} {A : Option Addr} {c hi : Nat} (h : Cs w (.slice A l.length c) l) (h2 : hi ≤ l.length) (hc : l.length ≤ c) :
    ∃ V, (∀ W : World, (Instr.slice 33 (.slice A l.length c) none (some (.int .i64 hi)) none).run Try.prog W = .ok V W) ∧ Cs w V (l.take hi) := by
  have h3 := cs_cut h (Nat.zero_le hi) h2 hc
  rw [List.drop_zero] at h3
  refine ⟨_, fun W => ?_, h3⟩
  obtain ⟨i0, hi0, hz0, hz1, hz2⟩ := info_parts info23
  rw [run_slice_h (P := Try.prog) (w := W) (t := 33) (a := A) (len := l.length) (cap := c) (ht := by rw [Try.underlying33]; rfl) .i64 hi (by omega) (by omega)]
  simp [sizeOf, typeInfo, show Try.prog.elem 33 = 23 by kernel_rfl, hi0, hz1]
theorem cs_slice_l {w : World} {l : List Cd} {A : Option Addr} {c lo : Nat} (h : Cs w (.slice A l.length c) l) (h1 : lo ≤ l.length) (hc : l.length ≤ c) :
    ∃ V, (∀ W : World, (Instr.slice 33 (.slice A l.length c) (some (.int .i64 lo)) none none).run Try.prog W = .ok V W) ∧ Cs w V (l.drop lo) := by
  have h3 := cs_cut h h1 (Nat.le_refl _) hc
  rw [List.take_length] at h3
  refine ⟨_, fun W => ?_, h3⟩
  obtain ⟨i0, hi0, hz0, hz1, hz2⟩ := info_parts info23
  rw [run_slice_l (P := Try.prog) (w := W) (t := 33) (a := A) (len := l.length) (cap := c) (ht := by rw [Try.underlying33]; rfl) .i64 lo (by omega) (by omega)]
  simp [sizeOf, typeInfo, show Try.prog.elem 33 = 23 by kernel_rfl, hi0, hz1]
/-- The two choices agree. -/
theorem turned_same {L L2 : List Cd} {i i2 : Nat} (hi : i < L.length) (hi2 : i2 < L2.length) (hm : ∀ c, c ∈ L2 ↔ c ∈ L) (hbl : ∀ j (h : j < L.length), L[j].bl = (j : Int)) (hu : L[i].use) (hu2 : L2[i2].use)
    (hf : ∀ j (hj : j < L.length), L[j].use → j = i ∨ Qr ⟨L[i], (i : Int)⟩ ⟨L[j], (j : Int)⟩) (hf2 : ∀ j (hj : j < L2.length), L2[j].use → j = i2 ∨ Qr ⟨L2[i2], (i2 : Int)⟩ ⟨L2[j], (j : Int)⟩) : L2[i2] = L[i] := by
  obtain ⟨j, hj, hjy⟩ := List.getElem_of_mem ((hm _).1 (List.getElem_mem hi2))
  obtain ⟨j2, hj2, hjx⟩ := List.getElem_of_mem ((hm _).2 (List.getElem_mem hi))
  rcases hf j hj (by rw [hjy]; exact hu2) with h | h
  · subst h; exact hjy.symm
  · rcases hf2 j2 hj2 (by rw [hjx]; exact hu) with k | k
    · subst k; exact hjx
    · rw [hjy] at h
      rw [hjx] at k
      have e := same_first h k
      have e1 := hbl i hi
      have e2 := hbl j hj
      rw [hjy] at e2
      have : i = j := by omega
      subst this
      exact hjy.symm
theorem chE_zero {L : List Cd} {D : List Rk} (hp : D.Perm (rankR L)) (hok : ∀ c ∈ L, c.ok) {c : Cd} (hc : c ∈ L) (hu : c.use) : chE L D = 0 := by
  obtain ⟨i, hi, rfl⟩ := List.getElem_of_mem hc
  have hm := hp.mem_iff.2 (rankR_mem.2 ⟨hok, i, hi, rfl, hu⟩)
  unfold chE
  rw [if_neg (by rintro rfl; cases hm)]
end Go.Proofs.Ytfcddkehodceaaa
