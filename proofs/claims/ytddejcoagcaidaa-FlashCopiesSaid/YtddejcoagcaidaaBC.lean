/- The law's rows of kept calls. Conditions stand in each theorem. -/
import Derived.Test.YtddejcoagcaidaaBB
namespace Go.Proofs.Ytddejcoagcaidaa
open Go.RowKit
set_option linter.unusedVariables false
set_option maxHeartbeats 2000000
set_option maxRecDepth 100000
theorem info43 : (Try.prog.info? 43).map (fun i => (i.zero, i.size, i.bytes)) = some (some (.agg #[.int .i64 0, .int .i64 0, .int .i64 0, .slice none 0 0, .slice none 0 0]), 5, 72) := by kernel_rfl
def encs (L : List KA) : List Value := L.flatMap KA.enc
theorem encs_length (L : List KA) : (encs L).length = L.length * 5 := by
  unfold encs
  induction L with
  | nil => rfl
  | cons e r ih => rw [List.flatMap_cons, List.length_append, ih]; simp [KA.enc]; omega
theorem encs_append (a b : List KA) : encs (a ++ b) = encs a ++ encs b := by simp [encs]
theorem encs_at (L : List KA) (j : Nat) (h : j < L.length) : (encs L)[j * 5]? = some (.int .i64 L[j].wh) ∧ (encs L)[j * 5 + 1]? = some (.int .i64 L[j].bl) ∧ (encs L)[j * 5 + 2]? = some (.int .i64 L[j].pg) ∧ (encs L)[j * 5 + 3]? = some L[j].vd ∧ (encs L)[j * 5 + 4]? = some L[j].vs := by
  induction L generalizing j with
  | nil => cases h
  | cons e r ih =>
    cases j with
    | zero => exact ⟨rfl, rfl, rfl, rfl, rfl⟩
    | succ j =>
      have h2 := ih j (by simpa using h)
      have key : ∀ t, (encs (e :: r))[(j + 1) * 5 + t]? = (encs r)[j * 5 + t]? := fun t => by
        show (e.enc ++ encs r)[(j + 1) * 5 + t]? = _
        rw [List.getElem?_append_right (by simp [KA.enc]; omega)]
        congr 1
        simp [KA.enc]; omega
      exact ⟨(key 0).trans h2.1, (key 1).trans h2.2.1, (key 2).trans h2.2.2.1, (key 3).trans h2.2.2.2.1, (key 4).trans h2.2.2.2.2⟩
/-- The slices of a call are slices. -/
def KA.one (e : KA) : Prop := (∃ A n c, e.vd = .slice A n c) ∧ ∃ A n c, e.vs = .slice A n c
theorem KA.ok_one {w : World} {e : KA} (h : e.ok w) : e.one := by
  obtain ⟨A, c, e1⟩ := byt_form h.1
  obtain ⟨B, k, e2⟩ := byt_form h.2
  exact ⟨⟨_, _, _, e1⟩, ⟨_, _, _, e2⟩⟩
theorem enc_one {e : KA} (h : e.one) : ∀ u ∈ e.enc, u.oneCell' = true := by
  obtain ⟨⟨A, n, c, e1⟩, B, k, d, e2⟩ := h
  intro u hu
  simp only [KA.enc, e1, e2, List.mem_cons, List.not_mem_nil, or_false] at hu
  rcases hu with rfl | rfl | rfl | rfl | rfl <;> rfl
theorem encs_one {L : List KA} (h : ∀ e ∈ L, e.one) : ∀ u ∈ encs L, u.oneCell' = true := by
  intro u hu
  obtain ⟨e, he, hu2⟩ := List.mem_flatMap.1 hu
  exact enc_one (h e he) u hu2
theorem Acts.of_own {w : World} {base n : Nat} {v : Value} {L : List KA} (h : w.ownsRow base 43 5 v n (encs L)) : Acts w v L := by
  have hn : n = L.length := by have := h.1; rw [encs_length] at this; omega
  subst hn
  rcases h.2 with ⟨rfl, h0⟩ | ⟨g, cap, cur, rfl, _, hg, hnc, _, hcs, ht⟩
  · exact ⟨none, 0, by rw [h0], fun hp => absurd hp (by omega)⟩
  · refine ⟨_, cap, rfl, fun hp => ⟨g, 0, rfl, (Array.getElem?_eq_some_iff.1 hg).1, fun j hj => ?_⟩⟩
    obtain ⟨e0, e1, e2, e3, e4⟩ := encs_at L j hj
    have hc : ∀ t u, t < 5 → (encs L)[j * 5 + t]? = some u → w.cell? ⟨g, 0 + j * 5 + t, none⟩ = some u := fun t u ht5 hu => by
      rw [Nat.zero_add, h.cellAt (j * 5 + t) (by omega)]
      exact hu
    exact ⟨hc 0 _ (by omega) e0, hc 1 _ (by omega) e1, hc 2 _ (by omega) e2, hc 3 _ (by omega) e3, hc 4 _ (by omega) e4⟩
theorem Acts.below {w w' : World} {v : Value} {L : List KA} (h : Acts w v L) (hb : Below w.heap.size w w') : Acts w' v L := by
  obtain ⟨A, c, rfl, hr⟩ := h
  refine ⟨A, c, rfl, fun h0 => ?_⟩
  obtain ⟨g, o, rfl, hg, hc⟩ := hr h0
  refine ⟨g, o, rfl, Nat.lt_of_lt_of_le hg hb.size, fun j hj => ?_⟩
  obtain ⟨a0, a1, a2, a3, a4⟩ := hc j hj
  have e : ∀ t, w'.cell? ⟨g, t, none⟩ = w.cell? ⟨g, t, none⟩ := fun t => hb.cell (p := ⟨g, t, none⟩) hg
  exact ⟨(e _).trans a0, (e _).trans a1, (e _).trans a2, (e _).trans a3, (e _).trans a4⟩
theorem acts_cells {w : World} {A : Option Addr} {n c : Nat} {L : List KA} (h : Acts w (.slice A n c) L) : n = L.length ∧ (0 < L.length → ∃ g o, A = some ⟨g, o, none⟩ ∧ ∀ j u, (encs L)[j]? = some u → w.cell? ⟨g, o + j, none⟩ = some u) := by
  obtain ⟨A', c', e, hr⟩ := h
  simp only [Value.slice.injEq] at e
  obtain ⟨rfl, rfl, rfl⟩ := e
  refine ⟨rfl, fun h0 => ?_⟩
  obtain ⟨g, o, rfl, _, hc⟩ := hr h0
  refine ⟨g, o, rfl, fun j u hu => ?_⟩
  have hj : j < L.length * 5 := by
    rcases Nat.lt_or_ge j (L.length * 5) with h1 | h1
    · exact h1
    · rw [List.getElem?_eq_none (by rw [encs_length]; exact h1)] at hu; cases hu
  have hq : j / 5 < L.length := by omega
  obtain ⟨a0, a1, a2, a3, a4⟩ := hc (j / 5) hq
  obtain ⟨b0, b1, b2, b3, b4⟩ := encs_at L (j / 5) hq
  have hj5 : j = j / 5 * 5 + j % 5 := by omega
  have hm : j % 5 = 0 ∨ j % 5 = 1 ∨ j % 5 = 2 ∨ j % 5 = 3 ∨ j % 5 = 4 := by omega
  generalize j / 5 = q at *
  rcases hm with h5 | h5 | h5 | h5 | h5 <;> (rw [h5] at hj5; subst hj5)
  · rw [Nat.add_zero] at hu ⊢; rw [b0] at hu; exact a0.trans hu
  · rw [b1] at hu; rw [← Nat.add_assoc]; exact a1.trans hu
  · rw [b2] at hu; rw [← Nat.add_assoc]; exact a2.trans hu
  · rw [b3] at hu; rw [← Nat.add_assoc]; exact a3.trans hu
  · rw [b4] at hu; rw [← Nat.add_assoc]; exact a4.trans hu
/-- append of calls onto a row of the call's own. -/
theorem run_append43 (w : World) (base n ty : Nat) (v xv : Value) (xs : List Value) (L : List KA) (hown : w.ownsRow base 43 5 v n xs) (hx : Acts w xv L) (hone : ∀ e ∈ L, e.one) (hsz : n + L.length ≤ 1000) (hbase : base ≤ w.heap.size) :
    ∃ A c w', (Builtin.append_ #[25, 25] ty #[v, xv]).run Try.prog w = .ok (.slice A (n + L.length) c) w' ∧ w'.ownsRow base 43 5 (.slice A (n + L.length) c) (n + L.length) (xs ++ encs L) ∧ w.grownBy w' v.ownBlock := by
  obtain ⟨i0, hi0, hz0, hz1, hz2⟩ := info_parts info43
  have hf : ∃ A c, xv = .slice A L.length c := by obtain ⟨A, c, e, _⟩ := hx; exact ⟨A, c, e⟩
  obtain ⟨A, c, rfl⟩ := hf
  obtain ⟨_, hr⟩ := acts_cells hx
  rcases A with _ | a
  · have h0 : L.length = 0 := by
      rcases Nat.eq_zero_or_pos L.length with h | h
      · exact h
      · obtain ⟨_, _, h, _⟩ := hr h; cases h
    have hm : L = [] := List.eq_nil_of_length_eq_zero h0
    subst hm
    obtain ⟨B, k, hv⟩ := own_form hown
    refine ⟨B, k, w, ?_, by have h9 := hown; rw [hv] at h9; simpa [encs] using h9, World.grownBy.refl _ _⟩
    rcases hown.2 with ⟨rfl, rfl⟩ | ⟨g, cap, cur, rfl, _, _, hnc, _⟩
    · simp only [Value.slice.injEq] at hv
      obtain ⟨rfl, _, rfl⟩ := hv
      simp [Builtin.append_, run_underlying Try.underlying25, sizeOf, typeInfo, hi0, Builtin.lenOf, Builtin.firstCells]
    · simp only [Value.slice.injEq] at hv
      obtain ⟨rfl, _, rfl⟩ := hv
      simp [Builtin.append_, run_underlying Try.underlying25, sizeOf, typeInfo, hi0, Builtin.lenOf, Builtin.firstCells, hnc, storeCells]
  · have hnews : ∀ j u, (encs L)[j]? = some u → w.cell? (a.add j) = some u := by
      intro j u hu
      have hj : 0 < L.length := by
        rcases Nat.eq_zero_or_pos L.length with h | h
        · have : L = [] := List.eq_nil_of_length_eq_zero h
          subst this
          simp [encs] at hu
        · exact h
      obtain ⟨g, o, e, hc⟩ := hr hj
      cases e
      rw [add_plain]
      exact hc j u hu
    obtain ⟨v', w', hrun, h2, h3, _, h5⟩ := run_append_own_at (P := Try.prog) w base 25 ty 43 i0 _ 5 72 Try.underlying25 hi0 hz0 hz1 hz2 rfl (by decide) v n xs hown a L.length c (encs L) (encs_length L) hnews (encs_one hone) (by unfold maxLen; omega) (by omega) hbase
    obtain ⟨B, k, rfl⟩ := own_form h2
    exact ⟨B, k, w', hrun, h2, h3⟩
/-- kept[b] with one call more: what both appends leave, in the order given by the worlds. -/
theorem app_one (w : World) (base q n ty : Nat) (v : Value) (xs : List Value) (e : KA) (hown : w.ownsRow base 43 5 v n xs) (hq : w.heap[q]? = some (.cells #[.int .i64 e.wh, .int .i64 e.bl, .int .i64 e.pg, e.vd, e.vs] 43 (0, 0))) (hone : e.one) (hsz : n ≤ 900) (hbase : base ≤ w.heap.size) :
    ∃ A c w', (Builtin.append_ #[25, 25] ty #[v, .slice (some ⟨q, 0, none⟩) 1 1]).run Try.prog w = .ok (.slice A (n + 1) c) w' ∧ w'.ownsRow base 43 5 (.slice A (n + 1) c) (n + 1) (xs ++ e.enc) ∧ w.grownBy w' v.ownBlock := by
  have hx : Acts w (.slice (some ⟨q, 0, none⟩) 1 1) [e] := by
    have hc := fun k => cell_of_row w q k _ 43 (0, 0) hq
    refine ⟨_, 1, rfl, fun _ => ⟨q, 0, rfl, (Array.getElem?_eq_some_iff.1 hq).1, fun j hj => ?_⟩⟩
    have : j = 0 := by simp at hj; exact hj
    subst this
    exact ⟨hc 0, hc 1, hc 2, hc 3, hc 4⟩
  have := run_append43 w base n ty v (.slice (some ⟨q, 0, none⟩) 1 1) xs [e] hown hx (fun e' he => by rw [List.mem_singleton] at he; rw [he]; exact hone) (by simp; omega) hbase
  simpa [encs] using this
theorem app_all (w : World) (base q ty : Nat) (xv : Value) (L : List KA) (hq : w.heap[q]? = some (.cells #[] 43 (0, 0))) (hx : Acts w xv L) (hone : ∀ e ∈ L, e.one) (hsz : L.length ≤ 900) (hb : base ≤ q) :
    ∃ A c w', (Builtin.append_ #[25, 25] ty #[.slice (some ⟨q, 0, none⟩) 0 0, xv]).run Try.prog w = .ok (.slice A L.length c) w' ∧ w'.ownsRow base 43 5 (.slice A L.length c) L.length (encs L) ∧ Chg (· = q) w w' := by
  have hown : w.ownsRow base 43 5 (.slice (some ⟨q, 0, none⟩) 0 0) 0 [] := ⟨rfl, .inr ⟨q, 0, #[], rfl, hb, hq, Nat.le_refl _, Nat.zero_le _, rfl, rfl⟩⟩
  obtain ⟨A, c, w', h1, h2, h3⟩ := run_append43 w base 0 ty _ xv [] L hown hx hone (by omega) (by have := (Array.getElem?_eq_some_iff.1 hq).1; omega)
  rw [Nat.zero_add] at h1 h2
  exact ⟨A, c, w', h1, h2, (Chg.of_grown h3).mono fun i hi => by simp only [Value.ownBlock, Option.some.injEq] at hi; exact hi.symm⟩
end Go.Proofs.Ytddejcoagcaidaa
