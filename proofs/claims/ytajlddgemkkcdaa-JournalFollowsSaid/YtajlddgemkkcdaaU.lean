/- Rows of entries; the chain in memory; the closure that takes a record. Conditions stand in each theorem. -/
import Derived.Test.YtajlddgemkkcdaaT
namespace Go.Proofs.Ytajlddgemkkcdaa
open Go.RowKit
set_option linter.unusedVariables false
set_option maxHeartbeats 4000000
set_option maxRecDepth 100000
attribute [local go_sem ↓ 100000] builtin_appX
/-- The cells of entries, as a row. -/
def en2 (l : List (Int × Int)) : List Value := l.flatMap fun p => [.int .i64 p.1, .int .i64 p.2]
theorem en2_length (l : List (Int × Int)) : (en2 l).length = l.length * 2 := by
  unfold en2
  induction l with
  | nil => rfl
  | cons e r ih => rw [List.flatMap_cons, List.length_append, ih]; simp; omega
theorem en2_append (a b : List (Int × Int)) : en2 (a ++ b) = en2 a ++ en2 b := by simp [en2]
theorem en2_one (l : List (Int × Int)) : ∀ u ∈ en2 l, u.oneCell' = true := by
  intro u hu
  simp only [en2, List.mem_flatMap] at hu
  obtain ⟨p, _, hp⟩ := hu
  simp at hp
  rcases hp with rfl | rfl <;> rfl
theorem en2_at (l : List (Int × Int)) (i : Nat) (hi : i < l.length) : (en2 l)[i * 2]? = some (.int .i64 l[i].1) ∧ (en2 l)[i * 2 + 1]? = some (.int .i64 l[i].2) := by
  induction l generalizing i with
  | nil => cases hi
  | cons e r ih =>
    cases i with
    | zero => exact ⟨rfl, rfl⟩
    | succ i =>
      have := ih i (by simpa using hi)
      rw [show (i + 1) * 2 = i * 2 + 1 + 1 by omega]
      exact this
theorem info40 : (Try.prog.info? 40).map (fun i => (i.zero, i.size, i.bytes)) = some (some (.agg #[.int .i64 0, .int .i64 0]), 2, 16) := by kernel_rfl
/-- The chain's cells: its entries, the last number, the places used; rows from base on. -/
structure ChS (W : World) (cb base : Nat) (en : List (Int × Int)) (la : Int) (us : List Nat) (ve vu : Value) : Prop where
  blk : W.heap[cb]? = some (.cells #[ve, .int .u64 la, vu] 52 (0, 0))
  ve : W.ownsRow base 40 2 ve en.length (en2 en)
  vu : W.ownsRow base 3 1 vu us.length (iv us)
/-- Below base only block cb has changed. -/
structure Kb (W W' : World) (cb base : Nat) : Prop where
  os : W'.os = W.os
  tape : W'.tape = W.tape
  output : W'.output = W.output
  size : W.heap.size ≤ W'.heap.size
  block : ∀ k, k < base → k ≠ cb → W'.heap[k]? = W.heap[k]?
theorem Kb.refl (W : World) (cb base : Nat) : Kb W W cb base := ⟨rfl, rfl, rfl, Nat.le_refl _, fun _ _ _ => rfl⟩
theorem Kb.trans {a b c : World} {cb base : Nat} (h : Kb a b cb base) (k : Kb b c cb base) : Kb a c cb base :=
  ⟨k.os.trans h.os, k.tape.trans h.tape, k.output.trans h.output, Nat.le_trans h.size k.size, fun i hi hn => (k.block i hi hn).trans (h.block i hi hn)⟩
theorem Kb.of_below {a b : World} {cb base : Nat} (h : Below a.heap.size a b) (hb : base ≤ a.heap.size) : Kb a b cb base := ⟨h.os, h.tape, h.output, h.size, fun k hk _ => h.block k (by omega)⟩
theorem Kb.of_grown {a b : World} {cb base : Nat} {row : Option Nat} (h : a.grownBy b row) (hb : base ≤ a.heap.size) (hr : ∀ k, row = some k → base ≤ k ∨ k = cb) : Kb a b cb base :=
  ⟨h.os, h.tape, h.output, h.size, fun k hk hn => h.block k (by omega) (fun e => by rcases hr k e.symm with h1 | h1; omega; exact hn h1)⟩
theorem Kb.cell {a b : World} {cb base : Nat} (h : Kb a b cb base) {g o : Nat} {v : Value} (hg : g < base) (hn : g ≠ cb) (hc : a.cell? ⟨g, o, none⟩ = some v) : b.cell? ⟨g, o, none⟩ = some v :=
  (World.cell?_of_block (w := a) (h.block g hg hn)).trans hc
theorem Kb.setCell {a b : World} {cb base : Nat} (h : Kb a b cb base) (o : Nat) (v : Value) : Kb a (b.setCell ⟨cb, o, none⟩ v) cb base :=
  ⟨h.os, h.tape, h.output, by rw [World.size_setCell]; exact h.size, fun k hk hn => (heap_setCell_other b ⟨cb, o, none⟩ k v hn).trans (h.block k hk hn)⟩
theorem app_src {W : World} {t e : TypeId} {i : TypeInfo} {z : Value} {sz bytes base n m c : Nat} {v : Value} {xs news : List Value} {A : Option Addr} (ht : Try.prog.underlying t = some (.slice e)) (hi : Try.prog.info? e = some i) (hz : i.zero = some z) (h1 : i.size = sz) (h2 : i.bytes = bytes) (h3 : z.cells.size = sz) (h4 : 0 < sz)
    (hown : W.ownsRow base e sz v n xs) (hm : m = 0 → news = []) (hA : m ≠ 0 → ∃ a, A = some a ∧ ∀ j u, news[j]? = some u → W.cell? (a.add j) = some u) (hl : news.length = m * sz) (hone : ∀ u ∈ news, u.oneCell' = true) (hn : n + m ≤ maxLen) (hb : (n + m) * bytes ≤ 140737488355328) (hbase : base ≤ W.heap.size) :
    ∃ B d W', (appX #[t, t] t #[v, .slice A m c]).run Try.prog W = .ok (.value (.slice B (n + m) d)) W' ∧ W'.ownsRow base e sz (.slice B (n + m) d) (n + m) (xs ++ news) ∧ W.grownBy W' v.ownBlock ∧ ((Value.slice B (n + m) d).ownBlock = v.ownBlock ∨ (Value.slice B (n + m) d).ownBlock = some W.heap.size) := by
  rcases A with _ | a
  · have hm0 : m = 0 := by
      rcases Nat.eq_zero_or_pos m with h | h
      · exact h
      · obtain ⟨a, h, _⟩ := hA (by omega); cases h
    subst hm0
    have hnl := hm rfl
    subst hnl
    obtain ⟨B, d, rfl⟩ := own_form8 hown
    refine ⟨B, d, W, ?_, by simpa using hown, World.grownBy.refl _ _, .inl rfl⟩
    apply appX_run
    rcases hown.2 with ⟨he, h0⟩ | ⟨g, cap, cur, he, _, _, hnc, _⟩
    · injection he with e1 e2 e3
      subst e1 e3 h0
      simp [Builtin.append_, run_underlying ht, sizeOf, typeInfo, hi, Builtin.lenOf, Builtin.firstCells]
    · injection he with e1 _ e3
      subst e1 e3
      simp [Builtin.append_, run_underlying ht, sizeOf, typeInfo, hi, Builtin.lenOf, Builtin.firstCells, hnc, storeCells]
  · by_cases hm0 : m = 0
    · subst hm0
      have hnl := hm rfl
      subst hnl
      obtain ⟨v', w', hrun, h5, h6, _, h7⟩ := run_append_own_at (P := Try.prog) W base t t e i z sz bytes ht hi hz h1 h2 h3 h4 v n xs hown a 0 c [] (by simp) (fun j u h => by simp at h) (fun _ h => by cases h) hn hb hbase
      obtain ⟨B, d, rfl⟩ := own_form8 h5
      exact ⟨B, d, w', appX_run hrun, h5, h6, h7⟩
    · obtain ⟨a', ha, hc⟩ := hA hm0
      cases ha
      obtain ⟨v', w', hrun, h5, h6, _, h7⟩ := run_append_own_at (P := Try.prog) W base t t e i z sz bytes ht hi hz h1 h2 h3 h4 v n xs hown a m c news hl hc hone hn hb hbase
      obtain ⟨B, d, rfl⟩ := own_form8 h5
      exact ⟨B, d, w', appX_run hrun, h5, h6, h7⟩
/-- Entries are appended. -/
theorem app_ent {W : World} {base : Nat} {v : Value} {en l : List (Int × Int)} {A : Option Addr} {c : Nat} (hown : W.ownsRow base 40 2 v en.length (en2 en)) (hx : Ent W (.slice A l.length c) l) (hn : en.length + l.length ≤ 100000000) (hbase : base ≤ W.heap.size) :
    ∃ B d W', (appX #[22, 22] 22 #[v, .slice A l.length c]).run Try.prog W = .ok (.value (.slice B (en.length + l.length) d)) W' ∧ W'.ownsRow base 40 2 (.slice B (en.length + l.length) d) (en ++ l).length (en2 (en ++ l)) ∧ W.grownBy W' v.ownBlock := by
  obtain ⟨i0, hi0, hz0, hz1, hz2⟩ := info_parts8 info40
  obtain ⟨A', c', he, _, hr⟩ := hx
  injection he with e1 _ _
  rw [← e1] at hr
  clear e1
  obtain ⟨B, d, W', h1, h2, h3, _⟩ := app_src (m := l.length) (n := en.length) (A := A) (c := c) (news := en2 l) (v := v) (xs := en2 en) (W := W) (base := base) Try.underlying22 hi0 hz0 hz1 hz2 rfl (by decide) hown (fun h => by rw [List.eq_nil_of_length_eq_zero h]; rfl) (fun h => by
    obtain ⟨g, o, rfl, hg, hc⟩ := hr (by omega)
    refine ⟨_, rfl, fun j u hu => ?_⟩
    have hj : j < l.length * 2 := by rw [← en2_length]; exact (List.getElem?_eq_some_iff.1 hu).1
    rw [add_plain]
    obtain ⟨k, hk, hjk⟩ : ∃ k, k < l.length ∧ (j = k * 2 ∨ j = k * 2 + 1) := ⟨j / 2, by omega, by omega⟩
    have h2 := hc k hk
    have h3 := en2_at l k hk
    rcases hjk with rfl | rfl
    · rw [h3.1] at hu
      cases hu
      exact h2.1
    · rw [h3.2] at hu
      cases hu
      exact h2.2) (by rw [en2_length]) (en2_one l) (by unfold maxLen; omega) (by omega) hbase
  exact ⟨B, d, W', h1, by rw [List.length_append, en2_append]; exact h2, h3⟩
/-- Places are appended. -/
theorem app_pls {W : World} {base : Nat} {v : Value} {us ps : List Nat} {A : Option Addr} {c : Nat} (hown : W.ownsRow base 3 1 v us.length (iv us)) (hx : Pls W (.slice A ps.length c) ps) (hn : us.length + ps.length ≤ 100000000) (hbase : base ≤ W.heap.size) :
    ∃ B d W', (appX #[50, 50] 50 #[v, .slice A ps.length c]).run Try.prog W = .ok (.value (.slice B (us.length + ps.length) d)) W' ∧ W'.ownsRow base 3 1 (.slice B (us.length + ps.length) d) (us ++ ps).length (iv (us ++ ps)) ∧ W.grownBy W' v.ownBlock := by
  obtain ⟨i0, hi0, hz0, hz1, hz2⟩ := info_parts8 info3
  obtain ⟨B, d, W', h1, h2, h3, _⟩ := app_src (m := ps.length) (n := us.length) (A := A) (c := c) (news := iv ps) (v := v) (xs := iv us) (W := W) (base := base) Try.underlying50 hi0 hz0 hz1 hz2 rfl (by decide) hown (fun h => by rw [List.eq_nil_of_length_eq_zero h]; rfl) (fun h => by
    obtain ⟨g, c', he, _, _, hc⟩ := hx.at_ (k := 0) (by omega)
    injection he with e1 _ _
    subst e1
    refine ⟨_, rfl, fun j u hu => ?_⟩
    have hj : j < ps.length := by rw [← iv_length]; exact (List.getElem?_eq_some_iff.1 hu).1
    rw [add_plain, Nat.zero_add, hc j hj, ← iv_get hj, hu]) (by rw [iv_length]; omega) (iv_one ps) (by unfold maxLen; omega) (by omega) hbase
  exact ⟨B, d, W', h1, by rw [List.length_append, iv_append]; exact h2, h3⟩
end Go.Proofs.Ytajlddgemkkcdaa
