/- Rows of entries, and what is appended to them. Conditions stand in each theorem. -/
import Derived.Test.YtajlddgemkkcdaaGreatE
import Derived.Deep.Upon
namespace Go.Proofs.YtajlddgemkkcdaaGreat
open Go.RowKit
set_option linter.unusedVariables false
set_option maxHeartbeats 4000000
set_option maxRecDepth 100000
attribute [local go_sem ↓ 100000] builtin_appX
/-- The cells of entries, as a row. -/
def en2 (l : List (Int × Int)) : List Value := l.flatMap fun p => [.int .i64 p.1, .int .i64 p.2]
theorem en2_length (l : List (Int × Int)) : (en2 l).length = l.length * 2 := by
  unfold en2
  induction l with
  | nil => rfl
  | cons e r ih => rw [List.flatMap_cons, List.length_append, ih]; simp; omega
theorem en2_append (a b : List (Int × Int)) : en2 (a ++ b) = en2 a ++ en2 b := by simp [en2]
theorem en2_one (l : List (Int × Int)) : ∀ u ∈ en2 l, u.oneCell' = true := by
  intro u hu
  simp only [en2, List.mem_flatMap] at hu
  obtain ⟨p, _, hp⟩ := hu
  simp at hp
  rcases hp with rfl | rfl <;> rfl
theorem en2_at (l : List (Int × Int)) (i : Nat) (hi : i < l.length) : (en2 l)[i * 2]? = some (.int .i64 l[i].1) ∧ (en2 l)[i * 2 + 1]? = some (.int .i64 l[i].2) := by
  induction l generalizing i with
  | nil => cases hi
  | cons e r ih =>
    cases i with
    | zero => exact ⟨rfl, rfl⟩
    | succ i =>
      have := ih i (by simpa using hi)
      rw [show (i + 1) * 2 = i * 2 + 1 + 1 by omega]
      exact this
theorem info40 : (Tryz.prog.info? 37).map (fun i => (i.zero, i.size, i.bytes)) = some (some (.agg #[.int .i64 0, .int .i64 0]), 2, 16) := by kernel_rfl
theorem app_src {W : World} {t e : TypeId} {i : TypeInfo} {z : Value} {sz bytes base n m c : Nat} {v : Value} {xs news : List Value} {A : Option Addr} (ht : Tryz.prog.underlying t = some (.slice e)) (hi : Tryz.prog.info? e = some i) (hz : i.zero = some z) (h1 : i.size = sz) (h2 : i.bytes = bytes) (h3 : z.cells.size = sz) (h4 : 0 < sz)
    (hown : W.ownsRow base e sz v n xs) (hm : m = 0 → news = []) (hA : m ≠ 0 → ∃ a, A = some a ∧ ∀ j u, news[j]? = some u → W.cell? (a.add j) = some u) (hl : news.length = m * sz) (hone : ∀ u ∈ news, u.oneCell' = true) (hn : n + m ≤ maxLen) (hb : (n + m) * bytes ≤ 140737488355328) (hbase : base ≤ W.heap.size) :
    ∃ B d W', (appX #[t, t] t #[v, .slice A m c]).run Tryz.prog W = .ok (.value (.slice B (n + m) d)) W' ∧ W'.ownsRow base e sz (.slice B (n + m) d) (n + m) (xs ++ news) ∧ W.grownBy W' v.ownBlock ∧ ((Value.slice B (n + m) d).ownBlock = v.ownBlock ∨ (Value.slice B (n + m) d).ownBlock = some W.heap.size) := by
  rcases A with _ | a
  · have hm0 : m = 0 := by
      rcases Nat.eq_zero_or_pos m with h | h
      · exact h
      · obtain ⟨a, h, _⟩ := hA (by omega); cases h
    subst hm0
    have hnl := hm rfl
    subst hnl
    obtain ⟨B, d, rfl⟩ := own_form8 hown
    refine ⟨B, d, W, ?_, by simpa using hown, World.grownBy.refl _ _, .inl rfl⟩
    apply appX_run
    rcases hown.2 with ⟨he, h0⟩ | ⟨g, cap, cur, he, _, _, hnc, _⟩
    · injection he with e1 e2 e3
      subst e1 e3 h0
      simp [Builtin.append_, run_underlying ht, sizeOf, typeInfo, hi, Builtin.lenOf, Builtin.firstCells]
    · injection he with e1 _ e3
      subst e1 e3
      simp [Builtin.append_, run_underlying ht, sizeOf, typeInfo, hi, Builtin.lenOf, Builtin.firstCells, hnc, storeCells]
  · by_cases hm0 : m = 0
    · subst hm0
      have hnl := hm rfl
      subst hnl
      obtain ⟨v', w', hrun, h5, h6, _, h7⟩ := run_append_own_at (P := Tryz.prog) W base t t e i z sz bytes ht hi hz h1 h2 h3 h4 v n xs hown a 0 c [] (by simp) (fun j u h => by simp at h) (fun _ h => by cases h) hn hb hbase
      obtain ⟨B, d, rfl⟩ := own_form8 h5
      exact ⟨B, d, w', appX_run hrun, h5, h6, h7⟩
    · obtain ⟨a', ha, hc⟩ := hA hm0
      cases ha
      obtain ⟨v', w', hrun, h5, h6, _, h7⟩ := run_append_own_at (P := Tryz.prog) W base t t e i z sz bytes ht hi hz h1 h2 h3 h4 v n xs hown a m c news hl hc hone hn hb hbase
      obtain ⟨B, d, rfl⟩ := own_form8 h5
      exact ⟨B, d, w', appX_run hrun, h5, h6, h7⟩
/-- Entries are appended. -/
theorem app_ent {W : World} {base : Nat} {v : Value} {en l : List (Int × Int)} {A : Option Addr} {c : Nat} (hown : W.ownsRow base 37 2 v en.length (en2 en)) (hx : Ent W (.slice A l.length c) l) (hn : en.length + l.length ≤ 100000000) (hbase : base ≤ W.heap.size) :
    ∃ B d W', (appX #[24, 24] 24 #[v, .slice A l.length c]).run Tryz.prog W = .ok (.value (.slice B (en.length + l.length) d)) W' ∧ W'.ownsRow base 37 2 (.slice B (en.length + l.length) d) (en ++ l).length (en2 (en ++ l)) ∧ W.grownBy W' v.ownBlock := by
  obtain ⟨i0, hi0, hz0, hz1, hz2⟩ := info_parts8 info40
  obtain ⟨A', c', he, _, hr⟩ := hx
  injection he with e1 _ _
  rw [← e1] at hr
  clear e1
  obtain ⟨B, d, W', h1, h2, h3, _⟩ := app_src (m := l.length) (n := en.length) (A := A) (c := c) (news := en2 l) (v := v) (xs := en2 en) (W := W) (base := base) Tryz.underlying24 hi0 hz0 hz1 hz2 rfl (by decide) hown (fun h => by rw [List.eq_nil_of_length_eq_zero h]; rfl) (fun h => by
    obtain ⟨g, o, rfl, hg, hc⟩ := hr (by omega)
    refine ⟨_, rfl, fun j u hu => ?_⟩
    have hj : j < l.length * 2 := by rw [← en2_length]; exact (List.getElem?_eq_some_iff.1 hu).1
    rw [add_plain]
    obtain ⟨k, hk, hjk⟩ : ∃ k, k < l.length ∧ (j = k * 2 ∨ j = k * 2 + 1) := ⟨j / 2, by omega, by omega⟩
    have h2 := hc k hk
    have h3 := en2_at l k hk
    rcases hjk with rfl | rfl
    · rw [h3.1] at hu
      cases hu
      exact h2.1
    · rw [h3.2] at hu
      cases hu
      exact h2.2) (by rw [en2_length]) (en2_one l) (by unfold maxLen; omega) (by omega) hbase
  exact ⟨B, d, W', h1, by rw [List.length_append, en2_append]; exact h2, h3⟩
theorem Ent.of_own {W : World} {base : Nat} {A : Option Addr} {n c : Nat} {l : List (Int × Int)} (h : W.ownsRow base 37 2 (.slice A n c) l.length (en2 l)) : Ent W (.slice A n c) l := by
  rcases h.2 with ⟨e, h0⟩ | ⟨g, cap, cur, e, hb, hg, h1, h2, h3, h4⟩
  · injection e with e1 e2 e3
    subst e2 e3
    exact ⟨A, 0, by rw [h0], by omega, fun hn => absurd h0 (by omega)⟩
  · injection e with e1 e2 e3
    subst e2 e3
    refine ⟨A, c, rfl, h1, fun hn => ⟨g, 0, e1, (Array.getElem?_eq_some_iff.1 hg).1, fun j hj => ?_⟩⟩
    have h5 := en2_at l j hj
    rw [← h4, List.getElem?_take, if_pos (by omega), List.getElem?_take, if_pos (by omega)] at h5
    rw [Nat.zero_add, cell_of_row _ _ _ _ _ (0, 0) hg, cell_of_row _ _ _ _ _ (0, 0) hg]
    simpa using h5
end Go.Proofs.YtajlddgemkkcdaaGreat
