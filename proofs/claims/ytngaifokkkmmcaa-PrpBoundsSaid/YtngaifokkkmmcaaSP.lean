/- Slices and rows of spans; append. Conditions stand in each theorem. -/
import Derived.Test.YtngaifokkkmmcaaNB
namespace Go.Proofs.Ytngaifokkkmmcaa
open Go.RowKit
set_option linter.unusedVariables false
set_option maxHeartbeats 2000000
set_option maxRecDepth 100000
/-- A slice of spans that reads as l. -/
def Spn (w : World) (v : Value) (l : List (Nat × Nat)) : Prop :=
  ∃ A c, v = .slice A l.length c ∧ l.length ≤ c ∧ (0 < l.length → ∃ g o, A = some ⟨g, o, none⟩ ∧ g < w.heap.size ∧ ∀ j (hj : j < l.length), w.cell? ⟨g, o + j * 3, none⟩ = some (.int .u64 (l[j].1 : Int)) ∧ w.cell? ⟨g, o + j * 3 + 1, none⟩ = some (.int .i64 (l[j].2 : Int)) ∧ w.cell? ⟨g, o + j * 3 + 2, none⟩ = some (.bool false))
theorem Spn.below {w w' : World} {v : Value} {l : List (Nat × Nat)} (h : Spn w v l) (hb : Below w.heap.size w w') : Spn w' v l := by
  obtain ⟨A, c, e, hc, hr⟩ := h
  refine ⟨A, c, e, hc, fun h0 => ?_⟩
  obtain ⟨g, o, e2, hg, hcell⟩ := hr h0
  refine ⟨g, o, e2, Nat.lt_of_lt_of_le hg hb.size, fun j hj => ?_⟩
  obtain ⟨a1, a2, a3⟩ := hcell j hj
  exact ⟨(hb.cell (p := ⟨g, o + j * 3, none⟩) hg).trans a1, (hb.cell (p := ⟨g, o + j * 3 + 1, none⟩) hg).trans a2, (hb.cell (p := ⟨g, o + j * 3 + 2, none⟩) hg).trans a3⟩
theorem Spn.nil (w : World) : Spn w (.slice none 0 0) [] := ⟨none, 0, rfl, Nat.le_refl _, fun h => absurd h (by simp)⟩
/-- The cells of spans. -/
def sv : List (Nat × Nat) → List Value
  | [] => []
  | p :: l => .int .u64 (p.1 : Int) :: .int .i64 (p.2 : Int) :: .bool false :: sv l
theorem sv_length : ∀ l : List (Nat × Nat), (sv l).length = l.length * 3
  | [] => rfl
  | p :: l => by simp only [sv, List.length_cons, sv_length l]; omega
theorem sv_append : ∀ a b : List (Nat × Nat), sv (a ++ b) = sv a ++ sv b
  | [], b => rfl
  | p :: a, b => by simp only [List.cons_append, sv, sv_append a b]
theorem sv_at : ∀ (l : List (Nat × Nat)) (j : Nat) (h : j < l.length), (sv l)[j * 3]? = some (.int .u64 (l[j].1 : Int)) ∧ (sv l)[j * 3 + 1]? = some (.int .i64 (l[j].2 : Int)) ∧ (sv l)[j * 3 + 2]? = some (.bool false)
  | [], j, h => absurd h (by simp)
  | p :: l, 0, h => ⟨rfl, rfl, rfl⟩
  | p :: l, j + 1, h => by
    have := sv_at l j (by simpa using h)
    rw [show (j + 1) * 3 = j * 3 + 1 + 1 + 1 by omega, show j * 3 + 1 + 1 + 1 + 1 = (j * 3 + 1) + 1 + 1 + 1 by omega, show j * 3 + 1 + 1 + 1 + 2 = (j * 3 + 2) + 1 + 1 + 1 by omega]
    simpa [sv] using this
theorem sv_one : ∀ (l : List (Nat × Nat)), ∀ u ∈ sv l, u.oneCell' = true
  | [], u, h => by cases h
  | p :: l, u, h => by
    simp only [sv, List.mem_cons] at h
    rcases h with rfl | rfl | rfl | h
    · rfl
    · rfl
    · rfl
    · exact sv_one l u h
theorem spn_of_own {w : World} {base : Nat} {v : Value} {l : List (Nat × Nat)} (h : w.ownsRow base 42 3 v l.length (sv l)) : Spn w v l := by
  rcases h.2 with ⟨rfl, h0⟩ | ⟨g, cap, cur, rfl, _, hg, hnc, _, _, _⟩
  · exact ⟨none, 0, by rw [h0], by omega, fun hp => absurd hp (by omega)⟩
  · refine ⟨_, cap, rfl, hnc, fun hp => ⟨g, 0, rfl, (Array.getElem?_eq_some_iff.1 hg).1, fun j hj => ?_⟩⟩
    obtain ⟨a1, a2, a3⟩ := sv_at l j hj
    rw [Nat.zero_add, h.cellAt (j * 3) (by omega), h.cellAt (j * 3 + 1) (by omega), h.cellAt (j * 3 + 2) (by omega)]
    exact ⟨a1, a2, a3⟩
theorem info47 : (Try.prog.info? 42).map (fun i => (i.zero, i.size)) = some (some (.agg #[.int .u64 0, .int .i64 0, .bool false]), 3) := by kernel_rfl
theorem info47b : (Try.prog.info? 42).map (·.bytes) = some 24 := by kernel_rfl
theorem app_span (w : World) (base n : Nat) (v : Value) (L : List (Nat × Nat)) (p : Nat × Nat) (x : Addr) (hown : w.ownsRow base 42 3 v n (sv L)) (hx : ∀ j u, (sv [p])[j]? = some u → w.cell? (x.add j) = some u) (hsz : n ≤ 1000000) (hbase : base ≤ w.heap.size) :
    ∃ A c w', (Builtin.append_ #[26, 26] 26 #[v, .slice (some x) 1 1]).run Try.prog w = .ok (.slice A (n + 1) c) w' ∧ w'.ownsRow base 42 3 (.slice A (n + 1) c) (n + 1) (sv (L ++ [p])) ∧ w.grownBy w' v.ownBlock := by
  have h1 := info47
  have h2 := info47b
  cases hq : Try.prog.info? 42 with
  | none => rw [hq] at h1; cases h1
  | some i0 =>
    rw [hq] at h1 h2
    simp only [Option.map_some, Option.some.injEq, Prod.mk.injEq] at h1 h2
    obtain ⟨v', w', hrun, h3, h4, _, _⟩ := run_append_own_at (P := Try.prog) w base 26 26 42 i0 _ 3 24 Try.underlying26 hq h1.1 h1.2 h2 rfl (by decide) v n (sv L) hown x 1 1 (sv [p]) rfl hx (sv_one _) (by unfold maxLen; omega) (by omega) hbase
    obtain ⟨A, c, rfl⟩ := own_form h3
    exact ⟨A, c, w', hrun, by rw [sv_append]; exact h3, h4⟩
end Go.Proofs.Ytngaifokkkmmcaa
