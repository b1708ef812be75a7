/- The contract of the reference's page. Conditions stand in each theorem. -/
import Derived.Test.YtajlddgemkkcdaaQG
namespace Go.Proofs.Ytajlddgemkkcdaa
open Go.RowKit
set_option linter.unusedVariables false
set_option maxHeartbeats 8000000
set_option maxRecDepth 100000
/-- The place of the page of a record with an index. -/
def pgF (l : List Pg) (r : Rec) (j : Int) : Option Nat := (plK l l.length r).find? fun p => decide (ixF l p = j)
def pgI (l : List Pg) (r : Rec) (j : Int) : Int := match pgF l r j with | some i => (i : Int) | none => -1
theorem pgF_some {l : List Pg} {r : Rec} {j : Int} {k : Nat} (hk : k < l.length) (h1 : isP l r k = true) (h2 : ixF l k = j) (h3 : ∀ t, t < k → ¬ (isP l r t = true ∧ ixF l t = j)) : pgF l r j = some k := by
  unfold pgF plK
  rw [List.find?_filter]
  rw [List.find?_range_eq_some]
  refine ⟨by simp [h1, h2], List.mem_range.2 hk, fun t ht => ?_⟩
  have := h3 t ht
  cases h : isP l r t
  · simp
  · have : ¬ ixF l t = j := fun e => this ⟨h, e⟩
    simp [this]
theorem pgF_none {l : List Pg} {r : Rec} {j : Int} (h : ∀ t, t < l.length → ¬ (isP l r t = true ∧ ixF l t = j)) : pgF l r j = none := by
  unfold pgF plK
  rw [List.find?_eq_none]
  intro t ht
  obtain ⟨h1, h2⟩ := List.mem_filter.1 ht
  have := h t (List.mem_range.1 h1)
  simp only [decide_eq_true_eq]
  exact fun e => this ⟨h2, e⟩
/-- What is asked of the pages of a list. -/
def Okn (l : List Pg) : Prop := ∀ x ∈ l, x.s.ok ∧ I64 x.s.i ∧ I64 x.s.n
/-- A page is one of a record where its parts say so. -/
theorem isP_parts {l : List Pg} {k : Nat} (hk : k < l.length) (o : Spr) (ho : jnB o = true) (hx : l[k].s.ok) : isP l o.key k = (rvB l[k].s && decide (l[k].s.k = o.k) && decide (l[k].s.p = o.p) && decide (l[k].s.n = o.n) && decide (l[k].s.q - l[k].s.i = o.q - o.i)) := by
  rw [isP_at hk]
  have hok := (jn_facts ho).1
  unfold kdB at hok
  have hok := of_decide_eq_true hok
  by_cases h1 : l[k].s.k = o.k
  · rw [rvB_jn hx (by rw [h1]; exact hok)]
    have : decide (l[k].s.key = o.key) = (decide (l[k].s.k = o.k) && decide (l[k].s.p = o.p) && decide (l[k].s.n = o.n) && decide (l[k].s.q - l[k].s.i = o.q - o.i)) := by
      rw [← Bool.decide_and, ← Bool.decide_and, ← Bool.decide_and]
      refine decide_eq_decide.2 ?_
      unfold Spr.key
      constructor
      · intro h; injection h with a b c d; exact ⟨⟨⟨a, c⟩, d⟩, b⟩
      · rintro ⟨⟨⟨a, c⟩, d⟩, b⟩; rw [a, b, c, d]
    rw [this]
    simp only [Bool.and_assoc]
  · have : decide (l[k].s.key = o.key) = false := decide_eq_false (fun e => h1 (congrArg Rec.k e))
    rw [this, decide_eq_false h1]
    simp
end Go.Proofs.Ytajlddgemkkcdaa
