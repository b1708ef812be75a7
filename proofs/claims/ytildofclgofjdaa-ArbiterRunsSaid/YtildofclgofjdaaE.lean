/- Loads, the set of numbers that were seen; the contracts of waits, IndexFunc, ContainsFunc, class. Conditions stand in each theorem. -/
import Derived.Test.YtildofclgofjdaaD
namespace Go.Proofs.Ytildofclgofjdaa
open Go.RowKit
set_option linter.unusedVariables false
set_option maxHeartbeats 400000
set_option maxRecDepth 100000
/-- A slice value that reads as the loads l. -/
def Lds (w : World) (v : Value) (l : List (Int × Int)) : Prop :=
  ∃ A c, v = .slice A l.length c ∧ l.length ≤ c ∧ (0 < l.length → ∃ g o, A = some ⟨g, o, none⟩ ∧ g < w.heap.size ∧ ∀ j (hj : j < l.length), w.cell? ⟨g, o + j * 2, none⟩ = some (.int .i64 l[j].1) ∧ w.cell? ⟨g, o + j * 2 + 1, none⟩ = some (.int .i64 l[j].2))
def Rng (l : List (Int × Int)) : Prop := ∀ p ∈ l, I64 p.1 ∧ I64 p.2
theorem Lds.keep {w w' : World} {v : Value} {l : List (Int × Int)} (h : Lds w v l) (hs : w.heap.size ≤ w'.heap.size) (hk : ∀ p : Addr, p.block < w.heap.size → (0 < l.length → ∀ c A, v = .slice (some A) l.length c → p.block = A.block) → w'.cell? p = w.cell? p) : Lds w' v l := by
  obtain ⟨A, c, rfl, hc, hr⟩ := h
  refine ⟨A, c, rfl, hc, fun hn => ?_⟩
  obtain ⟨g, o, rfl, hg, hcell⟩ := hr hn
  refine ⟨g, o, rfl, by omega, fun j hj => ?_⟩
  have hx : ∀ i, w'.cell? ⟨g, i, none⟩ = w.cell? ⟨g, i, none⟩ := fun i => hk ⟨g, i, none⟩ hg (fun _ c' A' e => by injection e with e1 _ _; injection e1 with e1; rw [← e1])
  exact ⟨(hx _).trans (hcell j hj).1, (hx _).trans (hcell j hj).2⟩
theorem Lds.below {w w' : World} {v : Value} {l : List (Int × Int)} (h : Lds w v l) (hb : Below w.heap.size w w') : Lds w' v l := h.keep hb.size fun _ hp _ => hb.cell hp
theorem Lds.nil (w : World) : Lds w (.slice none 0 0) [] := ⟨_, 0, rfl, by simp, fun h => absurd h (by simp)⟩
/-- The row of the loads is none of the blocks of S. -/
def Off (S : Nat → Prop) (v : Value) (l : List (Int × Int)) : Prop := 0 < l.length → ∀ b, v.ownBlock = some b → ¬ S b
theorem Lds.chg {S : Nat → Prop} {w w' : World} {v : Value} {l : List (Int × Int)} (h : Lds w v l) (hc : Chg S w w') (ho : Off S v l) : Lds w' v l := by
  obtain ⟨A, c, rfl, hl, hr⟩ := h
  refine ⟨A, c, rfl, hl, fun hn => ?_⟩
  obtain ⟨g, o, rfl, hg, hcell⟩ := hr hn
  have hx : ∀ i, w'.cell? ⟨g, i, none⟩ = w.cell? ⟨g, i, none⟩ := fun i => hc.cell (p := ⟨g, i, none⟩) hg (ho hn g rfl)
  exact ⟨g, o, rfl, Nat.lt_of_lt_of_le hg hc.size, fun j hj => ⟨(hx _).trans (hcell j hj).1, (hx _).trans (hcell j hj).2⟩⟩

/-- Block m is the set of the numbers xs. -/
def Seen (w : World) (m : Nat) (xs : List Int) : Prop :=
  ∃ D : DataW Unit, w.ownsMap Try.prog 3 (plainElem Try.prog 4) m xs.length D ∧ ∀ q : Int, D.atKey (.int .i64 q) (.lit (.bool false)) = .lit (.bool (xs.contains q))
theorem Seen.kept {w w' : World} {m : Nat} {xs : List Int} (h : Seen w m xs) (hb : w'.heap[m]? = w.heap[m]?) : Seen w' m xs := by
  obtain ⟨D, ⟨es, c, hm, r⟩, hq⟩ := h
  exact ⟨D, ⟨es, c, hb.trans hm, r⟩, hq⟩
theorem Seen.lt {w : World} {m : Nat} {xs : List Int} (h : Seen w m xs) : m < w.heap.size := by
  obtain ⟨D, h, _⟩ := h
  exact h.lt
theorem Seen.made (w : World) : Seen (w.alloc (.map #[] 0)) w.heap.size [] := ⟨.map [], World.ownsMap_made _ _ _ _, fun q => rfl⟩
theorem zero4 (w : World) : (zeroValue 4).run Try.prog w = .ok (.bool false) w := by kernel_rfl
theorem plain_bool_inv {P : Program} {t : TypeId} (ht : P.underlying t = some .bool) {v : Value} {z : DataW Unit × List MemPlace} (h : plainElem P t v = some z) : ∃ x, v = .bool x ∧ z = (.lit (.bool x), []) := by
  unfold plainElem at h
  rw [ht] at h
  cases v <;> simp at h
  exact ⟨_, rfl, h.symm⟩
theorem Seen.look_at {w : World} {m : Nat} {xs : List Int} (h : Seen w m xs) {q : Int} (hq : I64 q) :
    (Instr.lookup 99 (.map (some m)) (.int .i64 q) false).run Try.prog w = .ok (.bool (xs.contains q)) w := by
  obtain ⟨D, hown, hat⟩ := h
  obtain ⟨v, ps, hrun, hv⟩ := hown.lookup law Try.underlying99 (zero4 w) (plainElem_bool Try.underlying4 false) (key_of hq)
  obtain ⟨x, rfl, hx⟩ := plain_bool_inv Try.underlying4 hv
  have h1 := congrArg Prod.fst hx
  simp only at h1
  rw [hat q] at h1
  simp only [DataW.lit.injEq, Lit.bool.injEq] at h1
  rw [hrun, ← h1]
theorem Seen.put {w : World} {m : Nat} {xs : List Int} (h : Seen w m xs) {q : Int} (hq : I64 q) (hl : xs.length < maxLen) :
    ∃ w', (Instr.mapUpdate 99 (.map (some m)) (.int .i64 q) (.bool true)).run Try.prog w = .ok () w' ∧ Seen w' m (q :: xs) ∧ w.grownBy w' (some m) := by
  obtain ⟨D, hown, hat⟩ := h
  obtain ⟨w', hrun, ho, hg⟩ := hown.update law Try.underlying99 hl (key_of hq) (plainElem_bool Try.underlying4 true)
  refine ⟨w', hrun, ⟨_, ho, fun q' => ?_⟩, hg⟩
  by_cases e : q' = q
  · subst e
    rw [Maps.atKey_put_same (k := .int .i64 q') hown.isMap trivial]
    simp
  · have hne : (Lit.int .i64 q') ≠ .int .i64 q := by simpa using e
    rw [Maps.atKey_put_other hne, hat q']
    have : (q :: xs).contains q' = xs.contains q' := by simp [e]
    rw [this]
theorem waits_any (q n : Int) (w : World) : Calls Try.prog 34 #[.agg #[.int .i64 q, .int .i64 n]] w fun e w' => e = .returned (.bool (decide (0 < n))) ∧ Below w.heap.size w w' := by
  by_cases h : 0 < n
  all_goals
    go_enter Try.func34, Try.ntmps34
    go_wp2
    go_ret
    exact ⟨by simp [h], (Below.refl _ _).alloc (Nat.le_refl _) _⟩
/-- The class that a queue counts as. -/
def St.cls (s : St) (q : Int) : Int := if s.wt then (look s.L q).getD 0 else 0
theorem class_any (b m : Nat) (s : St) (w : World) (h : Arb w b m s) (q : Int) (hq : I64 q) : Calls Try.prog 48 #[.pointer (some ⟨b, 0, none⟩), .int .i64 q] w fun e w' => e = .returned (.int .i64 (s.cls q)) ∧ w = w' := by
  have k0 := h.cWt
  have k5 := h.cMap
  have hl := h.map.look_at hq
  clear h
  unfold St.cls
  cases hw : s.wt
  all_goals
    rw [hw] at k0
    go_enter Try.func48, Try.ntmps48
    go_wp2
    go_ret
    exact ⟨rfl, rfl⟩
end Go.Proofs.Ytildofclgofjdaa
