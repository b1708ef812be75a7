/- Rows of entries; the chain in memory; the closure that takes a record. Conditions stand in each theorem. -/
import Derived.Test.YtajlddgemkkcdaaGreatT
import Derived.Test.YtajlddgemkkcdaaGreatUE
namespace Go.Proofs.YtajlddgemkkcdaaGreat
open Go.RowKit
set_option linter.unusedVariables false
set_option maxHeartbeats 4000000
set_option maxRecDepth 100000
attribute [local go_sem ↓ 100000] builtin_appX
/-- The chain's cells: its entries, the last number, the places used; rows from base on. -/
structure ChS (W : World) (cb base : Nat) (en : List (Int × Int)) (la : Int) (us : List Nat) (ve vu : Value) : Prop where
  blk : W.heap[cb]? = some (.cells #[ve, .int .u64 la, vu] 43 (0, 0))
  ve : W.ownsRow base 37 2 ve en.length (en2 en)
  vu : W.ownsRow base 3 1 vu us.length (iv us)
/-- Below base only block cb has changed. -/
structure Kb (W W' : World) (cb base : Nat) : Prop where
  os : W'.os = W.os
  tape : W'.tape = W.tape
  output : W'.output = W.output
  size : W.heap.size ≤ W'.heap.size
  block : ∀ k, k < base → k ≠ cb → W'.heap[k]? = W.heap[k]?
theorem Kb.refl (W : World) (cb base : Nat) : Kb W W cb base := ⟨rfl, rfl, rfl, Nat.le_refl _, fun _ _ _ => rfl⟩
theorem Kb.trans {a b c : World} {cb base : Nat} (h : Kb a b cb base) (k : Kb b c cb base) : Kb a c cb base :=
  ⟨k.os.trans h.os, k.tape.trans h.tape, k.output.trans h.output, Nat.le_trans h.size k.size, fun i hi hn => (k.block i hi hn).trans (h.block i hi hn)⟩
theorem Kb.of_below {a b : World} {cb base : Nat} (h : Below a.heap.size a b) (hb : base ≤ a.heap.size) : Kb a b cb base := ⟨h.os, h.tape, h.output, h.size, fun k hk _ => h.block k (by omega)⟩
theorem Kb.of_grown {a b : World} {cb base : Nat} {row : Option Nat} (h : a.grownBy b row) (hb : base ≤ a.heap.size) (hr : ∀ k, row = some k → base ≤ k ∨ k = cb) : Kb a b cb base :=
  ⟨h.os, h.tape, h.output, h.size, fun k hk hn => h.block k (by omega) (fun e => by rcases hr k e.symm with h1 | h1; omega; exact hn h1)⟩
theorem Kb.cell {a b : World} {cb base : Nat} (h : Kb a b cb base) {g o : Nat} {v : Value} (hg : g < base) (hn : g ≠ cb) (hc : a.cell? ⟨g, o, none⟩ = some v) : b.cell? ⟨g, o, none⟩ = some v :=
  (World.cell?_of_block (w := a) (h.block g hg hn)).trans hc
theorem Kb.setCell {a b : World} {cb base : Nat} (h : Kb a b cb base) (o : Nat) (v : Value) : Kb a (b.setCell ⟨cb, o, none⟩ v) cb base :=
  ⟨h.os, h.tape, h.output, by rw [World.size_setCell]; exact h.size, fun k hk hn => (heap_setCell_other b ⟨cb, o, none⟩ k v hn).trans (h.block k hk hn)⟩
/-- Places are appended. -/
theorem app_pls {W : World} {base : Nat} {v : Value} {us ps : List Nat} {A : Option Addr} {c : Nat} (hown : W.ownsRow base 3 1 v us.length (iv us)) (hx : Pls W (.slice A ps.length c) ps) (hn : us.length + ps.length ≤ 100000000) (hbase : base ≤ W.heap.size) :
    ∃ B d W', (appX #[41, 41] 41 #[v, .slice A ps.length c]).run Tryz.prog W = .ok (.value (.slice B (us.length + ps.length) d)) W' ∧ W'.ownsRow base 3 1 (.slice B (us.length + ps.length) d) (us ++ ps).length (iv (us ++ ps)) ∧ W.grownBy W' v.ownBlock := by
  obtain ⟨i0, hi0, hz0, hz1, hz2⟩ := info_parts8 info3
  obtain ⟨B, d, W', h1, h2, h3, _⟩ := app_src (m := ps.length) (n := us.length) (A := A) (c := c) (news := iv ps) (v := v) (xs := iv us) (W := W) (base := base) Tryz.underlying41 hi0 hz0 hz1 hz2 rfl (by decide) hown (fun h => by rw [List.eq_nil_of_length_eq_zero h]; rfl) (fun h => by
    obtain ⟨g, c', he, _, _, hc⟩ := hx.at_ (k := 0) (by omega)
    injection he with e1 _ _
    subst e1
    refine ⟨_, rfl, fun j u hu => ?_⟩
    have hj : j < ps.length := by rw [← iv_length]; exact (List.getElem?_eq_some_iff.1 hu).1
    rw [add_plain, Nat.zero_add, hc j hj, ← iv_get hj, hu]) (by rw [iv_length]; omega) (iv_one ps) (by unfold maxLen; omega) (by omega) hbase
  exact ⟨B, d, W', h1, by rw [List.length_append, iv_append]; exact h2, h3⟩
end Go.Proofs.YtajlddgemkkcdaaGreat
