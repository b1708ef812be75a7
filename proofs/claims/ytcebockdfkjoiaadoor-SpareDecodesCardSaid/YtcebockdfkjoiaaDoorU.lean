/- Rows of bytes of the call's own that are written; a page that is appended. Conditions stand in each theorem. -/
import Derived.Test.YtcebockdfkjoiaaDoorO
import Derived.Test.YtcebockdfkjoiaaDoorT
import Derived.RegionTactic
import Derived.BigRegion
namespace Go.Proofs.YtcebockdfkjoiaaDoor
open Go.RowKit
set_option linter.unusedVariables false
set_option maxHeartbeats 1000000
set_option maxRecDepth 100000

/-- The block g holds the bytes l, and they may be written. -/
def RowAt (w : World) (g : Nat) (l : List UInt8) : Prop := ∀ j (hj : j < l.length), w.cell? ⟨g, j, none⟩ = some (.int .u8 (l[j].toNat : Int)) ∧ w.frozen? ⟨g, j, none⟩ = false
theorem RowAt.set {w : World} {g j : Nat} {l : List UInt8} (h : RowAt w g l) (hj : j < l.length) (c : UInt8) : RowAt (w.setCell ⟨g, j, none⟩ (.int .u8 (c.toNat : Int))) g (l.set j c) := by
  intro t ht
  rw [List.length_set] at ht
  refine ⟨?_, by rw [World.frozen?_setCell]; exact (h t ht).2⟩
  by_cases e : j = t
  · subst e
    rw [List.getElem_set_self]
    apply World.cell?_setCell_same; exact (h j hj).1
  · have h1 : (w.setCell ⟨g, j, none⟩ (.int .u8 (c.toNat : Int))).cell? ⟨g, t, none⟩ = w.cell? ⟨g, t, none⟩ := by
      apply World.cell?_setCell_other
      intro e'
      injection e' with _ e'
      exact e e'
    rw [h1, List.getElem_set_ne e]
    exact (h t ht).1
theorem RowAt.other {w : World} {g g' j : Nat} {l : List UInt8} (h : RowAt w g l) (hg : g' ≠ g) (v : Value) : RowAt (w.setCell ⟨g', j, none⟩ v) g l := by
  intro t ht
  refine ⟨?_, by rw [World.frozen?_setCell]; exact (h t ht).2⟩
  have h1 : (w.setCell ⟨g', j, none⟩ v).cell? ⟨g, t, none⟩ = w.cell? ⟨g, t, none⟩ := by
    apply World.cell?_setCell_other
    intro e'
    injection e' with e' _
    exact hg e'
  rw [h1]
  exact (h t ht).1
theorem RowAt.drew {w : World} {g : Nat} {l : List UInt8} (h : RowAt w g l) : RowAt w.drew g l := fun j hj => h j hj
theorem RowAt.byt {w : World} {g c : Nat} {l : List UInt8} (h : RowAt w g l) (hg : g < w.heap.size) (hc : l.length ≤ c) : Byt w (.slice (some ⟨g, 0, none⟩) l.length c) l :=
  ⟨_, c, rfl, hc, fun _ => ⟨g, 0, rfl, hg, fun j hj => by rw [Nat.zero_add]; exact (h j hj).1⟩⟩
theorem RowAt.below {w w' : World} {g : Nat} {l : List UInt8} (h : RowAt w g l) (hg : g < w.heap.size) (hb : Below w.heap.size w w') : RowAt w' g l :=
  fun j hj => ⟨(hb.cell (p := ⟨g, j, none⟩) hg).trans (h j hj).1, (hb.frozen (p := ⟨g, j, none⟩) hg).trans (h j hj).2⟩
theorem rowAt_own {w : World} {base : Nat} {r : Value} {l : List UInt8} (h : w.ownsRow base 5 1 r l.length (bv l)) (h0 : 0 < l.length) :
    ∃ g c, r = .slice (some ⟨g, 0, none⟩) l.length c ∧ l.length ≤ c ∧ base ≤ g ∧ g < w.heap.size ∧ RowAt w g l := by
  rcases h.2 with ⟨rfl, h1⟩ | ⟨g, cap, cur, rfl, hb, hg, hnc, _, _, _⟩
  · omega
  · refine ⟨g, cap, rfl, hnc, hb, (Array.getElem?_eq_some_iff.1 hg).1, fun j hj => ⟨?_, frozen_of_row w g j cur 5 hg⟩⟩
    rw [h.cellAt j (by omega), bv_get hj]

theorem two_appends (W : World) (v r : Value) (data enc : List UInt8) (h1 : Byt W v data) (h2 : Byt W r enc) (n1 : data.length ≤ 1000) (n2 : enc.length ≤ 1000) :
    ∃ va wa vb wb, (Builtin.append_ #[26, 26] 26 #[.slice (some ⟨W.heap.size, 0, none⟩) 0 0, v]).run Tryd.prog (W.alloc (.cells #[] 5)) = .ok va wa ∧ (Builtin.append_ #[26, 26] 26 #[va, r]).run Tryd.prog wa = .ok vb wb ∧
      wb.ownsRow W.heap.size 5 1 vb (data ++ enc).length (bv (data ++ enc)) ∧ Below W.heap.size W wb := by
  have b0 := below_alloc W (.cells #[] 5)
  obtain ⟨va, wa, hr1, o1, g1, -⟩ := run_append_own_src (W.alloc (.cells #[] 5)) W.heap.size 0 (.slice (some ⟨W.heap.size, 0, none⟩) 0 0) v [] data 26 (World.ownsRow_made W #[] 0 (Nat.le_refl _) (by simp) rfl) (h1.below b0) (by omega) (by simp)
  have b1 : Below W.heap.size W wa := b0.grown g1 (by simp) (by simp [Value.ownBlock])
  rw [List.nil_append, Nat.zero_add] at o1
  obtain ⟨vb, wb, hr2, o2, g2, -⟩ := run_append_own_src wa W.heap.size data.length va r data enc 26 o1 (h2.below b1) (by omega) b1.size
  refine ⟨va, wa, vb, wb, hr1, hr2, by rw [List.length_append]; exact o2, b1.grown g2 b1.size (fun b hb => (o1.lt b hb).1)⟩
end Go.Proofs.YtcebockdfkjoiaaDoor
