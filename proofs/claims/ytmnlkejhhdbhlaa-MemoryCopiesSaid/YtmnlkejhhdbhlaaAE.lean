/- The end of act. Conditions stand in each theorem. -/
import Derived.Test.YtmnlkejhhdbhlaaAC
namespace Go.Proofs.Ytmnlkejhhdbhlaa
open Go.RowKit
set_option linter.unusedVariables false
set_option maxHeartbeats 8000000
set_option maxRecDepth 100000
theorem cell_put2 {X : World} {j k o : Nat} {u v y : Value} (h : X.cell? ⟨j, o, none⟩ = some y) (hne : j ≠ k) : ((X.setCell ⟨k, 0, none⟩ u).setCell ⟨k, 1, none⟩ v).cell? ⟨j, o, none⟩ = some y := by
  rw [World.cell?_setCell_other _ _ _ _ (by simp <;> omega), World.cell?_setCell_other _ _ _ _ (by simp <;> omega)]
  exact h
theorem ac_end {W X : World} {base b d cap : Nat} {S : Nat → Prop} {m' : Mm} {B1 B2 : Option Addr} {p1 e1 p2 e2 : Nat} (hm : Mem X base b d cap m') (hr : Rf X (fun k => S k ∨ W.heap.size ≤ k ∧ k < W.heap.size + 3) B1 p1 e1 B2 p2 e2 m') (hc : Chg (fun k => k = b ∨ k = d) W X) (hlt : b < W.heap.size ∧ d < W.heap.size) (hb : S b) (hd : S d) (Y : World) (hY : Chg (fun q => q = W.heap.size + 1 + 1) X Y) :
    AcP W base b d S m' (.returned (.tuple #[.pointer (some ⟨b, 0, none⟩), .agg #[.slice B1 p1 e1, .slice B2 p2 e2], .bool true])) Y :=
  ⟨b, d, cap, B1, p1, e1, B2, p2, e2, rfl, hm.chg hY (by omega) (by omega), (hr.chg (hY.mono fun q hq => .inr (by have hq : q = W.heap.size + 1 + 1 := hq; omega))).mono fun q hq => .inl (hq.elim id fun e => e.elim (fun e => e ▸ hb) (fun e => e ▸ hd)), hc.trans hY fun q hq h => by have hq : q = W.heap.size + 1 + 1 := hq; omega, .inl ⟨rfl, rfl⟩⟩
theorem ac_new {W X : World} {base b d b' d' cap : Nat} {S : Nat → Prop} {m' : Mm} {B1 B2 : Option Addr} {p1 e1 p2 e2 : Nat} (hbase : base ≤ W.heap.size) (hm : Mem X W.heap.size b' d' cap m') (h3 : W.heap.size + 3 ≤ b' ∧ W.heap.size + 3 ≤ d') (hr : Rf X (fun k => S k ∨ W.heap.size ≤ k) B1 p1 e1 B2 p2 e2 m') (hc : Below W.heap.size W X) (Y : World) (hY : Chg (fun q => q = W.heap.size + 1 + 1) X Y) :
    AcP W base b d S m' (.returned (.tuple #[.pointer (some ⟨b', 0, none⟩), .agg #[.slice B1 p1 e1, .slice B2 p2 e2], .bool true])) Y :=
  ⟨b', d', cap, B1, p1, e1, B2, p2, e2, rfl, (hm.rebase hbase).chg hY (by omega) (by omega), (hr.chg (hY.mono fun q hq => .inr (by have hq : q = W.heap.size + 1 + 1 := hq; omega))).mono fun q hq => by
    rcases hq with h | rfl | rfl
    · exact .inl h
    · exact .inr (by omega)
    · exact .inr (by omega), (Chg.of_below hc).trans hY fun q hq h => by have hq : q = W.heap.size + 1 + 1 := hq; omega, .inr ⟨by omega, by omega⟩⟩
end Go.Proofs.Ytmnlkejhhdbhlaa
