/- The state of the laws' plays. Conditions stand in each theorem. -/
import Derived.Test.YtmnlkejhhdbhlaaAA
import Derived.Test.YtmnlkejhhdbhlaaIS
namespace Go.Proofs.Ytmnlkejhhdbhlaa
open Go.RowKit
set_option linter.unusedVariables false
set_option maxHeartbeats 8000000
set_option maxRecDepth 100000
/-- A memory and the box of its reference agree; what was in w0 is as it was. -/
def Pl (w0 : World) (q k b : Nat) (X : World) : Prop :=
  ∃ d cap m B1 p1 e1 B2 p2 e2, Mem X w0.heap.size b d cap m ∧ Gm m ∧ m.L.length ≤ k ∧ Rf X (fun j => j = b ∨ j = d ∨ j = q) B1 p1 e1 B2 p2 e2 m ∧ X.heap[q]? = some (.cells #[.slice B1 p1 e1, .slice B2 p2 e2] 32 (0, 0)) ∧ w0.heap.size ≤ q ∧ Below w0.heap.size w0 X
/-- The same behind act: what it gave lies in a box of its own. -/
def Pm (w0 : World) (q q2 k b : Nat) (B1 : Option Addr) (p1 e1 : Nat) (B2 : Option Addr) (p2 e2 : Nat) (X : World) : Prop :=
  ∃ d cap m u0 u1, Mem X w0.heap.size b d cap m ∧ Gm m ∧ m.L.length ≤ k ∧ Rf X (fun j => j = b ∨ j = d ∨ j = q) B1 p1 e1 B2 p2 e2 m ∧ X.heap[q]? = some (.cells #[u0, u1] 32 (0, 0)) ∧ X.heap[q2]? = some (.cells #[.slice B1 p1 e1, .slice B2 p2 e2] 32 (0, 0)) ∧ w0.heap.size ≤ q ∧ Below w0.heap.size w0 X
theorem cell_alloc {X : World} {p : Addr} {y : Value} {o : Obj} (h : X.cell? p = some y) : (X.alloc o).cell? p = some y := ((below_alloc X o).cell (World.block_lt_of_cell? X _ h)).trans h
theorem Mem.neT {w : World} {base b d cap : Nat} {m : Mm} (h : Mem w base b d cap m) {q : Nat} {cs : Array Value} {f : Nat × Nat} (hq : w.heap[q]? = some (.cells cs 32 f)) : q ≠ b ∧ q ≠ d := by
  obtain ⟨c, e1, -⟩ := h.blk
  obtain ⟨-, -, cur, e2, -⟩ := h.row
  constructor
  · rintro rfl
    rw [hq] at e1
    injection e1 with e1
    injection e1 with _ e1
    cases e1
  · rintro rfl
    rw [hq] at e2
    injection e2 with e2
    injection e2 with _ e2
    cases e2
section
variable {w0 X Y w' : World} {base b d cap q q2 k : Nat} {m : Mm} {B1 B2 : Option Addr} {p1 e1 p2 e2 : Nat}
theorem Pl.below (h : Pl w0 q k b X) (hb : Below X.heap.size X Y) : Pl w0 q k b Y := by
  obtain ⟨d, cap, m, B1, p1, e1, B2, p2, e2, h1, h2, h3, h4, h5, h6, h7⟩ := h
  exact ⟨d, cap, m, B1, p1, e1, B2, p2, e2, h1.below hb, h2, h3, h4.below hb, (hb.block _ (Array.getElem?_eq_some_iff.1 h5).1).trans h5, h6, h7.trans (hb.mono h7.size)⟩
theorem Pl.more {k' : Nat} (h : Pl w0 q k b X) (hk : k ≤ k') : Pl w0 q k' b X := by
  obtain ⟨d, cap, m, B1, p1, e1, B2, p2, e2, h1, h2, h3, h4⟩ := h
  exact ⟨d, cap, m, B1, p1, e1, B2, p2, e2, h1, h2, by omega, h4⟩
theorem Pm.next (h : Pm w0 q q2 k b B1 p1 e1 B2 p2 e2 X) : Pl w0 q k b ((X.setCell ⟨q, 0, none⟩ (.slice B1 p1 e1)).setCell ⟨q, 1, none⟩ (.slice B2 p2 e2)) := by
  obtain ⟨d, cap, m, u0, u1, h1, h2, h3, h4, h5, h6, h7, h8⟩ := h
  have hne := h1.neT h5
  have hc : Chg (fun j => j = q) X ((X.setCell ⟨q, 0, none⟩ (.slice B1 p1 e1)).setCell ⟨q, 1, none⟩ (.slice B2 p2 e2)) := put2 (S := fun j => j = q) (Chg.refl _ _) rfl _ _
  exact ⟨d, cap, m, B1, p1, e1, B2, p2, e2, h1.chg hc (fun e => hne.1 e.symm) (fun e => hne.2 e.symm), h2, h3, h4.chg (hc.mono fun j hj => .inr (.inr hj)), set2 _ _ _ _ _ _ _ h5, h7, h8.trans (hc.below h8.size fun j hj => by have hj : j = q := hj; omega)⟩
theorem Pm.is (h : Pm w0 q q2 k b B1 p1 e1 B2 p2 e2 X) (many : Int) (Y : World) (hY : Below X.heap.size ((X.setCell ⟨q, 0, none⟩ (.slice B1 p1 e1)).setCell ⟨q, 1, none⟩ (.slice B2 p2 e2)) Y) : Calls Try.prog 15 #[.pointer (some ⟨b, 0, none⟩), .agg #[.slice B1 p1 e1, .slice B2 p2 e2], .int .i64 many] Y (OkB Y) := by
  obtain ⟨d, cap, m, u0, u1, h1, h2, h3, h4, h5, h6, h7, h8⟩ := h
  have hne := h1.neT h5
  have hc : Chg (fun j => j = q) X ((X.setCell ⟨q, 0, none⟩ (.slice B1 p1 e1)).setCell ⟨q, 1, none⟩ (.slice B2 p2 e2)) := put2 (S := fun j => j = q) (Chg.refl _ _) rfl _ _
  have hs : ((X.setCell ⟨q, 0, none⟩ (.slice B1 p1 e1)).setCell ⟨q, 1, none⟩ (.slice B2 p2 e2)).heap.size = X.heap.size := by simp
  exact is_any ((h1.chg hc (fun e => hne.1 e.symm) (fun e => hne.2 e.symm)).below (hs ▸ hY)) h2 ((h4.chg (hc.mono fun j hj => .inr (.inr hj))).below (hs ▸ hY)) many
/-- The blocks that act may not find the reference in. -/
abbrev Sx (wr : World) (q b d : Nat) (X : World) : Nat → Prop := fun j => (j = b ∨ j = d ∨ j = q) ∨ wr.heap.size ≤ j ∧ j < X.heap.size
theorem play_act (hm : Mem X w0.heap.size b d cap m) (hG : Gm m) (hcnt : m.L.length ≤ 1000) (hr : Rf X (fun j => j = b ∨ j = d ∨ j = q) B1 p1 e1 B2 p2 e2 m) (hq : X.heap[q]? = some (.cells #[.slice B1 p1 e1, .slice B2 p2 e2] 32 (0, 0))) (hb : Below w0.heap.size w0 X) (e : KA) (hok : KA.ok w0 e) (hl : e.l.length ≤ 5000) (Y : World) (hY : Below X.heap.size X Y) :
    Calls Try.prog 14 #[.pointer (some ⟨b, 0, none⟩), .agg #[.slice B1 p1 e1, .slice B2 p2 e2], .agg e.cells] Y (AcP Y w0.heap.size b d (Sx X q b d Y) (nx m e)) := by
  have hqlt := (Array.getElem?_eq_some_iff.1 hq).1
  have hs := hY.size
  have h1 := hm.lt
  have h2 := hm.dlt
  refine act_any (hm.below hY) hG hcnt ((hr.or (hr.newer (T := fun j => X.heap.size ≤ j ∧ j < Y.heap.size) fun j hj => hj.1)).below hY) (.inl (.inl rfl)) (.inl (.inr (.inl rfl))) (fun j hj => ?_) e ⟨(hok.1.below hb).below hY, hok.2⟩ hl ?_ (Nat.le_trans hb.size hs)
  · rcases hj with (rfl | rfl | rfl) | hj <;> omega
  · exact hok.1.off fun j hj => by
      have h3 := hm.hb
      have h4 := hm.row.1
      rcases hj with rfl | rfl <;> omega
/-- Behind act: first the call, then the box. -/
theorem pm_a {b' d' cap' : Nat} {m' : Mm} {C1 C2 : Option Addr} {f1 g1 f2 g2 : Nat} (hm : Mem X w0.heap.size b d cap m) (hq : X.heap[q]? = some (.cells #[.slice B1 p1 e1, .slice B2 p2 e2] 32 (0, 0))) (hb : Below w0.heap.size w0 X) (hq0 : w0.heap.size ≤ q) (hG : Gm m') (hk : m'.L.length ≤ k)
    (hY : Below X.heap.size X Y) (hm' : Mem w' w0.heap.size b' d' cap' m') (hr' : Rf w' (fun j => Sx X q b d Y j ∨ j = b' ∨ j = d') C1 f1 g1 C2 f2 g2 m') (hc : Chg (fun j => j = b ∨ j = d) Y w') :
    Pm w0 q w'.heap.size k b' C1 f1 g1 C2 f2 g2 (w'.alloc (.cells #[.slice C1 f1 g1, .slice C2 f2 g2] 32)) := by
  have hqlt := (Array.getElem?_eq_some_iff.1 hq).1
  have hqY := (hY.block _ hqlt).trans hq
  have hqw := (hm.below hY).keepTy hc hqY (by decide) (by decide)
  have hbt := below_alloc w' (.cells #[.slice C1 f1 g1, .slice C2 f2 g2] 32)
  have h3 := hm.hb
  have h4 := hm.row.1
  have hbY : Below w0.heap.size w0 Y := hb.trans (hY.mono hb.size)
  have hbw : Below w0.heap.size w0 w' := hbY.trans (hc.below hbY.size fun j hj => by rcases hj with rfl | rfl <;> omega)
  exact ⟨d', cap', m', _, _, hm'.below hbt, hG, hk, (hr'.mono fun j hj => by
    rcases hj with rfl | rfl | rfl
    · exact .inr (.inl rfl)
    · exact .inr (.inr rfl)
    · exact .inl (.inl (.inr (.inr rfl)))).below hbt, (hbt.block _ (Array.getElem?_eq_some_iff.1 hqw).1).trans hqw, heap_alloc_new w' _, hq0, hbw.trans (hbt.mono hbw.size)⟩
/-- Behind act: first the box, then the call. -/
theorem pm_b {b' d' cap' : Nat} {m' : Mm} {C1 C2 : Option Addr} {f1 g1 f2 g2 : Nat} (hm : Mem X w0.heap.size b d cap m) (hq : X.heap[q]? = some (.cells #[.slice B1 p1 e1, .slice B2 p2 e2] 32 (0, 0))) (hb : Below w0.heap.size w0 X) (hq0 : w0.heap.size ≤ q) (hG : Gm m') (hk : m'.L.length ≤ k)
    (hY : Y = (X.alloc (.cells #[.slice none 0 0, .slice none 0 0] 32)).drew) (hm' : Mem w' w0.heap.size b' d' cap' m') (hr' : Rf w' (fun j => Sx X q b d Y j ∨ j = b' ∨ j = d') C1 f1 g1 C2 f2 g2 m') (hc : Chg (fun j => j = b ∨ j = d) Y w') :
    w'.heap[X.heap.size]? = some (.cells #[.slice none 0 0, .slice none 0 0] 32 (0, 0)) ∧ Pm w0 q X.heap.size k b' C1 f1 g1 C2 f2 g2 ((w'.setCell ⟨X.heap.size, 0, none⟩ (.slice C1 f1 g1)).setCell ⟨X.heap.size, 1, none⟩ (.slice C2 f2 g2)) := by
  have hqlt := (Array.getElem?_eq_some_iff.1 hq).1
  have hbY1 : Below X.heap.size X Y := by subst hY; exact (below_alloc _ _).drew
  have hYs : Y.heap.size = X.heap.size + 1 := by subst hY; exact World.size_alloc _ _
  have hYn : Y.heap[X.heap.size]? = some (.cells #[.slice none 0 0, .slice none 0 0] 32 (0, 0)) := by subst hY; exact heap_alloc_new X _
  have hqY := (hbY1.block _ hqlt).trans hq
  have hmY := hm.below hbY1
  have hqw := hmY.keepTy hc hqY (by decide) (by decide)
  have hnw := hmY.keepTy hc hYn (by decide) (by decide)
  have h3 := hm.hb
  have h4 := hm.row.1
  have hbY : Below w0.heap.size w0 Y := hb.trans (hbY1.mono hb.size)
  have hbw : Below w0.heap.size w0 w' := hbY.trans (hc.below hbY.size fun j hj => by rcases hj with rfl | rfl <;> omega)
  have hcp : Chg (fun j => j = X.heap.size) w' ((w'.setCell ⟨X.heap.size, 0, none⟩ (.slice C1 f1 g1)).setCell ⟨X.heap.size, 1, none⟩ (.slice C2 f2 g2)) := put2 (S := fun j => j = X.heap.size) (Chg.refl _ _) rfl _ _
  have hne := hm'.neT hnw
  have hs := hb.size
  refine ⟨hnw, d', cap', m', _, _, hm'.chg hcp (fun e => hne.1 e.symm) (fun e => hne.2 e.symm), hG, hk, (hr'.chg (hcp.mono fun j hj => .inl (.inr (by have hj : j = X.heap.size := hj; omega)))).mono fun j hj => ?_, (hcp.block _ (Array.getElem?_eq_some_iff.1 hqw).1 (fun e => by have e : q = X.heap.size := e; omega)).trans hqw, set2 _ _ _ _ _ _ _ hnw, hq0, hbw.trans (hcp.below hbw.size fun j hj => by have hj : j = X.heap.size := hj; omega)⟩
  rcases hj with rfl | rfl | rfl
  · exact .inr (.inl rfl)
  · exact .inr (.inr rfl)
  · exact .inl (.inl (.inr (.inr rfl)))
end
end Go.Proofs.Ytmnlkejhhdbhlaa
