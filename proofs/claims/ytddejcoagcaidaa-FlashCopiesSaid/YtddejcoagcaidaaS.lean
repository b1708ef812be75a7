/- The contracts of the closures of erase, of erase and Erase. Conditions stand in each theorem. -/
import Derived.Test.YtddejcoagcaidaaR
namespace Go.Proofs.Ytddejcoagcaidaa
open Go.RowKit
set_option linter.unusedVariables false
set_option maxHeartbeats 2000000
set_option maxRecDepth 100000
theorem own_base {w : World} {base base' e sz n : Nat} {v : Value} {xs : List Value} (h : w.ownsRow base e sz v n xs) (hb : base' ≤ base) : w.ownsRow base' e sz v n xs := by
  refine ⟨h.1, ?_⟩
  rcases h.2 with h0 | ⟨g, cap, cur, e0, h1, r⟩
  · exact .inl h0
  · exact .inr ⟨g, cap, cur, e0, Nat.le_trans hb h1, r⟩
/-- The contents that erasing gives a block: undefined, erased. -/
def Dev.eU (s : Dev) (i : Nat) : Bk := ⟨(s.bk i).er, List.replicate s.np ⟨5, [], []⟩⟩
def Dev.eN (s : Dev) (i : Nat) : Bk := ⟨(s.bk i).er, []⟩
/-- The boxes that erase's closures read. -/
structure Ex (w : World) (b g i q1 q2 q3 : Nat) : Prop where
  e1 : w.heap[q1]? = some (.cells #[.pointer (some ⟨b, 0, none⟩)] 29 (0, 0))
  e2 : w.heap[q2]? = some (.cells #[.pointer (some ⟨g, i * 2, none⟩)] 103 (0, 0))
  e3 : w.heap[q3]? = some (.cells #[.func (.func 66) #[] #[.pointer (some ⟨q1, 0, none⟩), .pointer (some ⟨q2, 0, none⟩)]] 1 (0, 0))
theorem Ex.below {w W : World} {b g i q1 q2 q3 : Nat} (h : Ex w b g i q1 q2 q3) (hW : Below w.heap.size w W) : Ex W b g i q1 q2 q3 := by
  have e : ∀ {k : Nat} {o : Obj}, w.heap[k]? = some o → W.heap[k]? = some o := fun {k o} hk => (hW.block k (Array.getElem?_eq_some_iff.1 hk).1).trans hk
  exact ⟨e h.e1, e h.e2, e h.e3⟩
theorem Ex.chg {w W : World} {b g i q1 q2 q3 : Nat} (h : Ex w b g i q1 q2 q3) (hW : Chg (· = b) w W) (n1 : q1 ≠ b) (n2 : q2 ≠ b) (n3 : q3 ≠ b) : Ex W b g i q1 q2 q3 := by
  have e : ∀ {k : Nat} {o : Obj}, k ≠ b → w.heap[k]? = some o → W.heap[k]? = some o := fun {k o} hn hk => (hW.block k (Array.getElem?_eq_some_iff.1 hk).1 hn).trans hk
  exact ⟨e n1 h.e1, e n2 h.e2, e n3 h.e3⟩
theorem Ex.cells {w : World} {b g i q1 q2 q3 : Nat} (h : Ex w b g i q1 q2 q3) :
    w.cell? ⟨q1, 0, none⟩ = some (.pointer (some ⟨b, 0, none⟩)) ∧ w.cell? ⟨q2, 0, none⟩ = some (.pointer (some ⟨g, i * 2, none⟩)) ∧ w.cell? ⟨q3, 0, none⟩ = some (.func (.func 66) #[] #[.pointer (some ⟨q1, 0, none⟩), .pointer (some ⟨q2, 0, none⟩)]) :=
  ⟨cell_of_row w q1 0 _ 29 (0, 0) h.e1, cell_of_row w q2 0 _ 103 (0, 0) h.e2, cell_of_row w q3 0 _ 1 (0, 0) h.e3⟩
section
variable {w : World} {base b g m : Nat} {V : Nat → Value} {s : Dev}
theorem er3_any (h : Dv w base b g m V s) (hG : Gd s) {i : Nat} (hi : i < s.nb) {q1 q2 q3 : Nat} (hE : Ex w b g i q1 q2 q3) : Calls Try.prog 70 #[.pointer (some ⟨q2, 0, none⟩)] w (StepAny w base b g m V s (s.put i (s.eN i))) := by
  obtain ⟨_, c2, _⟩ := hE.cells
  obtain ⟨_, c4⟩ := h.gcells hi
  have f4 := h.gfree (i * 2 + 1)
  obtain ⟨A0, k0, hV⟩ := h.form hi
  rw [hV] at c4
  have HST := Lib.hid (h.repage hi (v := .slice none 0 0) (ps := []) (xs := []) (World.ownsRow_nil w base 91 3) trivial (Chg.refl _ w) (fun k hk => by cases hk))
  clear h hG hE hV
  go_enter Try.func70, Try.ntmps70
  go_wp2
  go_end0
  exact ⟨⟨_, rfl⟩, HST.out⟩
theorem gtake (h : Dv w base b g m V s) {i : Nat} (hi : i < s.nb) : ∃ A0 k0, V i = .slice A0 (s.bk i).pg.length k0 ∧ w.cell? ⟨g, i * 2 + 1, none⟩ = some (.slice A0 (s.bk i).pg.length k0) ∧ w.frozen? ⟨g, i * 2 + 1, none⟩ = false := by
  obtain ⟨A0, k0, hV⟩ := h.form hi
  have c := (h.gcells hi).2
  rw [hV] at c
  exact ⟨A0, k0, hV, c, h.gfree _⟩
theorem er1_any (h : Dv w base b g m V s) (hG : Gd s) {i : Nat} (hi : i < s.nb) {q1 q2 q3 : Nat} (hE : Ex w b g i q1 q2 q3) : Calls Try.prog 66 #[.pointer (some ⟨q1, 0, none⟩), .pointer (some ⟨q2, 0, none⟩)] w (StepAny w base b g m V s (s.put i (s.eU i))) := by
  have hnp := hG.np
  have HD := Lib.hid h
  have HE := Lib.hid hE
  obtain ⟨A0, k0, hV, _⟩ := gtake h hi
  have HV := Lib.hid hV
  have HR := Lib.hid (fun B W (hB : W.heap[B]? = some (.cells #[.slice none 0 0, .slice none 0 0, .int .i64 5] 91 (0, 0))) => Repeat_any B s.np 5 W hB (by omega) hnp.2)
  have HC : Hid (∀ W, Below w.heap.size w W → (W.cell? ⟨q1, 0, none⟩ = some (.pointer (some ⟨b, 0, none⟩)) ∧ W.cell? ⟨q2, 0, none⟩ = some (.pointer (some ⟨g, i * 2, none⟩)) ∧ W.cell? ⟨b, 1, none⟩ = some (.int .i64 (s.np : Int))) ∧ W.cell? ⟨g, i * 2 + 1, none⟩ = some (.slice A0 (s.bk i).pg.length k0) ∧ W.frozen? ⟨g, i * 2 + 1, none⟩ = false) := Lib.hid fun W hW => by
    obtain ⟨a1, a2, _⟩ := (HE.out.below hW).cells
    have hd := HD.out.below hW
    have a4 := (hd.gcells hi).2
    rw [HV.out] at a4
    exact ⟨⟨a1, a2, hd.c1⟩, a4, hd.gfree _⟩
  have HK : Hid (∀ W, Below w.heap.size w W → ∀ v, (W.setCell ⟨g, i * 2 + 1, none⟩ v).cell? ⟨q1, 0, none⟩ = some (.pointer (some ⟨b, 0, none⟩)) ∧ (W.setCell ⟨g, i * 2 + 1, none⟩ v).cell? ⟨q2, 0, none⟩ = some (.pointer (some ⟨g, i * 2, none⟩)) ∧ (W.setCell ⟨g, i * 2 + 1, none⟩ v).cell? ⟨b, 1, none⟩ = some (.int .i64 (s.np : Int))) := Lib.hid fun W hW v => by
    obtain ⟨⟨a1, a2, a3⟩, _⟩ := HC.out W hW
    obtain ⟨G, hG2, _⟩ := HD.out.grid
    have e : ∀ {k o : Nat}, k ≠ g → (W.setCell ⟨g, i * 2 + 1, none⟩ v).cell? ⟨k, o, none⟩ = W.cell? ⟨k, o, none⟩ := fun hk => by
      apply World.cell?_setCell_other
      intro e'
      injection e' with e' _
      exact hk e'.symm
    have n1 : q1 ≠ g := by
      rintro rfl
      exact absurd (ty_ne hG2 HE.out.e1) (by decide)
    have n2 : q2 ≠ g := by
      rintro rfl
      exact absurd (ty_ne hG2 HE.out.e2) (by decide)
    exact ⟨(e n1).trans a1, (e n2).trans a2, (e (fun h => HD.out.ne_gb h.symm)).trans a3⟩
  have HF : Hid (∀ W, Below w.heap.size w W → ∀ w' p, w'.ownsRow W.heap.size 91 3 (.slice (some ⟨p, 0, none⟩) s.np s.np) s.np (rep 5 s.np) → Below W.heap.size W w' → Step w base b g m V s (s.put i (s.eU i)) (w'.setCell ⟨g, i * 2 + 1, none⟩ (.slice (some ⟨p, 0, none⟩) s.np s.np))) := Lib.hid fun W hW w' p ho hb => by
    have hbs : base ≤ w.heap.size := by have := HD.out.hg; have := HD.out.glt; omega
    refine HD.out.repage hi (ps := List.replicate s.np ⟨5, [], []⟩) (xs := rep 5 s.np) (by rw [List.length_replicate]; exact own_base ho (Nat.le_trans hbs hW.size)) (rep_rows w' 5 s.np) (Chg.of_below (hW.trans (hb.mono hW.size))) (fun k hk => .inr (Nat.le_trans hW.size (ho.lt k hk).1))
  have HRR := Lib.hid (HR.out w.heap.size (w.alloc (.cells #[.slice none 0 0, .slice none 0 0, .int .i64 5] 91)).drew (heap_alloc_new w (.cells #[.slice none 0 0, .slice none 0 0, .int .i64 5] 91)))
  have HB0 := Lib.hid (Below.refl w.heap.size w)
  clear h hG hE hV
  go_enter Try.func66, Try.ntmps66
  go_wp2
  go_region_held3 (fun W => W.cell? ⟨q1, 0, none⟩ = some (.pointer (some ⟨b, 0, none⟩)) ∧ W.cell? ⟨q2, 0, none⟩ = some (.pointer (some ⟨g, i * 2, none⟩)) ∧ W.cell? ⟨b, 1, none⟩ = some (.int .i64 (s.np : Int))) (first
      | exact (HC.out _ (Below.refl _ _)).1
      | exact (HC.out _ (Below.refl _ _).drew).1
      | exact (HC.out _ (below_alloc _ _)).1
      | exact (HC.out _ (below_alloc _ _).drew).1
      | exact (HC.out _ (HB0.out.drew.alloc (Nat.le_refl _) _)).1
      | exact (HC.out _ HB1.out).1
      | exact HSC.out _)
    (first
      | ((go_at_call 67; with_reducible refine HRR.out.mono ?_); rintro e w1 ⟨p, rfl, ho, hb⟩; have HO := Lib.hid ho; have HB := Lib.hid hb; have HB1 : Hid (Below w.heap.size w w1) := Lib.hid ((below_alloc w _).drew.trans (hb.mono (by simp))); have HSC := Lib.hid (fun v => (HK.out w1 HB1.out v)); obtain ⟨_, s4, s5⟩ := HC.out w1 HB1.out; clear ho hb))
  all_goals
    go_end0
    exact ⟨⟨_, rfl⟩, HF.out _ (below_alloc w _).drew w1 p HO.out HB.out⟩
end
end Go.Proofs.Ytddejcoagcaidaa
