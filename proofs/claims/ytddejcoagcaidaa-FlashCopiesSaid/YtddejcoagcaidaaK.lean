/- The contracts of the other closures of program: a page fails, is programmed. Conditions stand in each theorem. -/
import Derived.Test.YtddejcoagcaidaaJ
namespace Go.Proofs.Ytddejcoagcaidaa
open Go.RowKit
set_option linter.unusedVariables false
set_option maxHeartbeats 4000000
set_option maxRecDepth 100000
theorem prog3_any {w : World} {base b g m : Nat} {V : Nat → Value} {s : Dev} (h : Dv w base b g m V s) (hG : Gd s) {i : Nat} (hi : i < s.nb) {q q1 q2 q3 : Nat} {vd vs : Value} {x y : List UInt8}
    (hB : Bx w g i q q1 q2 q3 vd vs x y) :
    Calls Try.prog 74 #[.pointer (some ⟨q1, 0, none⟩)] w (StepAny w base b g m V s (s.put i ⟨(s.bk i).er, (s.bk i).pg ++ [⟨4, [], []⟩]⟩)) := by
  obtain ⟨c1, c2, c3⟩ := hB.cells
  have HA := Lib.hid (add_any h hG hi q hB.bq ⟨4, [], []⟩ (BytT.nil w) (BytT.nil w))
  clear h hG hB
  go_enter Try.func74, Try.ntmps74
  go_wp2_with ((go_at_call 71; with_reducible refine HA.out.mono ?_); rintro e w2 ⟨⟨v, rfl⟩, hstep⟩; have HS := Lib.hid hstep; clear hstep)
  go_end0
  exact ⟨⟨_, rfl⟩, HS.out⟩
theorem Dv.off_ty {w : World} {base b g m : Nat} {V : Nat → Value} {s : Dev} (h : Dv w base b g m V s) {k : Nat} {cs : Array Value} {t : TypeId} {fr : Nat × Nat} (hk : w.heap[k]? = some (.cells cs t fr)) (h1 : t ≠ 64) (h2 : t ≠ 94) (h3 : t ≠ 91) : ¬ Foot s b g m V k := by
  rintro (rfl | rfl | rfl | ⟨i, hi, hv⟩)
  · exact h1 (ty_ne hk h.blk)
  · obtain ⟨G, hG, _⟩ := h.grid
    exact h2 (ty_ne hk hG)
  · obtain ⟨es, c, hm⟩ := h.flt.isMap
    rw [hk] at hm
    cases hm
  · obtain ⟨cs', hc⟩ := h.rowAt hi hv
    exact h3 (ty_ne hk hc)
theorem Bx.after {w w2 : World} {base b g m : Nat} {V : Nat → Value} {s s' : Dev} {i q q1 q2 q3 : Nat} {vd vs : Value} {x y : List UInt8} (hB : Bx w g i q q1 q2 q3 vd vs x y) (h : Dv w base b g m V s) (hs : Step w base b g m V s s' w2) :
    w2.cell? ⟨q1, 0, none⟩ = some (.func (.func 71) #[] #[.pointer (some ⟨q, 0, none⟩)]) ∧ w2.cell? ⟨q2, 0, none⟩ = some vd ∧ w2.cell? ⟨q3, 0, none⟩ = some vs := by
  obtain ⟨V', h1, h2, _⟩ := hs
  have e : ∀ {k : Nat} {cs : Array Value} {t : TypeId} {fr : Nat × Nat}, w.heap[k]? = some (.cells cs t fr) → t ≠ 64 → t ≠ 94 → t ≠ 91 → w2.heap[k]? = some (.cells cs t fr) := fun hk a1 a2 a3 => (h2.block _ (Array.getElem?_eq_some_iff.1 hk).1 (h.off_ty hk a1 a2 a3)).trans hk
  exact ⟨cell_of_row w2 q1 0 _ 117 (0, 0) (e hB.b1 (by decide) (by decide) (by decide)), cell_of_row w2 q2 0 _ 41 (0, 0) (e hB.b2 (by decide) (by decide) (by decide)), cell_of_row w2 q3 0 _ 41 (0, 0) (e hB.b3 (by decide) (by decide) (by decide))⟩
theorem prog4_any {w : World} {base b g m : Nat} {V : Nat → Value} {s : Dev} (h : Dv w base b g m V s) (hG : Gd s) {i : Nat} (hi : i < s.nb) {q q1 q2 q3 : Nat} {vd vs : Value} {x y : List UInt8}
    (hB : Bx w g i q q1 q2 q3 vd vs x y) (hx : x.length ≤ 100000) (hy : y.length ≤ 100000) (h00 : 0 < (x ++ y).length) :
    Calls Try.prog 75 #[.pointer (some ⟨q1, 0, none⟩), .pointer (some ⟨q2, 0, none⟩), .pointer (some ⟨q3, 0, none⟩)] w (StepAny w base b g m V s (s.put i ⟨(s.bk i).er, (s.bk i).pg ++ [wr x y (x.length + y.length)]⟩)) := by
  obtain ⟨c1, c2, c3⟩ := hB.cells
  have HW : Hid (∀ W, Below w.heap.size w W → Calls Try.prog 73 #[vd, vs, .int .i64 ((x.length : Int) + (y.length : Int))] W (PagePost s.lo W (wr x y (x.length + y.length)))) := Lib.hid fun W hW => by
    have := written_any vd vs x y (x.length + y.length) W (Nat.le_trans h.lowle hW.size) (hB.bd.below hW) (hB.bs.below hW) hx hy h00
    rwa [Int.natCast_add] at this
  have HA : Hid (∀ W, Below w.heap.size w W → ∀ A1 n1 k1 A2 n2 k2, BytT s.lo W (.slice A1 n1 k1) (wr x y (x.length + y.length)).d → BytT s.lo W (.slice A2 n2 k2) (wr x y (x.length + y.length)).s → Calls Try.prog 71 #[.agg #[.slice A1 n1 k1, .slice A2 n2 k2, .int .i64 (wr x y (x.length + y.length)).st], .pointer (some ⟨q, 0, none⟩)] W (StepAny w base b g m V s (s.put i ⟨(s.bk i).er, (s.bk i).pg ++ [wr x y (x.length + y.length)]⟩))) :=
    Lib.hid fun W hW A1 n1 k1 A2 n2 k2 p1 p2 => (add_any (h.below hW) hG hi q (hB.below hW).bq (wr x y (x.length + y.length)) p1 p2).mono fun e w' ⟨e1, e2⟩ => ⟨e1, e2.of_below hW⟩
  have HB := Lib.hid hB
  have HD0 := Lib.hid (Below.refl w.heap.size w)
  obtain ⟨A0, k0, e0, _⟩ := hB.bd
  obtain ⟨A1, k1, e1, _⟩ := hB.bs
  subst e0
  subst e1
  have hx2 : (x.length : Int) ≤ 100000 := by omega
  have hy2 : (y.length : Int) ≤ 100000 := by omega
  have hx0 : (0 : Int) ≤ x.length := by omega
  have hy0 : (0 : Int) ≤ y.length := by omega
  have HDV := Lib.hid h
  clear h hG hB hx hy h00
  generalize wr x y (x.length + y.length) = p at *
  have hw : IntKind.i64.wrap ((x.length : Int) + (y.length : Int)) = (x.length : Int) + (y.length : Int) := IntWalk.i64_in _ (by omega)
  go_enter Try.func75, Try.ntmps75
  go_wp2
  go_region_held3 (fun W => W.cell? ⟨q1, 0, none⟩ = some (.func (.func 71) #[] #[.pointer (some ⟨q, 0, none⟩)]) ∧ W.cell? ⟨q2, 0, none⟩ = some (.slice A0 x.length k0) ∧ W.cell? ⟨q3, 0, none⟩ = some (.slice A1 y.length k1)) (first
      | exact HB.out.cells
      | exact (HB.out.below HD0.out.drew).cells
      | exact (HB.out.below HD1.out).cells
      | exact HC2)
    (first
      | ((go_at_call 73; with_reducible refine (HW.out _ HD0.out.drew).mono ?_); rintro e w1 ⟨P1, n1, k1, P2, n2, k2, rfl, hp1, hp2, hb⟩; have HP1 := Lib.hid hp1; have HP2 := Lib.hid hp2; have HD1 := Lib.hid (HD0.out.drew.trans (hb.mono (Nat.le_refl _))); clear hb hp1 hp2)
      | ((go_at_call 71; with_reducible refine (HA.out _ HD1.out _ _ _ _ _ _ HP1.out HP2.out).mono ?_); rintro e w2 ⟨⟨v, rfl⟩, hstep⟩; have HS := Lib.hid hstep; have HC2 := HB.out.after HDV.out HS.out; clear hstep))
  all_goals
    go_end0
    exact ⟨⟨_, rfl⟩, HS.out⟩
end Go.Proofs.Ytddejcoagcaidaa
