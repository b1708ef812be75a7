/- The contracts of the closures of program: a page is torn, fails, is programmed. Conditions stand in each theorem. -/
import Derived.Test.YtddejcoagcaidaaI
import Derived.Deep.RegionWith
namespace Go.Proofs.Ytddejcoagcaidaa
open Go.RowKit
set_option linter.unusedVariables false
set_option maxHeartbeats 2000000
set_option maxRecDepth 100000
theorem Step.of_below {w W w' : World} {base b g m : Nat} {V : Nat → Value} {s s' : Dev} (h : Step W base b g m V s s' w') (hW : Below w.heap.size w W) : Step w base b g m V s s' w' := by
  obtain ⟨V', h1, h2, h3⟩ := h
  exact ⟨V', h1, (Chg.of_below hW).also h2, fun k hk => (h3 k hk).imp_right fun h => Nat.le_trans hW.size h⟩
/-- The boxes that program's closures read: the function that adds, the data, the spare bytes. -/
structure Bx (w : World) (g i q q1 q2 q3 : Nat) (vd vs : Value) (x y : List UInt8) : Prop where
  bq : w.heap[q]? = some (.cells #[.pointer (some ⟨g, i * 2, none⟩)] 103 (0, 0))
  b1 : w.heap[q1]? = some (.cells #[.func (.func 71) #[] #[.pointer (some ⟨q, 0, none⟩)]] 117 (0, 0))
  b2 : w.heap[q2]? = some (.cells #[vd] 41 (0, 0))
  b3 : w.heap[q3]? = some (.cells #[vs] 41 (0, 0))
  bd : Byt w vd x
  bs : Byt w vs y
theorem Bx.below {w W : World} {g i q q1 q2 q3 : Nat} {vd vs : Value} {x y : List UInt8} (h : Bx w g i q q1 q2 q3 vd vs x y) (hW : Below w.heap.size w W) : Bx W g i q q1 q2 q3 vd vs x y := by
  have e : ∀ {k : Nat} {o : Obj}, w.heap[k]? = some o → W.heap[k]? = some o := fun {k o} hk => (hW.block k (Array.getElem?_eq_some_iff.1 hk).1).trans hk
  exact ⟨e h.bq, e h.b1, e h.b2, e h.b3, h.bd.below hW, h.bs.below hW⟩
theorem Bx.cells {w : World} {g i q q1 q2 q3 : Nat} {vd vs : Value} {x y : List UInt8} (h : Bx w g i q q1 q2 q3 vd vs x y) :
    w.cell? ⟨q1, 0, none⟩ = some (.func (.func 71) #[] #[.pointer (some ⟨q, 0, none⟩)]) ∧ w.cell? ⟨q2, 0, none⟩ = some vd ∧ w.cell? ⟨q3, 0, none⟩ = some vs :=
  ⟨cell_of_row w q1 0 _ 117 (0, 0) h.b1, cell_of_row w q2 0 _ 41 (0, 0) h.b2, cell_of_row w q3 0 _ 41 (0, 0) h.b3⟩
theorem written_any {lb : Nat} (v0 v1 : Value) (x y : List UInt8) (n : Nat) (w : World) (hlb : lb ≤ w.heap.size) (h0 : Byt w v0 x) (h1 : Byt w v1 y) (hx : x.length ≤ 100000) (hy : y.length ≤ 100000) (h00 : 0 < (x ++ y).length) :
    Calls Try.prog 73 #[v0, v1, .int .i64 (n : Int)] w (PagePost lb w (wr x y n)) := by
  by_cases hn : n < (x ++ y).length
  · exact written_torn v0 v1 x y n w hlb h0 h1 hx hy hn
  · exact written_full v0 v1 x y n w hlb h0 h1 hx hy h00 (by omega)
theorem prog2_any {w : World} {base b g m : Nat} {V : Nat → Value} {s : Dev} (h : Dv w base b g m V s) (hG : Gd s) {i : Nat} (hi : i < s.nb) {q q1 q2 q3 : Nat} {vd vs : Value} {x y : List UInt8}
    (hB : Bx w g i q q1 q2 q3 vd vs x y) (hx : x.length ≤ 100000) (hy : y.length ≤ 100000) (h00 : 0 < (x ++ y).length) (n : Nat) :
    Calls Try.prog 72 #[.int .i64 (n : Int), .pointer (some ⟨q1, 0, none⟩), .pointer (some ⟨q2, 0, none⟩), .pointer (some ⟨q3, 0, none⟩)] w (StepAny w base b g m V s (s.put i ⟨(s.bk i).er, (s.bk i).pg ++ [wr x y n]⟩)) := by
  obtain ⟨c1, c2, c3⟩ := hB.cells
  have HW : Hid (∀ W, Below w.heap.size w W → Calls Try.prog 73 #[vd, vs, .int .i64 (n : Int)] W (PagePost s.lo W (wr x y n))) := Lib.hid fun W hW => written_any vd vs x y n W (Nat.le_trans h.lowle hW.size) (hB.bd.below hW) (hB.bs.below hW) hx hy h00
  have HA : Hid (∀ W, Below w.heap.size w W → ∀ A1 n1 k1 A2 n2 k2, BytT s.lo W (.slice A1 n1 k1) (wr x y n).d → BytT s.lo W (.slice A2 n2 k2) (wr x y n).s → Calls Try.prog 71 #[.agg #[.slice A1 n1 k1, .slice A2 n2 k2, .int .i64 (wr x y n).st], .pointer (some ⟨q, 0, none⟩)] W (StepAny w base b g m V s (s.put i ⟨(s.bk i).er, (s.bk i).pg ++ [wr x y n]⟩))) :=
    Lib.hid fun W hW A1 n1 k1 A2 n2 k2 p1 p2 => (add_any (h.below hW) hG hi q (hB.below hW).bq (wr x y n) p1 p2).mono fun e w' ⟨e1, e2⟩ => ⟨e1, e2.of_below hW⟩
  have HB := Lib.hid hB
  have HD0 := Lib.hid (Below.refl w.heap.size w)
  obtain ⟨A0, k0, e0, _⟩ := hB.bd
  obtain ⟨A1, k1, e1, _⟩ := hB.bs
  subst e0
  subst e1
  clear h hG hB hx hy h00
  generalize wr x y n = p at *
  go_enter Try.func72, Try.ntmps72
  go_wp2
  go_region_with (first
    | ((go_at_call 73; with_reducible refine (HW.out _ HD0.out.drew).mono ?_); rintro e w1 ⟨P1, n1, k1, P2, n2, k2, rfl, hp1, hp2, hb⟩; have HP1 := Lib.hid hp1; have HP2 := Lib.hid hp2; have HD1 := Lib.hid (HD0.out.drew.trans (hb.mono (Nat.le_refl _))); obtain ⟨c1, c2, c3⟩ := (HB.out.below HD1.out).cells; clear hb hp1 hp2)
    | ((go_at_call 71; with_reducible refine (HA.out _ HD1.out _ _ _ _ _ _ HP1.out HP2.out).mono ?_); rintro e w2 ⟨⟨v, rfl⟩, hstep⟩; have HS := Lib.hid hstep; clear hstep))
  all_goals
    go_end0
    exact ⟨⟨_, rfl⟩, HS.out⟩
end Go.Proofs.Ytddejcoagcaidaa
