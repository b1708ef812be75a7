/- The contracts of slices.Concat at two rows of bytes, split, written. Conditions stand in each theorem. -/
import Derived.Test.YtddejcoagcaidaaD
namespace Go.Proofs.Ytddejcoagcaidaa
open Go.RowKit
set_option linter.unusedVariables false
set_option maxHeartbeats 1000000
set_option maxRecDepth 100000
/-- What a call leaves that returns new bytes. -/
def NewBytes (w : World) (l : List UInt8) (e : Ending) (w' : World) : Prop := (∃ A c, e = .returned (.slice A l.length c) ∧ w'.ownsRow w.heap.size 5 1 (.slice A l.length c) l.length (bv l)) ∧ Below w.heap.size w w'
theorem Concat_any (B : Nat) (v0 v1 : Value) (x y : List UInt8) (w : World) (c0 : w.cell? ⟨B, 0, none⟩ = some v0) (c1 : w.cell? ⟨B, 1, none⟩ = some v1) (h0 : Byt w v0 x) (h1 : Byt w v1 y) (hx : x.length ≤ 100000) (hy : y.length ≤ 100000) :
    Calls Try.prog 63 #[.slice (some ⟨B, 0, none⟩) 2 2] w (NewBytes w (x ++ y)) := by
  have hB := World.block_lt_of_cell? w _ c0
  have H0 := Lib.hid h0
  have H1 := Lib.hid h1
  have C0 := Lib.hid c0
  have C1 := Lib.hid c1
  obtain ⟨A0, k0, e0, _, _⟩ := h0
  obtain ⟨A1, k1, e1, _, _⟩ := h1
  subst e0
  subst e1
  have g0 : (0 : Int) ≤ x.length := by omega
  have g1 : (0 : Int) ≤ y.length := by omega
  have g2 : (x.length : Int) ≤ 100000 := by omega
  have g3 : (y.length : Int) ≤ 100000 := by omega
  have GR : Hid (∀ W, Calls Try.prog 76 #[.slice none 0 0, .int .i64 ((x.length : Int) + (y.length : Int))] W fun e w' => (∃ v, e = .returned v ∧ w'.ownsRow W.heap.size 5 1 v 0 (bv [])) ∧ Below W.heap.size W w') := Lib.hid fun W => by
    have := Grow_any (x.length + y.length) W (by omega)
    rwa [Int.natCast_add] at this
  go_enter Try.func63, Try.ntmps63
  go_wp2
  refine wp_loop_rounds 3 ?_
  iterate 3 (rw [rounds_succ]; go_wp2_with fail)
  refine (GR.out _).mono ?_
  rintro e w1 ⟨⟨v, rfl, ho⟩, hb⟩
  have HO := Lib.hid ho
  have HB := Lib.hid hb
  obtain ⟨A2, c2, e2⟩ := own_form ho
  subst e2
  have d0 := (hb.cell (p := ⟨B, 0, none⟩) hB).trans C0.out
  have d1 := (hb.cell (p := ⟨B, 1, none⟩) hB).trans C1.out
  clear ho hb c0 c1
  go_wp2
  refine wp_loop_rounds 3 ?_
  rw [rounds_succ]
  go_wp2_with (at_builtin; refine wpList_app rfl (.tmp 31) (.tmp 32) rfl w.heap.size 0 _ _ [] x rfl rfl HO.out (H0.out.below HB.out) ?q1 HB.out.size ?_)
  case q1 => omega
  intro A3 c3 w2 HO3 HG3
  have HO4 : Hid (w2.ownsRow w.heap.size 5 1 (.slice A3 x.length c3) x.length (bv x)) := Lib.hid (by simpa using HO3.out)
  have HB4 : Hid (Below w.heap.size w w2) := Lib.hid (HB.out.grown HG3.out HB.out.size (fun b hb => (HO.out.lt b hb).1))
  have b1 := (HB4.out.cell (p := ⟨B, 1, none⟩) hB).trans C1.out
  clear HO3 HG3 d0 d1
  go_wp2
  rw [rounds_succ]
  go_wp2_with (at_builtin; refine wpList_app rfl (.tmp 31) (.tmp 32) rfl w.heap.size x.length _ _ x y rfl rfl HO4.out (H1.out.below HB4.out) ?q1 HB4.out.size ?_)
  case q1 => omega
  intro A5 c5 w3 HO5 HG5
  have HB5 : Hid (Below w.heap.size w w3) := Lib.hid (HB4.out.grown HG5.out HB4.out.size (fun b hb => (HO4.out.lt b hb).1))
  clear HG5 b1
  go_wp2
  rw [rounds_succ]
  go_wp2
  go_ret
  refine ⟨⟨A5, c5, ?_, ?_⟩, HB5.out⟩
  · rw [List.length_append]; rfl
  · rw [List.length_append]; exact HO5.out
end Go.Proofs.Ytddejcoagcaidaa
