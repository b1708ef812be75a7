/- The contract of the law's known. No condition. -/
import Derived.Test.YtildofclgofjdaaU
namespace Go.Proofs.Ytildofclgofjdaa
open Go.RowKit
set_option linter.unusedVariables false
set_option maxHeartbeats 400000
set_option maxRecDepth 100000
theorem K3.cells {w : World} {ba ma bw mw bv mv t9 t10 t11 t12 : Nat} {sa sw sv : St} {W : World} (h : K3 w ba ma bw mw bv mv t9 t10 t11 t12 sa sw sv W) :
    W.cell? ⟨t9, 0, none⟩ = some (.int .i64 1) ∧ W.cell? ⟨t9, 1, none⟩ = some (.int .i64 9) ∧ W.cell? ⟨t10, 0, none⟩ = some (.int .i64 5) ∧ W.cell? ⟨t10, 1, none⟩ = some (.int .i64 1) ∧ W.cell? ⟨t11, 0, none⟩ = some (.int .i64 2) ∧ W.cell? ⟨t11, 1, none⟩ = some (.int .i64 9) ∧ W.cell? ⟨t12, 0, none⟩ = some (.int .i64 1) ∧ W.cell? ⟨t12, 1, none⟩ = some (.int .i64 2) :=
  ⟨h.x9.c0, h.x9.c1, h.x10.c0, h.x10.c1, h.x11.c0, h.x11.c1, h.x12.c0, h.x12.c1⟩
/-- What Copy leaves in known. -/
def KCp (w : World) (ba ma bw mw t : Nat) (e : Ending) (W' : World) : Prop := ∃ bv mv, e = .returned (.pointer (some ⟨bv, 0, none⟩)) ∧ K3 w ba ma bw mw bv mv t (t + 1) (t + 1 + 1) (t + 1 + 1 + 1) kA2 kW2 kW2 W'
theorem cp_known {w : World} {ba ma bw mw : Nat} {W : World} (h : K2 w ba ma bw mw kA2 kW2 W) :
    Calls Try.prog 22 #[.pointer (some ⟨bw, 0, none⟩)] ((((W.alloc (.cells #[.int .i64 1, .int .i64 9] 48)).alloc (.cells #[.int .i64 5, .int .i64 1] 48)).alloc (.cells #[.int .i64 2, .int .i64 9] 48)).alloc (.cells #[.int .i64 1, .int .i64 2] 48)) (KCp w ba ma bw mw W.heap.size) := by
  have y9 := Two.new W 1 9
  have b1 := below_alloc W (.cells #[.int .i64 1, .int .i64 9] 48)
  have z1 : (W.alloc (.cells #[.int .i64 1, .int .i64 9] 48)).heap.size = W.heap.size + 1 := World.size_alloc _ _
  generalize W.alloc (.cells #[.int .i64 1, .int .i64 9] 48) = W1 at *
  have y10 := Two.new W1 5 1
  have b2 := below_alloc W1 (.cells #[.int .i64 5, .int .i64 1] 48)
  have z2 : (W1.alloc (.cells #[.int .i64 5, .int .i64 1] 48)).heap.size = W1.heap.size + 1 := World.size_alloc _ _
  generalize W1.alloc (.cells #[.int .i64 5, .int .i64 1] 48) = W2 at *
  have y11 := Two.new W2 2 9
  have b3 := below_alloc W2 (.cells #[.int .i64 2, .int .i64 9] 48)
  have z3 : (W2.alloc (.cells #[.int .i64 2, .int .i64 9] 48)).heap.size = W2.heap.size + 1 := World.size_alloc _ _
  generalize W2.alloc (.cells #[.int .i64 2, .int .i64 9] 48) = W3 at *
  have y12 := Two.new W3 1 2
  have b4 := below_alloc W3 (.cells #[.int .i64 1, .int .i64 2] 48)
  generalize W3.alloc (.cells #[.int .i64 1, .int .i64 2] 48) = W4 at *
  have B3 := b3.trans (b4.mono b3.size)
  have B2 := b2.trans (B3.mono b2.size)
  have B1 := b1.trans (B2.mono b1.size)
  have hA := h.a.below B1
  have hB := h.b.below B1
  refine (Copy_any bw mw kW2 W4 hB okW2.srt).mono ?_
  rintro e W5 ⟨bv, mv, rfl, hC, hg, hm, b5⟩
  refine ⟨bv, mv, rfl, hA.below b5, hB.below b5, hC, h.d1, ?_, ?_, h.ga, h.gb, ?_, (y9.below B2).below b5, ?_, ?_, ?_, (h.below.trans (B1.mono h.below.size)).trans (b5.mono ?_)⟩
  · have := hA.lt; omega
  · have := hB.lt; omega
  · have h1 := h.below.size
    have h2 := B1.size
    omega
  · rw [← z1]; exact (y10.below B3).below b5
  · rw [← z1, ← z2]; exact (y11.below b4).below b5
  · rw [← z1, ← z2, ← z3]; exact y12.below b5
  · have h1 := h.below.size
    have h2 := B1.size
    omega
set_option maxHeartbeats 8000000 in
theorem known_any (w : World) : Calls Try.prog 12 #[] w fun e w' => e = .returned (.bool true) ∧ Below w.heap.size w w' := by
  have N1 := Lib.hid (fun W => New_bad false 3 0 0 0 W (by decide))
  have N2 := Lib.hid (fun W => New_bad true 0 0 0 0 W (by decide))
  have N3 := Lib.hid (fun W => New_ok false 2 0 0 0 W (by decide))
  have N4 := Lib.hid (fun W => New_ok true 0 3 2 1 W (by decide))
  go_enter Try.func12, Try.ntmps12
  go_wp2_with (first
    | ((go_at_call 10; with_reducible refine (N1.out _).mono ?_); rintro e w1 ⟨rfl, hb⟩; have HB1 := Lib.hid hb; clear hb N1)
    | ((go_at_call 10; with_reducible refine (N2.out _).mono ?_); rintro e w2 ⟨rfl, hb⟩; have HB2 := Lib.hid (HB1.out.trans (hb.mono HB1.out.size)); clear hb N2)
    | ((go_at_call 10; with_reducible refine (N3.out _).mono ?_); rintro e w3 ⟨ba, ma, rfl, hA, hga, hgm, hb⟩; have HB3 := Lib.hid (HB2.out.trans (hb.mono HB2.out.size)); have HA3 := Lib.hid (show Arb w3 ba ma kA0 from hA); have HGA := Lib.hid (Nat.le_trans HB2.out.size hga); have HGM := Lib.hid (Nat.le_trans HB2.out.size hgm); clear hb hA hga hgm N3)
    | ((go_at_call 10; with_reducible refine (N4.out _).mono ?_); rintro e w4 ⟨bw, mw, rfl, hA, hga, hgm, hb⟩; have HK0 : Hid (K2 w ba ma bw mw kA0 kW0 w4) := ⟨HA3.out.below hb, hA, by have := HA3.out.lt; omega, by have := HA3.out.map.lt; omega, HGA.out, HGM.out, Nat.le_trans HB3.out.size hga, Nat.le_trans HB3.out.size hgm, HB3.out.trans (hb.mono HB3.out.size)⟩; clear hb hA hga hgm N4)
    | ((go_at_call 16; with_reducible refine (HK0.out.addA okA0 1 0 eA0).mono ?_); rintro e w5 ⟨rfl, hk⟩; have HK1 := Lib.hid (show K2 w ba ma bw mw kA1 kW0 w5 from hk); clear hk HK0)
    | ((go_at_call 16; with_reducible refine (HK1.out.addA okA1 5 0 eA1).mono ?_); rintro e w6 ⟨rfl, hk⟩; have HK2 := Lib.hid (show K2 w ba ma bw mw kA2 kW0 w6 from hk); clear hk HK1)
    | ((go_at_call 16; with_reducible refine (HK2.out.addB okW0 1 1 eW0).mono ?_); rintro e w7 ⟨rfl, hk⟩; have HK3 := Lib.hid (show K2 w ba ma bw mw kA2 kW1 w7 from hk); clear hk HK2)
    | ((go_at_call 16; with_reducible refine (HK3.out.addB okW1 2 3 eW1).mono ?_); rintro e w8 ⟨rfl, hk⟩; have HK4 := Lib.hid (show K2 w ba ma bw mw kA2 kW2 w8 from hk); clear hk HK3)
    | ((go_at_call 22; with_reducible refine (cp_known HK4.out).mono ?_); rintro e w9 ⟨bv, mv, rfl, hk⟩; have G0 := Lib.hid hk; obtain ⟨c0, c1, c2, c3, c4, c5, c6, c7⟩ := G0.out.cells; clear hk HK4)
    | ((go_at_call 18; with_reducible refine (stA2 G0.out).mono ?_); rintro e u20 ⟨rfl, hk⟩; have G1 := Lib.hid hk; clear hk c0 c1 c2 c3 c4 c5 c6 c7 G0; obtain ⟨c0, c1, c2, c3, c4, c5, c6, c7⟩ := G1.out.cells)
    | ((go_at_call 18; with_reducible refine (stA3 G1.out).mono ?_); rintro e u21 ⟨rfl, hk⟩; have G2 := Lib.hid hk; clear hk c0 c1 c2 c3 c4 c5 c6 c7 G1; obtain ⟨c0, c1, c2, c3, c4, c5, c6, c7⟩ := G2.out.cells)
    | ((go_at_call 18; with_reducible refine (stA4 G2.out).mono ?_); rintro e u22 ⟨rfl, hk⟩; have G3 := Lib.hid hk; clear hk c0 c1 c2 c3 c4 c5 c6 c7 G2; obtain ⟨c0, c1, c2, c3, c4, c5, c6, c7⟩ := G3.out.cells)
    | ((go_at_call 18; with_reducible refine (stW2 G3.out).mono ?_); rintro e u23 ⟨rfl, hk⟩; have G4 := Lib.hid hk; clear hk c0 c1 c2 c3 c4 c5 c6 c7 G3; obtain ⟨c0, c1, c2, c3, c4, c5, c6, c7⟩ := G4.out.cells)
    | ((go_at_call 18; with_reducible refine (stW3 G4.out).mono ?_); rintro e u24 ⟨rfl, hk⟩; have G5 := Lib.hid hk; clear hk c0 c1 c2 c3 c4 c5 c6 c7 G4; obtain ⟨c0, c1, c2, c3, c4, c5, c6, c7⟩ := G5.out.cells)
    | ((go_at_call 18; with_reducible refine (stW4 G5.out).mono ?_); rintro e u25 ⟨rfl, hk⟩; have G6 := Lib.hid hk; clear hk c0 c1 c2 c3 c4 c5 c6 c7 G5; obtain ⟨c0, c1, c2, c3, c4, c5, c6, c7⟩ := G6.out.cells)
    | ((go_at_call 18; with_reducible refine (stW5 G6.out).mono ?_); rintro e u26 ⟨rfl, hk⟩; have G7 := Lib.hid hk; clear hk c0 c1 c2 c3 c4 c5 c6 c7 G6; obtain ⟨c0, c1, c2, c3, c4, c5, c6, c7⟩ := G7.out.cells)
    | ((go_at_call 18; with_reducible refine (stV2 G7.out).mono ?_); rintro e u27 ⟨rfl, hk⟩; have G8 := Lib.hid hk; clear hk c0 c1 c2 c3 c4 c5 c6 c7 G7; obtain ⟨c0, c1, c2, c3, c4, c5, c6, c7⟩ := G8.out.cells)
    | ((go_at_call 18; with_reducible refine (stV3 G8.out).mono ?_); rintro e u28 ⟨rfl, hk⟩; have G9 := Lib.hid hk; clear hk c0 c1 c2 c3 c4 c5 c6 c7 G8; obtain ⟨c0, c1, c2, c3, c4, c5, c6, c7⟩ := G9.out.cells)
    | ((go_at_call 18; with_reducible refine (stV4 G9.out).mono ?_); rintro e u29 ⟨rfl, hk⟩; have G10 := Lib.hid hk; clear hk c0 c1 c2 c3 c4 c5 c6 c7 G9; obtain ⟨c0, c1, c2, c3, c4, c5, c6, c7⟩ := G10.out.cells))
  go_ret
  exact ⟨rfl, G10.out.below⟩
end Go.Proofs.Ytildofclgofjdaa
