/- Configure on an arbiter; agrees. Conditions stand in each theorem. -/
import Derived.Test.YtildofclgofjdaaQB
import Derived.Lib.MinMax
namespace Go.Proofs.Ytildofclgofjdaa
open Go.RowKit Go.Shelf
attribute [local go_sem] Oper.semAt_some
set_option linter.unusedVariables false
set_option maxHeartbeats 8000000
set_option maxRecDepth 100000
theorem Configure_bad (b m : Nat) (s : St) (w : World) (h : Arb w b m s) (wt : Bool) (bu hi me lo : Int) (hv : valB wt bu hi me lo = false) :
    Calls Try.prog 24 #[.pointer (some ⟨b, 0, none⟩), .agg #[.bool wt, .int .i64 bu, .int .i64 hi, .int .i64 me, .int .i64 lo]] w fun e w' => e = .returned (.int .i64 2) ∧ Below w.heap.size w w' := by
  have k5 := (h.below (below_alloc w (.cells #[.bool wt, .int .i64 bu, .int .i64 hi, .int .i64 me, .int .i64 lo] 23))).cMap
  clear h
  go_enter Try.func24, Try.ntmps24
  go_wp2_with (first
    | ((go_at_call 30; with_reducible refine (missing_not _ m _ k5).mono ?_); rintro e w' ⟨rfl, rfl⟩)
    | ((go_at_call 25; with_reducible refine (valid_any _ _ _ _ _ _).mono ?_); rintro e w1 ⟨rfl, hb⟩; have HB := Lib.hid hb; rw [hv]; clear hb))
  go_ret
  exact ⟨rfl, (below_alloc w _).trans (HB.out.mono (by simp))⟩
/-- What the store of a configuration leaves. -/
theorem conf_mid {b m : Nat} {s : St} {w1 : World} (h : Arb w1 b m s) (wt : Bool) (bu hi me lo : Int) :
    Arb (((((w1.setCell ⟨b, 0, none⟩ (.bool wt)).setCell ⟨b, 1, none⟩ (.int .i64 bu)).setCell ⟨b, 2, none⟩ (.int .i64 hi)).setCell ⟨b, 3, none⟩ (.int .i64 me)).setCell ⟨b, 4, none⟩ (.int .i64 lo)) b m { s with wt := wt, bu := bu, hi := hi, me := me, lo := lo } ∧
    Chg (· = b) w1 (((((w1.setCell ⟨b, 0, none⟩ (.bool wt)).setCell ⟨b, 1, none⟩ (.int .i64 bu)).setCell ⟨b, 2, none⟩ (.int .i64 hi)).setCell ⟨b, 3, none⟩ (.int .i64 me)).setCell ⟨b, 4, none⟩ (.int .i64 lo)) := by
  have hc : Chg (· = b) w1 (((((w1.setCell ⟨b, 0, none⟩ (.bool wt)).setCell ⟨b, 1, none⟩ (.int .i64 bu)).setCell ⟨b, 2, none⟩ (.int .i64 hi)).setCell ⟨b, 3, none⟩ (.int .i64 me)).setCell ⟨b, 4, none⟩ (.int .i64 lo)) :=
    (((((Chg.refl (· = b) w1).setCell rfl _).setCell rfl _).setCell rfl _).setCell rfl _).setCell rfl _
  exact ⟨⟨heap_setCell_same _ b 4 _ 70 _ (heap_setCell_same _ b 3 _ 70 _ (heap_setCell_same _ b 2 _ 70 _ (heap_setCell_same _ b 1 _ 70 _ (heap_setCell_same _ b 0 _ 70 _ h.blk)))), h.map.chg hc (fun e => h.ne e.symm)⟩, hc⟩
theorem conf_end {b m : Nat} {s : St} {w1 : World} (h : Arb w1 b m s) (hi me lo : Int) :
    Arb ((((w1.setCell ⟨b, 10, none⟩ (.int .i64 0)).setCell ⟨b, 11, none⟩ (.int .i64 hi)).setCell ⟨b, 12, none⟩ (.int .i64 me)).setCell ⟨b, 13, none⟩ (.int .i64 lo)) b m { s with cr := wts hi me lo } ∧
    Chg (· = b) w1 ((((w1.setCell ⟨b, 10, none⟩ (.int .i64 0)).setCell ⟨b, 11, none⟩ (.int .i64 hi)).setCell ⟨b, 12, none⟩ (.int .i64 me)).setCell ⟨b, 13, none⟩ (.int .i64 lo)) := by
  have hc : Chg (· = b) w1 ((((w1.setCell ⟨b, 10, none⟩ (.int .i64 0)).setCell ⟨b, 11, none⟩ (.int .i64 hi)).setCell ⟨b, 12, none⟩ (.int .i64 me)).setCell ⟨b, 13, none⟩ (.int .i64 lo)) :=
    ((((Chg.refl (· = b) w1).setCell rfl _).setCell rfl _).setCell rfl _).setCell rfl _
  exact ⟨⟨heap_setCell_same _ b 13 _ 70 _ (heap_setCell_same _ b 12 _ 70 _ (heap_setCell_same _ b 11 _ 70 _ (heap_setCell_same _ b 10 _ 70 _ h.blk))), h.map.chg hc (fun e => h.ne e.symm)⟩, hc⟩
theorem Configure_ok (b m : Nat) (s : St) (w : World) (h : Arb w b m s) (wt : Bool) (bu hi me lo : Int) (hv : valB wt bu hi me lo = true) :
    Calls Try.prog 24 #[.pointer (some ⟨b, 0, none⟩), .agg #[.bool wt, .int .i64 bu, .int .i64 hi, .int .i64 me, .int .i64 lo]] w fun e w' => e = .returned (.int .i64 0) ∧ Arb w' b m (s.conf wt bu hi me lo) ∧ Chg (· = b) w w' := by
  have h1 := h.below (below_alloc w (.cells #[.bool wt, .int .i64 bu, .int .i64 hi, .int .i64 me, .int .i64 lo] 23))
  have k5 := h1.cMap
  have hbl := h.lt
  have hne : ¬ b = w.heap.size := by omega
  have hne' : ¬ w.heap.size = b := by omega
  have H1 := Lib.hid h1
  have HC := Lib.hid (CfgAt.new w wt bu hi me lo)
  clear h h1
  go_enter Try.func24, Try.ntmps24
  go_wp2_with (first
    | ((go_at_call 30; with_reducible refine (missing_not _ m _ k5).mono ?_); rintro e w' ⟨rfl, rfl⟩)
    | ((go_at_call 25; with_reducible refine (valid_any _ _ _ _ _ _).mono ?_); rintro e w1 ⟨rfl, hb⟩; have HB := Lib.hid hb; have H2 := Lib.hid (H1.out.below hb); have fb := fun i => (H1.out.below hb).free i; have z0 := (H1.out.below hb).cWt; have z1 := (H1.out.below hb).cBu; have z2 := (H1.out.below hb).cHi; have z3 := (H1.out.below hb).cMe; have z4 := (H1.out.below hb).cLo; obtain ⟨k0, k1, k2, k3, k4⟩ := (HC.out.below hb).cells; rw [hv]; clear hb)
    | ((go_at_call 26; with_reducible refine (weights_any _ _ _ _ _ _).mono ?_); rintro e w2 ⟨rfl, hb⟩; have HB2 := Lib.hid hb; have h3 := (conf_mid H2.out wt bu hi me lo).1.below hb; have H3 := Lib.hid h3; have fc := fun i => h3.free i; have y0 : w2.cell? ⟨b, 10, none⟩ = _ := h3.cCr 0 (by decide); have y1 : w2.cell? ⟨b, 11, none⟩ = _ := h3.cCr 1 (by decide); have y2 : w2.cell? ⟨b, 12, none⟩ = _ := h3.cCr 2 (by decide); have y3 : w2.cell? ⟨b, 13, none⟩ = _ := h3.cCr 3 (by decide); clear hb h3 k0 k1 k2 k3 k4 z0 z1 z2 z3 z4 fb))
  go_ret
  obtain ⟨h4, c4⟩ := conf_end H3.out hi me lo
  have c2 := (conf_mid H2.out wt bu hi me lo).2
  have b1 : Below w.heap.size w w1 := (below_alloc w _).trans (HB.out.mono (by simp))
  exact ⟨rfl, h4, ((Chg.of_below b1).also (c2.then_below HB2.out)).also c4⟩
end Go.Proofs.Ytildofclgofjdaa
