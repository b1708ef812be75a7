/- The contracts of New and Configure. Conditions stand in each theorem. -/
import Derived.Test.YtildofclgofjdaaB
import Derived.Deep.DeepCutAuto
import Derived.Deep.RegionWith
import Derived.Deep.CutBlock
namespace Go.Proofs.Ytildofclgofjdaa
open Go.RowKit
set_option linter.unusedVariables false
set_option maxHeartbeats 400000
def wts (hi me lo : Int) (k : Nat) : Int := if k = 1 then hi else if k = 2 then me else if k = 3 then lo else 0
def St.new (wt : Bool) (bu hi me lo : Int) : St := { wt := wt, bu := bu, hi := hi, me := me, lo := lo, L := [], last := fun _ => -1, cr := wts hi me lo }
theorem New_bad (wt : Bool) (bu hi me lo : Int) (w : World) (hv : valB wt bu hi me lo = false) : Calls Try.prog 10 #[.agg #[.bool wt, .int .i64 bu, .int .i64 hi, .int .i64 me, .int .i64 lo]] w fun e w' => e = .returned (.tuple #[.pointer none, .int .i64 2]) ∧ Below w.heap.size w w' := by
  go_enter Try.func10, Try.ntmps10
  go_wp2_with ((go_at_call 25; with_reducible refine (valid_any _ _ _ _ _ _).mono ?_); rintro e w1 ⟨rfl, hb⟩)
  go_ret2
  exact ⟨rfl, ((Below.refl _ _).alloc (Nat.le_refl _) _).trans (hb.mono (by simp))⟩
/-- The cells of a new arbiter. -/
def newCells (wt : Bool) (bu hi me lo : Int) (m : Nat) (l0 l1 l2 l3 : Int) : Array Value := #[.bool wt, .int .i64 bu, .int .i64 hi, .int .i64 me, .int .i64 lo, .map (some m), .int .i64 l0, .int .i64 l1, .int .i64 l2, .int .i64 l3, .int .i64 0, .int .i64 hi, .int .i64 me, .int .i64 lo]
def NewMid (w : World) (wt : Bool) (bu hi me lo : Int) (v : Value) (w' : World) : Prop := ∃ b m, v = .pointer (some ⟨b, 0, none⟩) ∧ w'.heap[b]? = some (.cells (newCells wt bu hi me lo m 0 0 0 0) 70 (0, 0)) ∧ Mp w' m [] ∧ w.heap.size ≤ b ∧ w.heap.size ≤ m ∧ Below w.heap.size w w'
def NewPost (w : World) (wt : Bool) (bu hi me lo : Int) (e : Ending) (w' : World) : Prop := ∃ b m, e = .returned (.tuple #[.pointer (some ⟨b, 0, none⟩), .int .i64 0]) ∧ Arb w' b m (St.new wt bu hi me lo) ∧ w.heap.size ≤ b ∧ w.heap.size ≤ m ∧ Below w.heap.size w w'
set_option maxHeartbeats 1000000 in
theorem New_ok (wt : Bool) (bu hi me lo : Int) (w : World) (hv : valB wt bu hi me lo = true) : Calls Try.prog 10 #[.agg #[.bool wt, .int .i64 bu, .int .i64 hi, .int .i64 me, .int .i64 lo]] w (NewPost w wt bu hi me lo) := by
  have hmm := @run_makeMap Try.prog
  go_enter Try.func10, Try.ntmps10
  go_upto_region 3 with ((go_at_call 25; with_reducible refine (valid_any _ _ _ _ _ _).mono ?_); rintro e w1 ⟨rfl, hb⟩; have HC := Lib.hid ((CfgAt.new w wt bu hi me lo).below hb); have HB := Lib.hid (((Below.refl w.heap.size w).alloc (Nat.le_refl _) _).trans (hb.mono (by simp))); clear hb; obtain ⟨k0, k1, k2, k3, k4⟩ := HC.out.cells; have hz := HC.out.1)
  go_cut [4] (fun v wx => NewMid w wt bu hi me lo v wx)
  case first =>
    go_region_held3 (fun W => W.cell? ⟨w.heap.size, 0, none⟩ = some (.bool wt) ∧ W.cell? ⟨w.heap.size, 1, none⟩ = some (.int .i64 bu) ∧ W.cell? ⟨w.heap.size, 2, none⟩ = some (.int .i64 hi) ∧ W.cell? ⟨w.heap.size, 3, none⟩ = some (.int .i64 me) ∧ W.cell? ⟨w.heap.size, 4, none⟩ = some (.int .i64 lo)) (first
      | exact CfgAt.cells (HC.out.below (Below.refl _ _))
      | exact CfgAt.cells (HC.out.below (Below.refl _ _).drew)
      | exact CfgAt.cells (HC.out.below ((Below.refl _ w1).alloc (Nat.le_refl _) _).drew)
      | exact CfgAt.cells (HC.out.below Q2.out)
      | exact CfgAt.cells (HC.out.below (Q2.out.alloc Q2.out.size _))
      | exact CfgAt.cells (HC.out.below ((Q2.out.alloc Q2.out.size _).alloc (by have := Q2.out.size; simp; omega) _))
      | exact CfgAt.cells (HC.out.below (Q2.out.alloc Q2.out.size _).drew))
      (first | ((go_at_call 26; with_reducible refine (weights_any _ _ _ _ _ _).mono ?_); rintro e w2 ⟨rfl, hb2⟩; have Q2 : Hid (Below w1.heap.size w1 w2) := Lib.hid (by first | exact ((Below.refl _ w1).drew).trans hb2 | exact ((((Below.refl _ w1).alloc (Nat.le_refl _) _).drew)).trans (hb2.mono (by simp)))))
    · go_wp2
      go_meet
      case rel =>
        have m1 : Mp w2 w1.heap.size [] := ((Mp.made w1).kept (w' := (w1.alloc (.map #[] 0)).drew) rfl).below hb2
        exact ⟨w2.heap.size, w1.heap.size, rfl, heap_alloc_new w2 _, m1.below ((Below.refl _ _).alloc (Nat.le_refl _) _), Nat.le_trans HB.out.size Q2.out.size, HB.out.size, (HB.out.trans (Q2.out.mono HB.out.size)).alloc (Nat.le_trans HB.out.size Q2.out.size) _⟩
    · go_wp2
      go_meet
      case rel =>
        have h1 : Below w2.heap.size w2 ((w2.alloc (.map #[] 0))) := (Below.refl _ _).alloc (Nat.le_refl _) _
        have h2 : w.heap.size ≤ w2.heap.size := Nat.le_trans HB.out.size Q2.out.size
        refine ⟨w2.heap.size + 1, w2.heap.size, rfl, by have := heap_alloc_new (w2.alloc (.map #[] 0)) (.cells (newCells wt bu hi me lo w2.heap.size 0 0 0 0) 70); rw [World.size_alloc] at this; exact this, (Mp.made w2).below ((Below.refl _ _).alloc (Nat.le_refl _) _), by omega, h2, ((HB.out.trans (Q2.out.mono HB.out.size)).alloc h2 _).alloc (by simp; omega) _⟩
  case rest =>
    obtain ⟨b, m, rfl, hblk, hmp, hb0, hm0, hB⟩ := hcut
    have e0 := fun i => frozen_of_row wc b i _ 70 hblk
    have e1 := fun i => cell_of_row wc b i _ 70 (0, 0) hblk
    have d6 : wc.cell? ⟨b, 6, none⟩ = some (.int .i64 0) := (e1 6).trans rfl
    have d7 : wc.cell? ⟨b, 7, none⟩ = some (.int .i64 0) := (e1 7).trans rfl
    have d8 : wc.cell? ⟨b, 8, none⟩ = some (.int .i64 0) := (e1 8).trans rfl
    have d9 : wc.cell? ⟨b, 9, none⟩ = some (.int .i64 0) := (e1 9).trans rfl
    have HK := Lib.hid hblk
    have HM := Lib.hid hmp
    have HBB := Lib.hid hB
    clear e1 hblk hmp hB HC HB k0 k1 k2 k3 k4
    go_wp2
    refine wp_loop_rounds 5 ?_
    iterate 5 (rw [rounds_succ]; go_wp2)
    go_ret2
    have hne : b ≠ m := by
      rintro rfl
      obtain ⟨es, c, hh⟩ := HM.out.isMap
      rw [HK.out] at hh
      cases hh
    have t1 : Chg (· = b) wc ((((wc.setCell ⟨b, 6, none⟩ (.int .i64 (-1))).setCell ⟨b, 7, none⟩ (.int .i64 (-1))).setCell ⟨b, 8, none⟩ (.int .i64 (-1))).setCell ⟨b, 9, none⟩ (.int .i64 (-1))) :=
      ((((Chg.refl (· = b) wc).setCell rfl _).setCell rfl _).setCell rfl _).setCell rfl _
    exact ⟨b, m, rfl, ⟨heap_setCell_same _ b 9 _ 70 _ (heap_setCell_same _ b 8 _ 70 _ (heap_setCell_same _ b 7 _ 70 _ (heap_setCell_same _ b 6 _ 70 _ HK.out))), HM.out.chg t1 (fun h => hne h.symm)⟩, hb0, hm0, HBB.out.trans (t1.below HBB.out.size (fun i hi => by omega))⟩
end Go.Proofs.Ytildofclgofjdaa
