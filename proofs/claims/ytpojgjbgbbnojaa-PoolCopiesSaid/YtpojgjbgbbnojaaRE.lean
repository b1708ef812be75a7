/- The contract of act: a pool and its reference make the same call. Conditions stand in each theorem. -/
import Derived.Test.YtpojgjbgbbnojaaRD
import Derived.Test.YtpojgjbgbbnojaaO
namespace Go.Proofs.Ytpojgjbgbbnojaa
open Go.RowKit
set_option linter.unusedVariables false
set_option maxHeartbeats 4000000
set_option maxRecDepth 100000
/-- The blocks behind a call. -/
def nx (l : List Blk) (x : KA) : List Blk :=
  if x.wh = 0 ∨ x.wh = 1 then tkS l else if x.wh = 2 ∨ x.wh = 3 then mvS (fun x => eqB x.st 2) 3 0 l x.bl else if x.wh = 4 ∨ x.wh = 5 then mvS (fun x => relB x.er x.st) 1 1 l x.bl else if x.wh = 6 then mvS (fun x => neB x.st 4) 4 0 l x.bl else seS l x.bl x.st x.er
section
variable {w : World} {base b g cap gr cr : Nat} {l : List Blk}
theorem rf_ne {W : World} {l0 : List Blk} (hr : Rf W gr l) (hp : Pl W base b g cap l0) : ¬ Ft b g gr := by
  obtain ⟨cs, fr, h1, _⟩ := hr
  rintro (rfl | rfl)
  · rw [hp.blk] at h1
    injection h1 with h1
    injection h1 with _ ht
    exact absurd ht (by decide)
  · obtain ⟨cur, h2, _⟩ := hp.row
    rw [h2] at h1
    injection h1 with h1
    injection h1 with _ ht
    exact absurd ht (by decide)
theorem rf_chg {W W' : World} {l0 : List Blk} (hr : Rf W gr l) (hp : Pl W base b g cap l0) (hc : Chg (Ft b g) W W') : Rf W' gr l := hr.keep (hc.block gr hr.lt (rf_ne hr hp))
/-- What act leaves. -/
def AcP (w : World) (base b g cap : Nat) (l' : List Blk) (e : Ending) (w' : World) : Prop := ∃ gr' cr', e = .returned (.tuple #[.slice (some ⟨gr', 0, none⟩) l'.length cr', .bool true]) ∧ Pl w' base b g cap l' ∧ Rf w' gr' l' ∧ Chg (Ft b g) w w'
theorem box_cells {W W2 : World} {a0 a1 a2 a3 : Value} (hb : Below (W.alloc (.cells #[a0, a1, a2, a3] 37)).heap.size (W.alloc (.cells #[a0, a1, a2, a3] 37)) W2) : W2.cell? ⟨W.heap.size, 0, none⟩ = some a0 ∧ W2.cell? ⟨W.heap.size, 1, none⟩ = some a1 ∧ W2.cell? ⟨W.heap.size, 2, none⟩ = some a2 ∧ W2.cell? ⟨W.heap.size, 3, none⟩ = some a3 := by
  have h : W2.heap[W.heap.size]? = some (.cells #[a0, a1, a2, a3] 37 (0, 0)) := (hb.block _ (by simp)).trans (heap_alloc_new W _)
  have e := fun k => cell_of_row W2 W.heap.size k _ 37 (0, 0) h
  exact ⟨e 0, e 1, e 2, e 3⟩
theorem act_close (h : Pl w base b g cap l) (hr : Rf w gr l) (wh bl st er : Int) (hw : wh = 2 ∨ wh = 3) :
    Calls Try.prog 12 #[.pointer (some ⟨b, 0, none⟩), .slice (some ⟨gr, 0, none⟩) l.length cr, .agg #[.int .i64 wh, .int .i64 bl, .int .i64 st, .int .i64 er]] w (AcP w base b g cap (mvS (fun x => eqB x.st 2) 3 0 l bl)) := by
  have b0 := below_alloc w (.cells #[.int .i64 wh, .int .i64 bl, .int .i64 st, .int .i64 er] 37)
  have hp1 := h.below b0
  have hr1 := hr.below b0
  have HB0 := Lib.hid b0
  have HP1 := Lib.hid hp1
  have HRef := Lib.hid (rClose_any (cap := cr) hr1 h.fit bl)
  have HPool := Lib.hid (fun W (hW : Below (w.alloc (.cells #[.int .i64 wh, .int .i64 bl, .int .i64 st, .int .i64 er] 37)).heap.size (w.alloc (.cells #[.int .i64 wh, .int .i64 bl, .int .i64 st, .int .i64 er] 37)) W) => Close_any (hp1.below hW) bl)
  generalize mvS (fun x => eqB x.st 2) 3 0 l bl = l' at *
  generalize mvE (fun x => eqB x.st 2) l bl = te at *
  clear h hr hp1 hr1 b0
  rcases hw with rfl | rfl
  all_goals
    go_enter Try.func12, Try.ntmps12
    go_wp2_with (first
      | ((go_at_call 30; with_reducible refine HRef.out.mono ?_); rintro e w2 ⟨gr', cr', rfl, hr2, hb2⟩; have HR2 := Lib.hid hr2; have HB2 := Lib.hid hb2; obtain ⟨x0, x1, x2, x3⟩ := box_cells hb2; clear hr2 hb2)
      | ((go_at_call 20; with_reducible refine (HPool.out _ HB2.out).mono ?_); rintro e w3 ⟨rfl, hmv⟩; have HM := Lib.hid hmv; clear hmv)
      | ((go_at_call 11; with_reducible refine (num_any _ _).mono ?_); rintro e w' ⟨rfl, rfl⟩))
    go_ret2
    exact ⟨gr', cr', rfl, HM.out.1, rf_chg HR2.out (HP1.out.below HB2.out) HM.out.2, ((Chg.of_below HB0.out).also (Chg.of_below HB2.out)).also HM.out.2⟩
theorem act_rel (h : Pl w base b g cap l) (hr : Rf w gr l) (wh bl st er : Int) (hw : wh = 4 ∨ wh = 5) :
    Calls Try.prog 12 #[.pointer (some ⟨b, 0, none⟩), .slice (some ⟨gr, 0, none⟩) l.length cr, .agg #[.int .i64 wh, .int .i64 bl, .int .i64 st, .int .i64 er]] w (AcP w base b g cap (mvS (fun x => relB x.er x.st) 1 1 l bl)) := by
  have b0 := below_alloc w (.cells #[.int .i64 wh, .int .i64 bl, .int .i64 st, .int .i64 er] 37)
  have hp1 := h.below b0
  have hr1 := hr.below b0
  have HB0 := Lib.hid b0
  have HP1 := Lib.hid hp1
  have HRef := Lib.hid (rRelease_any (cap := cr) hr1 h.fit bl)
  have HPool := Lib.hid (fun W (hW : Below (w.alloc (.cells #[.int .i64 wh, .int .i64 bl, .int .i64 st, .int .i64 er] 37)).heap.size (w.alloc (.cells #[.int .i64 wh, .int .i64 bl, .int .i64 st, .int .i64 er] 37)) W) => Release_any (hp1.below hW) bl)
  generalize mvS (fun x => relB x.er x.st) 1 1 l bl = l' at *
  generalize mvE (fun x => relB x.er x.st) l bl = te at *
  clear h hr hp1 hr1 b0
  rcases hw with rfl | rfl
  all_goals
    go_enter Try.func12, Try.ntmps12
    go_wp2_with (first
      | ((go_at_call 31; with_reducible refine HRef.out.mono ?_); rintro e w2 ⟨gr', cr', rfl, hr2, hb2⟩; have HR2 := Lib.hid hr2; have HB2 := Lib.hid hb2; obtain ⟨x0, x1, x2, x3⟩ := box_cells hb2; clear hr2 hb2)
      | ((go_at_call 21; with_reducible refine (HPool.out _ HB2.out).mono ?_); rintro e w3 ⟨rfl, hmv⟩; have HM := Lib.hid hmv; clear hmv)
      | ((go_at_call 11; with_reducible refine (num_any _ _).mono ?_); rintro e w' ⟨rfl, rfl⟩))
    go_ret2
    exact ⟨gr', cr', rfl, HM.out.1, rf_chg HR2.out (HP1.out.below HB2.out) HM.out.2, ((Chg.of_below HB0.out).also (Chg.of_below HB2.out)).also HM.out.2⟩
theorem act_ret (h : Pl w base b g cap l) (hr : Rf w gr l) (wh bl st er : Int) (hw : wh = 6) :
    Calls Try.prog 12 #[.pointer (some ⟨b, 0, none⟩), .slice (some ⟨gr, 0, none⟩) l.length cr, .agg #[.int .i64 wh, .int .i64 bl, .int .i64 st, .int .i64 er]] w (AcP w base b g cap (mvS (fun x => neB x.st 4) 4 0 l bl)) := by
  have b0 := below_alloc w (.cells #[.int .i64 wh, .int .i64 bl, .int .i64 st, .int .i64 er] 37)
  have hp1 := h.below b0
  have hr1 := hr.below b0
  have HB0 := Lib.hid b0
  have HP1 := Lib.hid hp1
  have HRef := Lib.hid (rRetire_any (cap := cr) hr1 h.fit bl)
  have HPool := Lib.hid (fun W (hW : Below (w.alloc (.cells #[.int .i64 wh, .int .i64 bl, .int .i64 st, .int .i64 er] 37)).heap.size (w.alloc (.cells #[.int .i64 wh, .int .i64 bl, .int .i64 st, .int .i64 er] 37)) W) => Retire_any (hp1.below hW) bl)
  generalize mvS (fun x => neB x.st 4) 4 0 l bl = l' at *
  generalize mvE (fun x => neB x.st 4) l bl = te at *
  clear h hr hp1 hr1 b0
  rcases hw with rfl
  all_goals
    go_enter Try.func12, Try.ntmps12
    go_wp2_with (first
      | ((go_at_call 32; with_reducible refine HRef.out.mono ?_); rintro e w2 ⟨gr', cr', rfl, hr2, hb2⟩; have HR2 := Lib.hid hr2; have HB2 := Lib.hid hb2; obtain ⟨x0, x1, x2, x3⟩ := box_cells hb2; clear hr2 hb2)
      | ((go_at_call 22; with_reducible refine (HPool.out _ HB2.out).mono ?_); rintro e w3 ⟨rfl, hmv⟩; have HM := Lib.hid hmv; clear hmv)
      | ((go_at_call 11; with_reducible refine (num_any _ _).mono ?_); rintro e w' ⟨rfl, rfl⟩))
    go_ret2
    exact ⟨gr', cr', rfl, HM.out.1, rf_chg HR2.out (HP1.out.below HB2.out) HM.out.2, ((Chg.of_below HB0.out).also (Chg.of_below HB2.out)).also HM.out.2⟩
theorem act_set (h : Pl w base b g cap l) (hr : Rf w gr l) (wh bl st er : Int) (h0 : ¬ wh = 0) (h1 : ¬ wh = 1) (h2 : ¬ wh = 2) (h3 : ¬ wh = 3) (h4 : ¬ wh = 4) (h5 : ¬ wh = 5) (h6 : ¬ wh = 6) :
    Calls Try.prog 12 #[.pointer (some ⟨b, 0, none⟩), .slice (some ⟨gr, 0, none⟩) l.length cr, .agg #[.int .i64 wh, .int .i64 bl, .int .i64 st, .int .i64 er]] w (AcP w base b g cap (seS l bl st er)) := by
  have b0 := below_alloc w (.cells #[.int .i64 wh, .int .i64 bl, .int .i64 st, .int .i64 er] 37)
  have hp1 := h.below b0
  have hr1 := hr.below b0
  have HB0 := Lib.hid b0
  have HP1 := Lib.hid hp1
  have HRef := Lib.hid (rSet_any (cap := cr) hr1 h.fit bl st er)
  have HPool := Lib.hid (fun W (hW : Below (w.alloc (.cells #[.int .i64 wh, .int .i64 bl, .int .i64 st, .int .i64 er] 37)).heap.size (w.alloc (.cells #[.int .i64 wh, .int .i64 bl, .int .i64 st, .int .i64 er] 37)) W) => Set_any (hp1.below hW) bl st er)
  generalize seS l bl st er = l' at *
  generalize seE l bl st er = te at *
  clear h hr hp1 hr1 b0
  have d0 : decide (wh = 0) = false := decide_eq_false h0
  have e0 : (wh == 0) = false := by simpa using h0
  have d1 : decide (wh = 1) = false := decide_eq_false h1
  have e1 : (wh == 1) = false := by simpa using h1
  have d2 : decide (wh = 2) = false := decide_eq_false h2
  have e2 : (wh == 2) = false := by simpa using h2
  have d3 : decide (wh = 3) = false := decide_eq_false h3
  have e3 : (wh == 3) = false := by simpa using h3
  have d4 : decide (wh = 4) = false := decide_eq_false h4
  have e4 : (wh == 4) = false := by simpa using h4
  have d5 : decide (wh = 5) = false := decide_eq_false h5
  have e5 : (wh == 5) = false := by simpa using h5
  have d6 : decide (wh = 6) = false := decide_eq_false h6
  have e6 : (wh == 6) = false := by simpa using h6
  all_goals
    go_enter Try.func12, Try.ntmps12
    go_wp2_with (first
      | ((go_at_call 33; with_reducible refine HRef.out.mono ?_); rintro e w2 ⟨gr', cr', rfl, hr2, hb2⟩; have HR2 := Lib.hid hr2; have HB2 := Lib.hid hb2; obtain ⟨x0, x1, x2, x3⟩ := box_cells hb2; clear hr2 hb2)
      | ((go_at_call 23; with_reducible refine (HPool.out _ HB2.out).mono ?_); rintro e w3 ⟨rfl, hmv⟩; have HM := Lib.hid hmv; clear hmv)
      | ((go_at_call 11; with_reducible refine (num_any _ _).mono ?_); rintro e w' ⟨rfl, rfl⟩))
    go_ret2
    exact ⟨gr', cr', rfl, HM.out.1, rf_chg HR2.out (HP1.out.below HB2.out) HM.out.2, ((Chg.of_below HB0.out).also (Chg.of_below HB2.out)).also HM.out.2⟩
theorem act_take (h : Pl w base b g cap l) (hr : Rf w gr l) (wh bl st er : Int) (hw : wh = 0 ∨ wh = 1) :
    Calls Try.prog 12 #[.pointer (some ⟨b, 0, none⟩), .slice (some ⟨gr, 0, none⟩) l.length cr, .agg #[.int .i64 wh, .int .i64 bl, .int .i64 st, .int .i64 er]] w (AcP w base b g cap (tkS l)) := by
  have b0 := below_alloc w (.cells #[.int .i64 wh, .int .i64 bl, .int .i64 st, .int .i64 er] 37)
  have hp1 := h.below b0
  have hr1 := hr.below b0
  have HB0 := Lib.hid b0
  have HPool := Lib.hid (Take_any hp1)
  have HRef := Lib.hid (fun W (hW : Chg (Ft b g) (w.alloc (.cells #[.int .i64 wh, .int .i64 bl, .int .i64 st, .int .i64 er] 37)) W) => rTake_any (cap := cr) (rf_chg hr1 hp1 hW) h.fit)
  unfold TkP at HPool
  unfold RT at HRef
  generalize tkS l = l' at *
  generalize tkE l = te at *
  generalize (lwc l 1).1 = j at *
  clear h hr hp1 hr1 b0
  rcases hw with rfl | rfl
  all_goals
    go_enter Try.func12, Try.ntmps12
    go_wp2_with (first
      | ((go_at_call 17; refine HPool.out.mono ?_); rintro e w2 ⟨rfl, hmv⟩; have HM := Lib.hid hmv; clear hmv)
      | ((go_at_call 29; refine (HRef.out _ HM.out.2).mono ?_); rintro e w3 ⟨gr', cr', rfl, hr2, hb2⟩; have HR2 := Lib.hid hr2; have HB2 := Lib.hid hb2; clear hr2 hb2)
      | ((go_at_call 11; with_reducible refine (num_any _ _).mono ?_); rintro e w' ⟨rfl, rfl⟩))
    go_ret2
    exact ⟨gr', cr', rfl, HM.out.1.below HB2.out, HR2.out, ((Chg.of_below HB0.out).also HM.out.2).also (Chg.of_below HB2.out)⟩
theorem act_any (h : Pl w base b g cap l) (hr : Rf w gr l) (x : KA) : Calls Try.prog 12 #[.pointer (some ⟨b, 0, none⟩), .slice (some ⟨gr, 0, none⟩) l.length cr, x.v] w (AcP w base b g cap (nx l x)) := by
  obtain ⟨wh, bl, st, er⟩ := x
  unfold nx
  dsimp only
  by_cases h1 : wh = 0 ∨ wh = 1
  · rw [if_pos h1]; exact act_take h hr wh bl st er h1
  · rw [if_neg h1]
    by_cases h2 : wh = 2 ∨ wh = 3
    · rw [if_pos h2]; exact act_close h hr wh bl st er h2
    · rw [if_neg h2]
      by_cases h3 : wh = 4 ∨ wh = 5
      · rw [if_pos h3]; exact act_rel h hr wh bl st er h3
      · rw [if_neg h3]
        by_cases h4 : wh = 6
        · rw [if_pos h4]; exact act_ret h hr wh bl st er h4
        · rw [if_neg h4]; exact act_set h hr wh bl st er (by omega) (by omega) (by omega) (by omega) (by omega) (by omega) (by omega)
end
end Go.Proofs.Ytpojgjbgbbnojaa
