/- The contracts of require and entry. Conditions stand in each theorem. -/
import Derived.Test.YteiemegkdnjpgaaQT
import Derived.Defers
import Derived.Recover
import Derived.Laws.Pointers
import Derived.WalkLawsBesides
namespace Go.Proofs.Yteiemegkdnjpgaa
open Go.RowKit
set_option linter.unusedVariables false
set_option maxHeartbeats 2000000
set_option maxRecDepth 100000
/-- The two cells of an entry. -/
def XAt (w : World) (x : Nat) (q g : Int) : Prop := w.heap[x]? = some (.cells #[.int .i64 q, .int .i64 g] 50 (0, 0))
theorem XAt.below {w w' : World} {x : Nat} {q g : Int} (h : XAt w x q g) (hb : Below w.heap.size w w') : XAt w' x q g := (hb.block _ (Array.getElem?_eq_some_iff.1 h).1).trans h
theorem XAt.lt {w : World} {x : Nat} {q g : Int} (h : XAt w x q g) : x < w.heap.size := (Array.getElem?_eq_some_iff.1 h).1
theorem XAt.c0 {w : World} {x : Nat} {q g : Int} (h : XAt w x q g) : w.cell? ⟨x, 0, none⟩ = some (.int .i64 q) := by rw [cell_of_row w x 0 _ _ _ h]; rfl
theorem XAt.c1 {w : World} {x : Nat} {q g : Int} (h : XAt w x q g) : w.cell? ⟨x, 1, none⟩ = some (.int .i64 g) := by rw [cell_of_row w x 1 _ _ _ h]; rfl
theorem XAt.new (w : World) (q g : Int) : XAt (w.alloc (.cells #[.int .i64 q, .int .i64 g] 50)) w.heap.size q g := heap_alloc_new w _
section
variable {w w' : World} {base bb m1 m2 g cap s b p : Nat} {L : List (Int × Int)}
/-- How require ends. -/
def ReqP (w : World) (E : Int) (e : Ending) (w' : World) : Prop := Below w.heap.size w w' ∧ ((E = 0 ∧ e = .returned (.tuple #[])) ∨ (E ≠ 0 ∧ e = .panicked [{ v := .iface 24 (.int .i64 E), recovered := false }]))
theorem reqE_cases (L : List (Int × Int)) (q x : Int) : (¬ (0 ≤ q ∧ q < s) ∧ reqE s b p L q x = 3) ∨ ((0 ≤ q ∧ q < s) ∧ x ≠ -1 ∧ ¬ (0 ≤ x ∧ x < ((b * p : Nat) : Int)) ∧ reqE s b p L q x = 3) ∨
    ((0 ≤ q ∧ q < s) ∧ (x = -1 ∨ (x ≠ -1 ∧ 0 ≤ x ∧ x < ((b * p : Nat) : Int))) ∧ ((look (flip L) x = none ∧ reqE s b p L q x = 0) ∨ (look (flip L) x = some q ∧ reqE s b p L q x = 0) ∨ (∃ k, look (flip L) x = some k ∧ k ≠ q ∧ reqE s b p L q x = 11))) := by
  unfold reqE
  by_cases h1 : 0 ≤ q ∧ q < (s : Int)
  · by_cases h2 : x = -1
    · right; right
      refine ⟨h1, .inl h2, ?_⟩
      rw [if_neg (by omega)]
      cases e : look (flip L) x with
      | none => exact .inl ⟨rfl, rfl⟩
      | some k =>
        by_cases hk : k = q
        · subst hk; exact .inr (.inl ⟨rfl, by simp⟩)
        · exact .inr (.inr ⟨k, rfl, hk, by simp [hk]⟩)
    · by_cases h3 : 0 ≤ x ∧ x < ((b * p : Nat) : Int)
      · right; right
        refine ⟨h1, .inr ⟨h2, h3⟩, ?_⟩
        rw [if_neg (by omega)]
        cases e : look (flip L) x with
        | none => exact .inl ⟨rfl, rfl⟩
        | some k =>
          by_cases hk : k = q
          · subst hk; exact .inr (.inl ⟨rfl, by simp⟩)
          · exact .inr (.inr ⟨k, rfl, hk, by simp [hk]⟩)
      · exact .inr (.inl ⟨h1, h2, h3, if_pos (by omega)⟩)
  · exact .inl ⟨h1, if_pos (by omega)⟩
theorem require_any (h : Mg w base bb m1 m2 g cap s b p L) {q x : Int} (hq : I64 q) (hx : I64 x) : Calls Try.prog 34 #[.pointer (some ⟨bb, 0, none⟩), .agg #[.int .i64 q, .int .i64 x]] w (ReqP w (reqE s b p L q x)) := by
  have b0 := below_alloc w (.cells #[.int .i64 q, .int .i64 x] 50)
  have HM := Lib.hid (h.below b0)
  have HX := Lib.hid (XAt.new w q x)
  have HQ := Lib.hid hq
  have HXX := Lib.hid hx
  have HS := Lib.hid (fun W => hasSector_any s b p q W h.fit.hs.2)
  have HP := Lib.hid (fun W => hasPage_any s b p x W h.fit.hb.2 h.fit.hp.2)
  have HBel := Lib.hid b0
  have hcs := reqE_cases (s := s) (b := b) (p := p) L q x
  have hne := gw_ne (w.alloc (.cells #[.int .i64 q, .int .i64 x] 50))
  have HC := Lib.hid (fun W : Gw (w.alloc (.cells #[.int .i64 q, .int .i64 x] 50)) => (HM.out.below W.h).cells)
  have k0 := fun W => (HC.out W).1
  have k1 := fun W => (HC.out W).2.1
  have k2 := fun W => (HC.out W).2.2.1
  have x0 := fun W : Gw (w.alloc (.cells #[.int .i64 q, .int .i64 x] 50)) => (HX.out.below W.h).c0
  have x1 := fun W : Gw (w.alloc (.cells #[.int .i64 q, .int .i64 x] 50)) => (HX.out.below W.h).c1
  clear h hq hx b0
  rcases hcs with ⟨h1, he⟩ | ⟨h1, h2, h3, he⟩ | ⟨h1, h2, h3⟩
  · rw [he]
    have hd : decide (0 ≤ q ∧ q < (s : Int)) = false := decide_eq_false h1
    rw [hd] at HS
    clear hd h1 he
    go_enter Try.func34, Try.ntmps34
    go_wp2
    refine wp_region_gw (by kernel_rfl) (by kernel_rfl) ?_
    repeat (go_big_quiet_step (first | (go_at_call 47; exact gw_of _ (HS.out _)) | (go_at_call 48; exact gw_of _ (HP.out _))))
    refine wpQuiet_nil ?_
    rintro _ ⟨⟨w6, hb6⟩, rfl⟩
    have HB6 := Lib.hid (HBel.out.trans (hb6.mono HBel.out.size))
    clear hb6
    go_wp2
    exact ⟨rfl, HB6.out, .inr ⟨by decide, rfl⟩⟩
  · rw [he]
    have hd : decide (0 ≤ q ∧ q < (s : Int)) = true := decide_eq_true h1
    have hd2 : decide (0 ≤ x ∧ x < ((b * p : Nat) : Int)) = false := decide_eq_false h3
    have e2 : decide (x = -1) = false := decide_eq_false h2
    have e3 : (x == -1) = false := by rw [beq_eq_false_iff_ne]; exact h2
    have e4 : (x != -1) = true := by rw [bne_iff_ne]; exact h2
    rw [hd] at HS
    rw [hd2] at HP
    clear hd hd2 h1 he h3
    go_enter Try.func34, Try.ntmps34
    go_wp2
    refine wp_region_gw (by kernel_rfl) (by kernel_rfl) ?_
    repeat (go_big_quiet_step (first | (go_at_call 47; exact gw_of _ (HS.out _)) | (go_at_call 48; exact gw_of _ (HP.out _))))
    refine wpQuiet_nil ?_
    rintro _ ⟨⟨w6, hb6⟩, rfl⟩
    have HB6 := Lib.hid (HBel.out.trans (hb6.mono HBel.out.size))
    clear hb6
    go_wp2
    exact ⟨rfl, HB6.out, .inr ⟨by decide, rfl⟩⟩
  · have hd : decide (0 ≤ q ∧ q < (s : Int)) = true := decide_eq_true h1
    rw [hd] at HS
    clear hd h1
    rcases h2 with rfl | ⟨h2, h4⟩
    all_goals first
      | (have e2 : decide (x = -1) = false := decide_eq_false h2
         have e3 : (x == -1) = false := by rw [beq_eq_false_iff_ne]; exact h2
         have e4 : (x != -1) = true := by rw [bne_iff_ne]; exact h2
         have hd2 : decide (0 ≤ x ∧ x < ((b * p : Nat) : Int)) = true := decide_eq_true h4
         rw [hd2] at HP
         clear hd2 h4)
      | skip
    all_goals
      have HV := Lib.hid h3
      clear h3
      go_enter Try.func34, Try.ntmps34
      go_wp2
      refine wp_region_gw (by kernel_rfl) (by kernel_rfl) ?_
      repeat (go_big_quiet_step (first | (go_at_call 47; exact gw_of _ (HS.out _)) | (go_at_call 48; exact gw_of _ (HP.out _))))
      refine wpQuiet_nil ?_
      rintro _ ⟨⟨w6, hb6⟩, rfl⟩
      have HB6 := Lib.hid (HBel.out.trans (hb6.mono HBel.out.size))
      have HM6 := Lib.hid (HM.out.below hb6)
      have HX6 := Lib.hid (HX.out.below hb6)
      have y0 := HX6.out.c0
      have y1 := HX6.out.c1
      clear hb6 k0 k1 k2 x0 x1
      rcases HV.out with ⟨e1, e0⟩ | ⟨e1, e0⟩ | ⟨k, e1, hk, e0⟩
      · have H0 := Lib.hid e0
        have H1 := Lib.hid e1
        clear e1 e0
        go_wp2_with (((go_at_call 23; with_reducible refine (Sector_any HM6.out HXX.out).mono ?_); rintro e w7 ⟨he, hb7⟩; rw [H1.out] at he; subst he; have HB7 := Lib.hid (HB6.out.trans (hb7.mono HB6.out.size)); have z0 := (HX6.out.below hb7).c0; clear hb7))
        go_end0
        exact ⟨HB7.out, .inl ⟨H0.out, rfl⟩⟩
      · have H0 := Lib.hid e0
        have H1 := Lib.hid e1
        clear e1 e0
        go_wp2_with (((go_at_call 23; with_reducible refine (Sector_any HM6.out HXX.out).mono ?_); rintro e w7 ⟨he, hb7⟩; rw [H1.out] at he; subst he; have HB7 := Lib.hid (HB6.out.trans (hb7.mono HB6.out.size)); have z0 := (HX6.out.below hb7).c0; clear hb7))
        go_end0
        exact ⟨HB7.out, .inl ⟨H0.out, rfl⟩⟩
      · have H0 := Lib.hid e0
        have H1 := Lib.hid e1
        have d1 : decide (k = q) = false := decide_eq_false hk
        have d2 : (k == q) = false := by rw [beq_eq_false_iff_ne]; exact hk
        have d3 : (k != q) = true := by rw [bne_iff_ne]; exact hk
        clear e1 e0
        go_wp2_with (((go_at_call 23; with_reducible refine (Sector_any HM6.out HXX.out).mono ?_); rintro e w7 ⟨he, hb7⟩; rw [H1.out] at he; subst he; have HB7 := Lib.hid (HB6.out.trans (hb7.mono HB6.out.size)); have z0 := (HX6.out.below hb7).c0; clear hb7))
        exact ⟨rfl, HB7.out, .inr ⟨by rw [H0.out]; decide, by rw [H0.out]⟩⟩
/-- What entry hands back. -/
theorem entry_any (h : Mg w base bb m1 m2 g cap s b p L) {q : Int} (hq : I64 q) : Calls Try.prog 35 #[.pointer (some ⟨bb, 0, none⟩), .int .i64 q] w fun e w' => e = .returned (.agg #[.int .i64 q, .int .i64 (old L q)]) ∧ Below w.heap.size w w' := by
  have b0 := below_alloc w (.cells #[.int .i64 0, .int .i64 0] 50)
  have HA := Lib.hid (At_any (h.below b0) hq)
  have HB0 := Lib.hid b0
  have HX := Lib.hid (XAt.new w 0 0)
  clear h b0
  unfold old
  cases hl : look L q with
  | none =>
    rw [hl] at HA
    clear hl
    go_enter Try.func35, Try.ntmps35
    go_wp2_with (((go_at_call 22; with_reducible refine HA.out.mono ?_); rintro e w7 ⟨rfl, hb7⟩; have HB7 := Lib.hid (HB0.out.trans (hb7.mono HB0.out.size)); have z0 := (HX.out.below hb7).c0; have z1 := (HX.out.below hb7).c1; have HX7 := Lib.hid (HX.out.below hb7); have f0 := frozen_of_row w7 w.heap.size 0 _ _ HX7.out; have f1 := frozen_of_row w7 w.heap.size 1 _ _ HX7.out; clear hb7))
    refine bodyPost_ret (results_cell_row rfl _ _ w.heap.size 50 #[.int .i64 q, .int .i64 (-1)] (0, 0) _ rfl (heap_setCell_same _ _ _ _ _ _ (heap_setCell_same _ _ _ _ _ _ HX7.out)) Try.underlying50 rfl (by kernel_rfl)) rfl ⟨rfl, ?_⟩
    exact (HB7.out.setCell (Nat.le_refl _) _).setCell (Nat.le_refl _) _
  | some k =>
    rw [hl] at HA
    clear hl
    go_enter Try.func35, Try.ntmps35
    go_wp2_with (((go_at_call 22; with_reducible refine HA.out.mono ?_); rintro e w7 ⟨rfl, hb7⟩; have HB7 := Lib.hid (HB0.out.trans (hb7.mono HB0.out.size)); have z0 := (HX.out.below hb7).c0; have z1 := (HX.out.below hb7).c1; have HX7 := Lib.hid (HX.out.below hb7); have f0 := frozen_of_row w7 w.heap.size 0 _ _ HX7.out; have f1 := frozen_of_row w7 w.heap.size 1 _ _ HX7.out; clear hb7))
    refine bodyPost_ret (results_cell_row rfl _ _ w.heap.size 50 #[.int .i64 q, .int .i64 k] (0, 0) _ rfl (heap_setCell_same _ _ _ _ _ _ (heap_setCell_same _ _ _ _ _ _ HX7.out)) Try.underlying50 rfl (by kernel_rfl)) rfl ⟨rfl, ?_⟩
    exact (HB7.out.setCell (Nat.le_refl _) _).setCell (Nat.le_refl _) _
end
end Go.Proofs.Yteiemegkdnjpgaa
