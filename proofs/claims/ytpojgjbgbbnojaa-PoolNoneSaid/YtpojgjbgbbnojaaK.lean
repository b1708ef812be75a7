/- The contracts of slices.Clone and of Copy. Conditions stand in each theorem. -/
import Derived.Test.YtpojgjbgbbnojaaH
namespace Go.Proofs.Ytpojgjbgbbnojaa
open Go.RowKit
set_option linter.unusedVariables false
set_option maxHeartbeats 2000000
set_option maxRecDepth 100000
/-- The cells of blocks, as a row. -/
def rv (l : List Blk) : List Value := l.flatMap fun x => [.int .i64 x.er, .int .i64 x.st]
theorem rv_length (l : List Blk) : (rv l).length = l.length * 2 := by
  unfold rv
  induction l with
  | nil => rfl
  | cons e r ih => rw [List.flatMap_cons, List.length_append, ih]; simp; omega
theorem rv_at (l : List Blk) (j : Nat) (h : j < l.length) : (rv l)[j * 2]? = some (.int .i64 l[j].er) ∧ (rv l)[j * 2 + 1]? = some (.int .i64 l[j].st) := by
  induction l generalizing j with
  | nil => cases h
  | cons e r ih =>
    cases j with
    | zero => exact ⟨rfl, rfl⟩
    | succ j =>
      have h2 := ih j (by simpa using h)
      have key : ∀ t, (rv (e :: r))[(j + 1) * 2 + t]? = (rv r)[j * 2 + t]? := fun t => by
        show ([Value.int .i64 e.er, Value.int .i64 e.st] ++ rv r)[(j + 1) * 2 + t]? = _
        rw [List.getElem?_append_right (by simp; omega)]
        congr 1
        simp; omega
      exact ⟨(key 0).trans h2.1, (key 1).trans h2.2⟩
theorem rv_one (l : List Blk) : ∀ u ∈ rv l, u.oneCell' = true := by
  intro u hu
  obtain ⟨e, _, hu2⟩ := List.mem_flatMap.1 hu
  simp at hu2
  rcases hu2 with rfl | rfl <;> rfl
theorem Row.cells {w : World} {g cap : Nat} {l : List Blk} (h : Row w g cap l) : ∀ j u, (rv l)[j]? = some u → w.cell? ((⟨g, 0, none⟩ : Addr).add j) = some u := by
  intro j u hu
  rw [add_plain, Nat.zero_add]
  have hj : j < l.length * 2 := by
    rcases Nat.lt_or_ge j (l.length * 2) with h1 | h1
    · exact h1
    · rw [List.getElem?_eq_none (by rw [rv_length]; exact h1)] at hu; cases hu
  obtain ⟨a0, a1⟩ := h.at (i := j / 2) (by omega)
  obtain ⟨b0, b1⟩ := rv_at l (j / 2) (by omega)
  have hm : j = j / 2 * 2 ∨ j = j / 2 * 2 + 1 := by omega
  rcases hm with e | e
  · rw [e] at hu ⊢; rw [b0] at hu; exact a0.trans hu
  · rw [e] at hu ⊢; rw [b1] at hu; exact a1.trans hu
theorem row_of_rv {w : World} {base n : Nat} {v : Value} {l : List Blk} (h : w.ownsRow base 69 2 v n (rv l)) (h0 : 0 < n) : ∃ g cap, v = .slice (some ⟨g, 0, none⟩) n cap ∧ base ≤ g ∧ n = l.length ∧ Row w g cap l := by
  have hn : n = l.length := by have := h.1; rw [rv_length] at this; omega
  rcases h.2 with ⟨_, e⟩ | ⟨g, cap, cur, rfl, hb, hg, hnc, hcm, hcs, ht⟩
  · omega
  · refine ⟨g, cap, rfl, hb, hn, cur, hg, by omega, hcm, hcs, fun i hi => ?_⟩
    obtain ⟨e1, e2⟩ := rv_at l i hi
    have key : ∀ t u, t < n * 2 → (rv l)[t]? = some u → cur[t]? = some u := fun t u htn hu => by
      rw [← ht, List.getElem?_take_of_lt htn] at hu
      simpa using hu
    exact ⟨key _ _ (by omega) e1, key _ _ (by omega) e2⟩
theorem Clone_nil (w : World) : Calls Try.prog 37 #[.slice none 0 0] w fun e w' => e = .returned (.slice none 0 0) ∧ w = w' := by
  have hq : ∀ (w : World) (a : Option Addr) (n c n' c' : Nat), (binOp .eql 48 (.slice a n c) (.slice none n' c')).run Try.prog w = .ok (.bool a.isNone) w := fun w a n c n' c' => Lib.run_eql_slice_nil w _ _ a n c n' c' Try.underlying48
  go_enter Try.func37, Try.ntmps37
  go_wp2
  go_ret
  exact ⟨rfl, rfl⟩
def ClP (w : World) (l : List Blk) (e : Ending) (w' : World) : Prop := ∃ g' cap', e = .returned (.slice (some ⟨g', 0, none⟩) l.length cap') ∧ w.heap.size ≤ g' ∧ Row w' g' cap' l ∧ Below w.heap.size w w'
theorem Clone_any {w : World} {g cap : Nat} {l : List Blk} (h : Row w g cap l) (h0 : 0 < l.length) (h1 : l.length ≤ 4096) : Calls Try.prog 37 #[.slice (some ⟨g, 0, none⟩) l.length cap] w (ClP w l) := by
  have hq : ∀ (w : World) (a : Option Addr) (n c n' c' : Nat), (binOp .eql 48 (.slice a n c) (.slice none n' c')).run Try.prog w = .ok (.bool a.isNone) w := fun w a n c n' c' => Lib.run_eql_slice_nil w _ _ a n c n' c' Try.underlying48
  obtain ⟨i69, hi69, hz0, hz1, hz2⟩ := info_parts info69
  have hr2 := h.below (below_alloc w (.cells #[] 69))
  obtain ⟨ga, capa, w2, hrun, hown2, hgrow, hlies, _⟩ := run_append_lies (P := Try.prog) (w.alloc (.cells #[] 69)) 48 48 w.heap.size 69 i69 _ 2 16 Try.underlying48 hi69 hz0 hz1 hz2 rfl (by decide) (.slice (some ⟨w.heap.size, 0, none⟩) 0 0) 0 [] (World.ownsRow_made w #[] 0 (Nat.le_refl _) (Nat.zero_le _) (by simp)) ⟨g, 0, none⟩ l.length cap (rv l) (rv_length l) hr2.cells (rv_one l) h0 (by unfold maxLen; omega) (by omega) (by simp) (w.heap.size + 1) (by simp)
  rw [Nat.zero_add] at hrun hown2
  obtain ⟨g', cap', he, hg', _, hrow⟩ := row_of_rv (l := l) (by simpa using hown2) h0
  simp only [Value.slice.injEq, Option.some.injEq, Addr.mk.injEq] at he
  obtain ⟨⟨rfl, _⟩, _, rfl⟩ := he
  have hfin : ClP w l (.returned (.slice (some ⟨ga, 0, none⟩) l.length capa)) w2 := ⟨ga, capa, rfl, hg', hrow, ((Below.refl _ w).alloc (Nat.le_refl _) _).grown hgrow (by simp) (by intro k hk; simp [Value.ownBlock] at hk; omega)⟩
  have Hrun := Lib.hid hrun
  have HF := Lib.hid hfin
  clear hr2 hrun hown2 hgrow hlies hrow hfin hg' h
  go_enter Try.func37, Try.ntmps37
  go_wp2_with (at_builtin; refine wpList_append_run rfl (.tmp 5) (.tmp 6) 48 48 rfl _ _ _ w2 rfl rfl Hrun.out ?_)
  go_ret
  exact HF.out
/-- What Copy leaves: another pool. -/
def CpP (w : World) (l : List Blk) (e : Ending) (w' : World) : Prop := ∃ b' g' cap', e = .returned (.pointer (some ⟨b', 0, none⟩)) ∧ Pl w' w.heap.size b' g' cap' l ∧ Below w.heap.size w w'
def HeadAt (W : World) (b g cap : Nat) (l : List Blk) : Prop := W.cell? ⟨b, 0, none⟩ = some (.slice (some ⟨g, 0, none⟩) l.length cap) ∧ W.cell? ⟨b, 1, none⟩ = some (.int .i64 (cnt l 0)) ∧ W.cell? ⟨b, 2, none⟩ = some (.int .i64 (cnt l 1)) ∧ W.cell? ⟨b, 3, none⟩ = some (.int .i64 (cnt l 2)) ∧ W.cell? ⟨b, 4, none⟩ = some (.int .i64 (cnt l 3)) ∧ W.cell? ⟨b, 5, none⟩ = some (.int .i64 (cnt l 4))
theorem Pl.head {w : World} {base b g cap : Nat} {l : List Blk} (h : Pl w base b g cap l) : HeadAt w b g cap l :=
  ⟨h.c0, h.cs (s := 0) (by decide), h.cs (s := 1) (by decide), h.cs (s := 2) (by decide), h.cs (s := 3) (by decide), h.cs (s := 4) (by decide)⟩
theorem HeadAt.keep {w W : World} {b g cap : Nat} {l : List Blk} (h : HeadAt w b g cap l) (hb : b < w.heap.size) (hW : Bel w W) : HeadAt W b g cap l := by
  have e : ∀ o, W.cell? ⟨b, o, none⟩ = w.cell? ⟨b, o, none⟩ := fun o => hW.cell hb
  unfold HeadAt
  rw [e, e, e, e, e, e]
  exact h
theorem copy_fin {w W : World} {l : List Blk} {g' cap' : Nat} (hf : Fit l) (hr : w.heap.size ≤ g' ∧ Row W g' cap' l) (hb : Bel w W) :
    CpP w l (.returned (.pointer (some ⟨W.heap.size, 0, none⟩))) (W.alloc (.cells (plCells g' cap' l) 51)) :=
  ⟨W.heap.size, g', cap', rfl, ⟨heap_alloc_new W _, hr.2.below (below_alloc W _), Below.size hb, hr.1, hf⟩, Below.alloc hb (Below.size hb) _⟩
theorem CpP.drew {w W : World} {l : List Blk} {e : Ending} (h : CpP w l e W) : CpP w l e W.drew := by
  obtain ⟨b', g', cap', h1, h2, h3⟩ := h
  exact ⟨b', g', cap', h1, ⟨h2.blk, h2.row, h2.hb, h2.hg, h2.fit⟩, h3.drew⟩
theorem s_alloc {w W : World} {b g cap : Nat} {l : List Blk} (hlt : b < w.heap.size) (o : Obj) (h : Bel w W ∧ W.cell? ⟨b, 0, none⟩ = some (.slice (some ⟨g, 0, none⟩) l.length cap) ∧ W.cell? ⟨b, 1, none⟩ = some (.int .i64 (cnt l 0)) ∧ W.cell? ⟨b, 2, none⟩ = some (.int .i64 (cnt l 1)) ∧ W.cell? ⟨b, 3, none⟩ = some (.int .i64 (cnt l 2)) ∧ W.cell? ⟨b, 4, none⟩ = some (.int .i64 (cnt l 3)) ∧ W.cell? ⟨b, 5, none⟩ = some (.int .i64 (cnt l 4))) :
    Bel w (W.alloc o) ∧ (W.alloc o).cell? ⟨b, 0, none⟩ = some (.slice (some ⟨g, 0, none⟩) l.length cap) ∧ (W.alloc o).cell? ⟨b, 1, none⟩ = some (.int .i64 (cnt l 0)) ∧ (W.alloc o).cell? ⟨b, 2, none⟩ = some (.int .i64 (cnt l 1)) ∧ (W.alloc o).cell? ⟨b, 3, none⟩ = some (.int .i64 (cnt l 2)) ∧ (W.alloc o).cell? ⟨b, 4, none⟩ = some (.int .i64 (cnt l 3)) ∧ (W.alloc o).cell? ⟨b, 5, none⟩ = some (.int .i64 (cnt l 4)) :=
  ⟨Bel.trans h.1 (below_alloc W o), HeadAt.keep (w := W) h.2 (Nat.lt_of_lt_of_le hlt (Below.size h.1)) (below_alloc W o)⟩
theorem Copy_any {w : World} {base b g cap : Nat} {l : List Blk} (h : Pl w base b g cap l) : Calls Try.prog 16 #[.pointer (some ⟨b, 0, none⟩)] w (CpP w l) := by
  have H := Lib.hid h
  have HF := Lib.hid h.fit
  have HC := Lib.hid (fun W (hW : Bel w W ∧ W.cell? ⟨b, 0, none⟩ = some (.slice (some ⟨g, 0, none⟩) l.length cap) ∧ W.cell? ⟨b, 1, none⟩ = some (.int .i64 (cnt l 0)) ∧ W.cell? ⟨b, 2, none⟩ = some (.int .i64 (cnt l 1)) ∧ W.cell? ⟨b, 3, none⟩ = some (.int .i64 (cnt l 2)) ∧ W.cell? ⟨b, 4, none⟩ = some (.int .i64 (cnt l 3)) ∧ W.cell? ⟨b, 5, none⟩ = some (.int .i64 (cnt l 4))) =>
    (show Calls Try.prog 37 #[.slice (some ⟨g, 0, none⟩) l.length cap] W fun e w' => ∃ g' cap', e = .returned (.slice (some ⟨g', 0, none⟩) l.length cap') ∧ (w.heap.size ≤ g' ∧ Row w' g' cap' l) ∧ Bel w w' ∧ w'.cell? ⟨b, 0, none⟩ = some (.slice (some ⟨g, 0, none⟩) l.length cap) ∧ w'.cell? ⟨b, 1, none⟩ = some (.int .i64 (cnt l 0)) ∧ w'.cell? ⟨b, 2, none⟩ = some (.int .i64 (cnt l 1)) ∧ w'.cell? ⟨b, 3, none⟩ = some (.int .i64 (cnt l 2)) ∧ w'.cell? ⟨b, 4, none⟩ = some (.int .i64 (cnt l 3)) ∧ w'.cell? ⟨b, 5, none⟩ = some (.int .i64 (cnt l 4)) from
      (Clone_any (h.row.below hW.1) h.fit.pos h.fit.len).mono fun e w' hc => by
        obtain ⟨g', cap', h1, h2, h3, h4⟩ := hc
        exact ⟨g', cap', h1, ⟨Nat.le_trans (Below.size hW.1) h2, h3⟩, Bel.trans hW.1 h4, (h.head).keep h.lt (Bel.trans hW.1 h4)⟩))
  have HS := Lib.hid (show Bel w w ∧ w.cell? ⟨b, 0, none⟩ = some (.slice (some ⟨g, 0, none⟩) l.length cap) ∧ w.cell? ⟨b, 1, none⟩ = some (.int .i64 (cnt l 0)) ∧ w.cell? ⟨b, 2, none⟩ = some (.int .i64 (cnt l 1)) ∧ w.cell? ⟨b, 3, none⟩ = some (.int .i64 (cnt l 2)) ∧ w.cell? ⟨b, 4, none⟩ = some (.int .i64 (cnt l 3)) ∧ w.cell? ⟨b, 5, none⟩ = some (.int .i64 (cnt l 4)) from ⟨Bel.refl w, h.head⟩)
  have HSD := Lib.hid (show Bel w w.drew ∧ w.drew.cell? ⟨b, 0, none⟩ = some (.slice (some ⟨g, 0, none⟩) l.length cap) ∧ w.drew.cell? ⟨b, 1, none⟩ = some (.int .i64 (cnt l 0)) ∧ w.drew.cell? ⟨b, 2, none⟩ = some (.int .i64 (cnt l 1)) ∧ w.drew.cell? ⟨b, 3, none⟩ = some (.int .i64 (cnt l 2)) ∧ w.drew.cell? ⟨b, 4, none⟩ = some (.int .i64 (cnt l 3)) ∧ w.drew.cell? ⟨b, 5, none⟩ = some (.int .i64 (cnt l 4)) from ⟨(Bel.refl w).drew, h.head⟩)
  clear h
  go_enter Try.func16, Try.ntmps16
  go_wp2_with ((go_at_call 41; with_reducible refine (missing_any H.out).mono ?_); rintro e w' ⟨rfl, rfl⟩)
  go_region_held3 (fun W => Bel w W ∧ W.cell? ⟨b, 0, none⟩ = some (.slice (some ⟨g, 0, none⟩) l.length cap) ∧ W.cell? ⟨b, 1, none⟩ = some (.int .i64 (cnt l 0)) ∧ W.cell? ⟨b, 2, none⟩ = some (.int .i64 (cnt l 1)) ∧ W.cell? ⟨b, 3, none⟩ = some (.int .i64 (cnt l 2)) ∧ W.cell? ⟨b, 4, none⟩ = some (.int .i64 (cnt l 3)) ∧ W.cell? ⟨b, 5, none⟩ = some (.int .i64 (cnt l 4))) (first | assumption | exact HSD.out | exact HS.out | exact s_alloc H.out.lt _ (by assumption))
    (first | ((go_at_call 37; with_reducible refine (HC.out _ (by assumption)).mono ?_); rintro e w' ⟨g', cap', rfl, hrow, hw'⟩; have HR := Lib.hid hrow))
  go_wp2
  go_ret
  exact copy_fin HF.out HR.out hw'.1
end Go.Proofs.Ytpojgjbgbbnojaa
