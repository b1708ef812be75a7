/- The contracts of slices.Clone, maps.Clone and Copy. Conditions stand in each theorem. -/
import Derived.Test.YteiemegkdnjpgaaYV
import Derived.Test.YteiemegkdnjpgaaLay
namespace Go.Proofs.Yteiemegkdnjpgaa
open Go.RowKit Go.Shelf
set_option linter.unusedVariables false
set_option maxHeartbeats 4000000
set_option maxRecDepth 100000
/-- The cells of counts, as a row. -/
def iv (n : Nat) (u : Nat → Int) : List Value := (List.range n).map fun i => .int .i64 (u i)
theorem iv_length (n : Nat) (u : Nat → Int) : (iv n u).length = n := by simp [iv]
theorem iv_at (n : Nat) (u : Nat → Int) (j : Nat) (h : j < n) : (iv n u)[j]? = some (.int .i64 (u j)) := by simp [iv, h]
theorem iv_one (n : Nat) (u : Nat → Int) : ∀ v ∈ iv n u, v.oneCell' = true := by
  intro v hv
  obtain ⟨i, _, rfl⟩ := List.mem_map.1 hv
  rfl
theorem RowI.below {w w' : World} {g cap n : Nat} {u : Nat → Int} (h : RowI w g cap n u) (hb : Below w.heap.size w w') : RowI w' g cap n u := h.keep (hb.block g h.lt)
theorem row_of_iv {w : World} {base n : Nat} {v : Value} {u : Nat → Int} (h : w.ownsRow base 3 1 v n (iv n u)) (h0 : 0 < n) : ∃ g cap, v = .slice (some ⟨g, 0, none⟩) n cap ∧ base ≤ g ∧ RowI w g cap n u := by
  rcases h.2 with ⟨_, e⟩ | ⟨g, cap, cur, rfl, hb, hg, hnc, hcm, hcs, ht⟩
  · omega
  · refine ⟨g, cap, rfl, hb, cur, hg, hnc, hcm, by omega, fun i hi => ?_⟩
    have e := iv_at n u i hi
    rw [← ht, List.getElem?_take_of_lt (by omega)] at e
    simpa using e
def ClI (w : World) (n : Nat) (u : Nat → Int) (e : Ending) (w' : World) : Prop := ∃ g' cap', e = .returned (.slice (some ⟨g', 0, none⟩) n cap') ∧ w.heap.size ≤ g' ∧ RowI w' g' cap' n u ∧ Below w.heap.size w w'
theorem CloneI_any {w : World} {g cap n : Nat} {u : Nat → Int} (h : RowI w g cap n u) (h0 : 0 < n) (h1 : n ≤ 4096) : Calls Try.prog 43 #[.slice (some ⟨g, 0, none⟩) n cap] w (ClI w n u) := by
  have hq : ∀ (w : World) (a : Option Addr) (n c n' c' : Nat), (binOp .eql 54 (.slice a n c) (.slice none n' c')).run Try.prog w = .ok (.bool a.isNone) w := fun w a n c n' c' => Lib.run_eql_slice_nil w _ _ a n c n' c' Try.underlying54
  obtain ⟨i3, hi3, hz0, hz1, hz2⟩ := info_parts3
  have hr2 := h.below (below_alloc w (.cells #[] 3))
  have hcells : ∀ j v, (iv n u)[j]? = some v → (w.alloc (.cells #[] 3)).cell? ((⟨g, 0, none⟩ : Addr).add j) = some v := by
    intro j v hv
    have hj : j < n := by
      rcases Nat.lt_or_ge j n with h2 | h2
      · exact h2
      · rw [List.getElem?_eq_none (by rw [iv_length]; exact h2)] at hv; cases hv
    rw [iv_at n u j hj] at hv
    rw [add_plain, Nat.zero_add, ← hv]
    exact hr2.at hj
  obtain ⟨ga, capa, w2, hrun, hown2, hgrow, hlies, _⟩ := run_append_lies (P := Try.prog) (ty := 54) (w.alloc (.cells #[] 3)) 54 w.heap.size 3 i3 _ 1 8 Try.underlying54 hi3 hz0 hz1 hz2 rfl (by decide) (.slice (some ⟨w.heap.size, 0, none⟩) 0 0) 0 [] (World.ownsRow_made w #[] 0 (Nat.le_refl _) (Nat.zero_le _) (by simp)) ⟨g, 0, none⟩ n cap (iv n u) (by rw [iv_length]; omega) hcells (iv_one n u) h0 (by unfold maxLen; omega) (by omega) (by simp) (w.heap.size + 1) (by simp)
  rw [Nat.zero_add] at hrun hown2
  obtain ⟨g', cap', he, hg', hrow⟩ := row_of_iv (u := u) (by simpa using hown2) h0
  simp only [Value.slice.injEq, Option.some.injEq, Addr.mk.injEq] at he
  obtain ⟨⟨rfl, _⟩, _, rfl⟩ := he
  have hfin : ClI w n u (.returned (.slice (some ⟨ga, 0, none⟩) n capa)) w2 := ⟨ga, capa, rfl, hg', hrow, ((Below.refl _ w).alloc (Nat.le_refl _) _).grown hgrow (by simp) (by intro k hk; simp [Value.ownBlock] at hk; omega)⟩
  have Hrun := Lib.hid hrun
  have HF := Lib.hid hfin
  clear hr2 hrun hown2 hgrow hlies hrow hfin hg' h hcells
  go_enter Try.func43, Try.ntmps43
  go_wp2_with (at_builtin; refine wpList_append_run rfl (.tmp 5) (.tmp 6) 54 54 rfl _ _ _ w2 rfl rfl Hrun.out ?_)
  go_ret
  exact HF.out
theorem CloneM_any {w : World} {m n : Nat} {f : Int → Option Int} (h : Mp w m n f) : Calls Try.prog 42 #[.map (some m)] w fun e w' => ∃ m', e = .returned (.map (some m')) ∧ w.heap.size ≤ m' ∧ m' < w'.heap.size ∧ Mp w' m' n f ∧ Below w.heap.size w w' := by
  obtain ⟨es, c, hb⟩ := h.isMap
  exact (show Calls Try.prog 42 _ _ _ from AnyW.maps_Clone cloneA m es c w hb).mono fun e w' ⟨h1, h2⟩ => by
    subst h2
    exact ⟨_, h1, Nat.le_refl _, by simp, h.moved (by rw [heap_alloc_new, hb]), below_alloc w _⟩
/-- What Copy leaves: another mapping. -/
def CpP (w : World) (s b p : Nat) (L : List (Int × Int)) (e : Ending) (w' : World) : Prop := ∃ bb m1 m2 g cap, e = .returned (.pointer (some ⟨bb, 0, none⟩)) ∧ Mg w' w.heap.size bb m1 m2 g cap s b p L ∧ Below w.heap.size w w'
/-- The mapping's own cells. -/
def Hd (W : World) (bb m1 m2 g cap s b p : Nat) : Prop := W.cell? ⟨bb, 0, none⟩ = some (.int .i64 (s : Int)) ∧ W.cell? ⟨bb, 1, none⟩ = some (.int .i64 (b : Int)) ∧ W.cell? ⟨bb, 2, none⟩ = some (.int .i64 (p : Int)) ∧ W.cell? ⟨bb, 3, none⟩ = some (.map (some m1)) ∧ W.cell? ⟨bb, 4, none⟩ = some (.map (some m2)) ∧ W.cell? ⟨bb, 5, none⟩ = some (.slice (some ⟨g, 0, none⟩) b cap)
theorem copy_fin {w w1 W3 W4 W5 : World} {m1 m2 g cap s b p : Nat} {L : List (Int × Int)} (hf : Fits s b p L) (hb0 : Below w.heap.size w w1) (hb3 : Below w1.heap.size w1 W3) (hb4 : Below W3.heap.size W3 W4) (hb5 : Below W4.heap.size W4 W5)
    (h1 : (w1.heap.size ≤ m1 ∧ m1 < W3.heap.size) ∧ Mp W3 m1 L.length (look L)) (h2 : (W3.heap.size ≤ m2 ∧ m2 < W4.heap.size) ∧ Mp W4 m2 L.length (look (flip L))) (h3 : W4.heap.size ≤ g ∧ RowI W5 g cap b (fun k => cntB p L k)) :
    CpP w s b p L (.returned (.pointer (some ⟨W5.heap.size, 0, none⟩))) (W5.alloc (.cells (mgCells s b p m1 m2 g cap) 56)) := by
  have s0 := hb0.size
  have s3 := hb3.size
  have s4 := hb4.size
  have s5 := hb5.size
  have b5 := below_alloc W5 (.cells (mgCells s b p m1 m2 g cap) 56)
  refine ⟨W5.heap.size, m1, m2, g, cap, rfl, ⟨heap_alloc_new W5 _, ((h1.2.below hb4).below hb5).below b5, (h2.2.below hb5).below b5, h3.2.below b5, by omega, by omega, by omega, by omega, by omega, hf⟩, ?_⟩
  exact (((hb0.trans (hb3.mono (by omega))).trans (hb4.mono (by omega))).trans (hb5.mono (by omega))).trans (b5.mono (by omega))
theorem Copy_any {w : World} {base bb m1 m2 g cap s b p : Nat} {L : List (Int × Int)} (h : Mg w base bb m1 m2 g cap s b p L) : Calls Try.prog 18 #[.pointer (some ⟨bb, 0, none⟩)] w (CpP w s b p L) := by
  have HMS := Lib.hid (missing_any h)
  have H := Lib.hid h
  have HF := Lib.hid h.fit
  clear h
  go_enter Try.func18, Try.ntmps18
  go_upto_region 3 with ((go_at_call 31; with_reducible refine HMS.out.mono ?_); rintro e w1 ⟨rfl, hb1⟩; have HB1 := Lib.hid hb1; clear hb1)
  have HM := Lib.hid (H.out.below HB1.out)
  have HST : Hid (∀ W, Bel w1 W → Bel w1 W ∧ W.cell? ⟨bb, 0, none⟩ = some (.int .i64 (s : Int)) ∧ W.cell? ⟨bb, 1, none⟩ = some (.int .i64 (b : Int)) ∧ W.cell? ⟨bb, 2, none⟩ = some (.int .i64 (p : Int)) ∧ W.cell? ⟨bb, 3, none⟩ = some (.map (some m1)) ∧ W.cell? ⟨bb, 4, none⟩ = some (.map (some m2)) ∧ W.cell? ⟨bb, 5, none⟩ = some (.slice (some ⟨g, 0, none⟩) b cap)) := Lib.hid fun W hW => ⟨hW, (HM.out.below hW).cells⟩
  have HA := Lib.hid (fun W (hW : Bel w1 W ∧ W.cell? ⟨bb, 0, none⟩ = some (.int .i64 (s : Int)) ∧ W.cell? ⟨bb, 1, none⟩ = some (.int .i64 (b : Int)) ∧ W.cell? ⟨bb, 2, none⟩ = some (.int .i64 (p : Int)) ∧ W.cell? ⟨bb, 3, none⟩ = some (.map (some m1)) ∧ W.cell? ⟨bb, 4, none⟩ = some (.map (some m2)) ∧ W.cell? ⟨bb, 5, none⟩ = some (.slice (some ⟨g, 0, none⟩) b cap)) => (show Calls Try.prog 42 #[.map (some m1)] W fun e w' => ∃ m', e = .returned (.map (some m')) ∧ ((W.heap.size ≤ m' ∧ m' < w'.heap.size) ∧ Mp w' m' L.length (look L) ∧ Below W.heap.size W w') ∧ Bel w1 w' ∧ w'.cell? ⟨bb, 0, none⟩ = some (.int .i64 (s : Int)) ∧ w'.cell? ⟨bb, 1, none⟩ = some (.int .i64 (b : Int)) ∧ w'.cell? ⟨bb, 2, none⟩ = some (.int .i64 (p : Int)) ∧ w'.cell? ⟨bb, 3, none⟩ = some (.map (some m1)) ∧ w'.cell? ⟨bb, 4, none⟩ = some (.map (some m2)) ∧ w'.cell? ⟨bb, 5, none⟩ = some (.slice (some ⟨g, 0, none⟩) b cap) from
    (CloneM_any (HM.out.below hW.1).map1).mono fun e w' ⟨m', h1, h2, h3, h4, h5⟩ => ⟨m', h1, ⟨⟨h2, h3⟩, h4, h5⟩, HST.out w' (hW.1.step h5)⟩))
  have HB := Lib.hid (fun W (hW : Bel w1 W ∧ W.cell? ⟨bb, 0, none⟩ = some (.int .i64 (s : Int)) ∧ W.cell? ⟨bb, 1, none⟩ = some (.int .i64 (b : Int)) ∧ W.cell? ⟨bb, 2, none⟩ = some (.int .i64 (p : Int)) ∧ W.cell? ⟨bb, 3, none⟩ = some (.map (some m1)) ∧ W.cell? ⟨bb, 4, none⟩ = some (.map (some m2)) ∧ W.cell? ⟨bb, 5, none⟩ = some (.slice (some ⟨g, 0, none⟩) b cap)) => (show Calls Try.prog 42 #[.map (some m2)] W fun e w' => ∃ m', e = .returned (.map (some m')) ∧ ((W.heap.size ≤ m' ∧ m' < w'.heap.size) ∧ Mp w' m' L.length (look (flip L)) ∧ Below W.heap.size W w') ∧ Bel w1 w' ∧ w'.cell? ⟨bb, 0, none⟩ = some (.int .i64 (s : Int)) ∧ w'.cell? ⟨bb, 1, none⟩ = some (.int .i64 (b : Int)) ∧ w'.cell? ⟨bb, 2, none⟩ = some (.int .i64 (p : Int)) ∧ w'.cell? ⟨bb, 3, none⟩ = some (.map (some m1)) ∧ w'.cell? ⟨bb, 4, none⟩ = some (.map (some m2)) ∧ w'.cell? ⟨bb, 5, none⟩ = some (.slice (some ⟨g, 0, none⟩) b cap) from
    (CloneM_any (HM.out.below hW.1).map2).mono fun e w' ⟨m', h1, h2, h3, h4, h5⟩ => ⟨m', h1, ⟨⟨h2, h3⟩, h4, h5⟩, HST.out w' (hW.1.step h5)⟩))
  have HC := Lib.hid (fun W (hW : Bel w1 W ∧ W.cell? ⟨bb, 0, none⟩ = some (.int .i64 (s : Int)) ∧ W.cell? ⟨bb, 1, none⟩ = some (.int .i64 (b : Int)) ∧ W.cell? ⟨bb, 2, none⟩ = some (.int .i64 (p : Int)) ∧ W.cell? ⟨bb, 3, none⟩ = some (.map (some m1)) ∧ W.cell? ⟨bb, 4, none⟩ = some (.map (some m2)) ∧ W.cell? ⟨bb, 5, none⟩ = some (.slice (some ⟨g, 0, none⟩) b cap)) => (show Calls Try.prog 43 #[.slice (some ⟨g, 0, none⟩) b cap] W fun e w' => ∃ g' cap', e = .returned (.slice (some ⟨g', 0, none⟩) b cap') ∧ (W.heap.size ≤ g' ∧ RowI w' g' cap' b (fun k => cntB p L k) ∧ Below W.heap.size W w') ∧ Bel w1 w' ∧ w'.cell? ⟨bb, 0, none⟩ = some (.int .i64 (s : Int)) ∧ w'.cell? ⟨bb, 1, none⟩ = some (.int .i64 (b : Int)) ∧ w'.cell? ⟨bb, 2, none⟩ = some (.int .i64 (p : Int)) ∧ w'.cell? ⟨bb, 3, none⟩ = some (.map (some m1)) ∧ w'.cell? ⟨bb, 4, none⟩ = some (.map (some m2)) ∧ w'.cell? ⟨bb, 5, none⟩ = some (.slice (some ⟨g, 0, none⟩) b cap) from
    (CloneI_any (HM.out.below hW.1).row (by have := HF.out.hb; omega) HF.out.hb.2).mono fun e w' ⟨g', cap', h1, h2, h3, h4⟩ => ⟨g', cap', h1, ⟨h2, h3, h4⟩, HST.out w' (hW.1.step h4)⟩))
  have HKB : Hid (∀ W, (Bel w1 W ∧ W.cell? ⟨bb, 0, none⟩ = some (.int .i64 (s : Int)) ∧ W.cell? ⟨bb, 1, none⟩ = some (.int .i64 (b : Int)) ∧ W.cell? ⟨bb, 2, none⟩ = some (.int .i64 (p : Int)) ∧ W.cell? ⟨bb, 3, none⟩ = some (.map (some m1)) ∧ W.cell? ⟨bb, 4, none⟩ = some (.map (some m2)) ∧ W.cell? ⟨bb, 5, none⟩ = some (.slice (some ⟨g, 0, none⟩) b cap)) → ∀ o, Bel w1 (W.alloc o) ∧ (W.alloc o).cell? ⟨bb, 0, none⟩ = some (.int .i64 (s : Int)) ∧ (W.alloc o).cell? ⟨bb, 1, none⟩ = some (.int .i64 (b : Int)) ∧ (W.alloc o).cell? ⟨bb, 2, none⟩ = some (.int .i64 (p : Int)) ∧ (W.alloc o).cell? ⟨bb, 3, none⟩ = some (.map (some m1)) ∧ (W.alloc o).cell? ⟨bb, 4, none⟩ = some (.map (some m2)) ∧ (W.alloc o).cell? ⟨bb, 5, none⟩ = some (.slice (some ⟨g, 0, none⟩) b cap)) := Lib.hid fun W hW o => HST.out _ (hW.1.step (below_alloc W o))
  have HSD := Lib.hid (HST.out _ (Bel.refl w1).drew)
  go_region_held3 (fun W => Bel w1 W ∧ W.cell? ⟨bb, 0, none⟩ = some (.int .i64 (s : Int)) ∧ W.cell? ⟨bb, 1, none⟩ = some (.int .i64 (b : Int)) ∧ W.cell? ⟨bb, 2, none⟩ = some (.int .i64 (p : Int)) ∧ W.cell? ⟨bb, 3, none⟩ = some (.map (some m1)) ∧ W.cell? ⟨bb, 4, none⟩ = some (.map (some m2)) ∧ W.cell? ⟨bb, 5, none⟩ = some (.slice (some ⟨g, 0, none⟩) b cap)) (first | assumption | exact HSD.out | exact HKB.out _ (by assumption) _)
    (first
      | ((go_at_call 42; with_reducible refine (HA.out _ (by assumption)).mono ?_); rintro e W3 ⟨n1, rfl, hr3, hw3⟩; have HR3 := Lib.hid hr3; clear hr3)
      | ((go_at_call 42; with_reducible refine (HB.out _ (by assumption)).mono ?_); rintro e W4 ⟨n2, rfl, hr4, hw4⟩; have HR4 := Lib.hid hr4; clear hr4)
      | ((go_at_call 43; with_reducible refine (HC.out _ (by assumption)).mono ?_); rintro e W5 ⟨g5, cap5, rfl, hr5, hw5⟩; have HR5 := Lib.hid hr5; clear hr5))
  go_wp2
  go_ret
  exact copy_fin HF.out HB1.out.drew HR3.out.2.2 HR4.out.2.2 HR5.out.2.2 ⟨HR3.out.1, HR3.out.2.1⟩ ⟨HR4.out.1, HR4.out.2.1⟩ ⟨HR5.out.1, HR5.out.2.1⟩
end Go.Proofs.Yteiemegkdnjpgaa
