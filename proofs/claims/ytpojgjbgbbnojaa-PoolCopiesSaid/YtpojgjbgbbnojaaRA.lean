/- The reference's pool in memory; the contracts of with and first. Conditions stand in each theorem. -/
import Derived.Test.YtpojgjbgbbnojaaK
namespace Go.Proofs.Ytpojgjbgbbnojaa
open Go.RowKit
set_option linter.unusedVariables false
set_option maxHeartbeats 2000000
set_option maxRecDepth 100000
/-- Block g holds the blocks l, as the reference keeps them. -/
def Rf (w : World) (g : Nat) (l : List Blk) : Prop :=
  ∃ cs fr, w.heap[g]? = some (.cells cs 71 fr) ∧ ∀ j (hj : j < l.length), cs[j * 2]? = some (.int .i64 l[j].st) ∧ cs[j * 2 + 1]? = some (.int .i64 l[j].er)
section
variable {w w' : World} {g : Nat} {l : List Blk}
theorem Rf.lt (h : Rf w g l) : g < w.heap.size := by
  obtain ⟨cs, fr, h, _⟩ := h
  exact (Array.getElem?_eq_some_iff.1 h).1
theorem Rf.keep (h : Rf w g l) (hb : w'.heap[g]? = w.heap[g]?) : Rf w' g l := by
  obtain ⟨cs, fr, h, r⟩ := h
  exact ⟨cs, fr, hb.trans h, r⟩
theorem Rf.below (h : Rf w g l) (hb : Below w.heap.size w w') : Rf w' g l := h.keep (hb.block g h.lt)
theorem Rf.at (h : Rf w g l) {j : Nat} (hj : j < l.length) : w.cell? ⟨g, j * 2, none⟩ = some (.int .i64 l[j].st) ∧ w.cell? ⟨g, j * 2 + 1, none⟩ = some (.int .i64 l[j].er) := by
  obtain ⟨cs, fr, h, r⟩ := h
  have e := fun k => cell_of_row w g k cs 71 fr h
  exact ⟨(e _).trans (r j hj).1, (e _).trans (r j hj).2⟩
end
/-- The cells of blocks, as the reference keeps them. -/
def sv (l : List Blk) : List Value := l.flatMap fun x => [.int .i64 x.st, .int .i64 x.er]
theorem sv_length (l : List Blk) : (sv l).length = l.length * 2 := by
  unfold sv
  induction l with
  | nil => rfl
  | cons e r ih => rw [List.flatMap_cons, List.length_append, ih]; simp; omega
theorem sv_snoc (l : List Blk) (x : Blk) : sv (l ++ [x]) = sv l ++ [.int .i64 x.st, .int .i64 x.er] := by simp [sv]
theorem sv_at (l : List Blk) (j : Nat) (h : j < l.length) : (sv l)[j * 2]? = some (.int .i64 l[j].st) ∧ (sv l)[j * 2 + 1]? = some (.int .i64 l[j].er) := by
  induction l generalizing j with
  | nil => cases h
  | cons e r ih =>
    cases j with
    | zero => exact ⟨rfl, rfl⟩
    | succ j =>
      have h2 := ih j (by simpa using h)
      have key : ∀ t, (sv (e :: r))[(j + 1) * 2 + t]? = (sv r)[j * 2 + t]? := fun t => by
        show ([Value.int .i64 e.st, Value.int .i64 e.er] ++ sv r)[(j + 1) * 2 + t]? = _
        rw [List.getElem?_append_right (by simp; omega)]
        congr 1
        simp; omega
      exact ⟨(key 0).trans h2.1, (key 1).trans h2.2⟩
theorem sv_one (l : List Blk) : ∀ u ∈ sv l, u.oneCell' = true := by
  intro u hu
  obtain ⟨e, _, hu2⟩ := List.mem_flatMap.1 hu
  simp at hu2
  rcases hu2 with rfl | rfl <;> rfl
theorem Rf.cells {w : World} {g : Nat} {l : List Blk} (h : Rf w g l) : ∀ j u, (sv l)[j]? = some u → w.cell? ((⟨g, 0, none⟩ : Addr).add j) = some u := by
  intro j u hu
  rw [add_plain, Nat.zero_add]
  have hj : j < l.length * 2 := by
    rcases Nat.lt_or_ge j (l.length * 2) with h1 | h1
    · exact h1
    · rw [List.getElem?_eq_none (by rw [sv_length]; exact h1)] at hu; cases hu
  obtain ⟨a0, a1⟩ := h.at (j := j / 2) (by omega)
  obtain ⟨b0, b1⟩ := sv_at l (j / 2) (by omega)
  have hm : j = j / 2 * 2 ∨ j = j / 2 * 2 + 1 := by omega
  rcases hm with e | e
  · rw [e] at hu ⊢; rw [b0] at hu; exact a0.trans hu
  · rw [e] at hu ⊢; rw [b1] at hu; exact a1.trans hu
theorem rf_of_sv {w : World} {base n : Nat} {v : Value} {l : List Blk} (h : w.ownsRow base 71 2 v n (sv l)) (h0 : 0 < n) : ∃ g cap cur, v = .slice (some ⟨g, 0, none⟩) n cap ∧ base ≤ g ∧ n = l.length ∧ w.heap[g]? = some (.cells cur 71 (0, 0)) ∧ cur.size = cap * 2 ∧ n ≤ cap ∧ ∀ j (hj : j < l.length), cur[j * 2]? = some (.int .i64 l[j].st) ∧ cur[j * 2 + 1]? = some (.int .i64 l[j].er) := by
  have hn : n = l.length := by have := h.1; rw [sv_length] at this; omega
  rcases h.2 with ⟨_, e⟩ | ⟨g, cap, cur, rfl, hb, hg, hnc, hcm, hcs, ht⟩
  · omega
  · refine ⟨g, cap, cur, rfl, hb, hn, hg, hcs, hnc, fun i hi => ?_⟩
    obtain ⟨e1, e2⟩ := sv_at l i hi
    have key : ∀ t u, t < n * 2 → (sv l)[t]? = some u → cur[t]? = some u := fun t u htn hu => by
      rw [← ht, List.getElem?_take_of_lt htn] at hu
      simpa using hu
    exact ⟨key _ _ (by omega) e1, key _ _ (by omega) e2⟩
theorem info71 : (Try.prog.info? 71).map (fun i => (i.zero, i.size, i.bytes)) = some (some (.agg #[.int .i64 0, .int .i64 0]), 2, 16) := by kernel_rfl
theorem with_fin {w2 : World} {ga capa : Nat} {cur : Array Value} {l : List Blk} {k : Nat} (hk : k < l.length) (s er : Int) (h : w2.heap[ga]? = some (.cells cur 71 (0, 0)) ∧ cur.size = capa * 2 ∧ l.length ≤ capa ∧ ∀ j (hj : j < l.length), cur[j * 2]? = some (.int .i64 l[j].st) ∧ cur[j * 2 + 1]? = some (.int .i64 l[j].er)) :
    Rf ((w2.setCell ⟨ga, k * 2, none⟩ (.int .i64 s)).setCell ⟨ga, k * 2 + 1, none⟩ (.int .i64 er)) ga (l.set k ⟨er, s⟩) := by
  obtain ⟨h1, h2, h3, h4⟩ := h
  refine ⟨_, _, heap_setCell_same _ ga (k * 2 + 1) _ 71 _ (heap_setCell_same w2 ga (k * 2) cur 71 _ h1), fun j hj => ?_⟩
  rw [List.length_set] at hj
  obtain ⟨e1, e2⟩ := h4 j hj
  by_cases e : j = k
  · subst e
    simp only [List.getElem_set_self]
    constructor
    · rw [Array.getElem?_setIfInBounds_ne (by omega), Array.getElem?_setIfInBounds_self_of_lt (by omega)]
    · rw [Array.getElem?_setIfInBounds_self_of_lt (by simp; omega)]
  · rw [List.getElem_set_ne (fun h => e h.symm)]
    constructor
    · rw [Array.getElem?_setIfInBounds_ne (by omega), Array.getElem?_setIfInBounds_ne (by omega), e1]
    · rw [Array.getElem?_setIfInBounds_ne (by omega), Array.getElem?_setIfInBounds_ne (by omega), e2]
/-- What with leaves: another slice of the same length. -/
def WiP (w : World) (l' : List Blk) (e : Ending) (w' : World) : Prop := ∃ g' cap', e = .returned (.slice (some ⟨g', 0, none⟩) l'.length cap') ∧ Rf w' g' l' ∧ Below w.heap.size w w'
theorem with_any {w : World} {g cap : Nat} {l : List Blk} (h : Rf w g l) (hl : l.length ≤ 4096) {k : Nat} (hk : k < l.length) (s er : Int) :
    Calls Try.prog 55 #[.slice (some ⟨g, 0, none⟩) l.length cap, .int .i64 (k : Int), .int .i64 s, .int .i64 er] w (WiP w (l.set k ⟨er, s⟩)) := by
  obtain ⟨i71, hi71, hz0, hz1, hz2⟩ := info_parts info71
  have hr2 := h.below (below_alloc w (.cells #[] 71))
  obtain ⟨ga, capa, w2, hrun, hown2, hgrow, hlies, _⟩ := run_append_lies (P := Try.prog) (w.alloc (.cells #[] 71)) 30 30 w.heap.size 71 i71 _ 2 16 Try.underlying30 hi71 hz0 hz1 hz2 rfl (by decide) (.slice (some ⟨w.heap.size, 0, none⟩) 0 0) 0 [] (World.ownsRow_made w #[] 0 (Nat.le_refl _) (Nat.zero_le _) (by simp)) ⟨g, 0, none⟩ l.length cap (sv l) (sv_length l) hr2.cells (sv_one l) (by omega) (by unfold maxLen; omega) (by omega) (by simp) (w.heap.size + 1) (by simp)
  rw [Nat.zero_add] at hrun hown2
  obtain ⟨g', cap', cur, he, hg', _, hrow, hcs, hnc, hat⟩ := rf_of_sv (l := l) (by simpa using hown2) (by omega)
  simp only [Value.slice.injEq, Option.some.injEq, Addr.mk.injEq] at he
  obtain ⟨⟨rfl, _⟩, _, rfl⟩ := he
  have hb2 : Below w.heap.size w w2 := ((Below.refl _ w).alloc (Nat.le_refl _) _).grown hgrow (by simp) (by intro k hk; simp [Value.ownBlock] at hk; omega)
  have c0 := (cell_of_row w2 ga (k * 2) cur 71 (0, 0) hrow).trans (hat k hk).1
  have c1 := (cell_of_row w2 ga (k * 2 + 1) cur 71 (0, 0) hrow).trans (hat k hk).2
  have f0 := frozen_of_row w2 ga (k * 2) cur 71 hrow
  have f1 := frozen_of_row w2 ga (k * 2 + 1) cur 71 hrow
  have Hrun := Lib.hid hrun
  have HB := Lib.hid hb2
  have HR := Lib.hid (show w2.heap[ga]? = some (.cells cur 71 (0, 0)) ∧ cur.size = capa * 2 ∧ l.length ≤ capa ∧ ∀ j (hj : j < l.length), cur[j * 2]? = some (.int .i64 l[j].st) ∧ cur[j * 2 + 1]? = some (.int .i64 l[j].er) from ⟨hrow, hcs, hnc, hat⟩)
  have HG := Lib.hid hg'
  clear hr2 hrun hown2 hgrow hlies hrow hg' h hcs hnc hat hb2
  generalize l[k].st = s0 at *
  generalize l[k].er = e0 at *
  go_enter Try.func55, Try.ntmps55
  go_wp2_with (at_builtin; refine wpList_append_run rfl (.tmp 9) (.tmp 10) 30 30 rfl _ _ _ w2 rfl rfl Hrun.out ?_)
  go_ret
  exact ⟨ga, capa, by rw [List.length_set]; rfl, with_fin hk s er HR.out, (HB.out.setCell (p := ⟨ga, k * 2, none⟩) HG.out _).setCell (p := ⟨ga, k * 2 + 1, none⟩) HG.out _⟩
/-- What first has found among the first k blocks. -/
def frI (l : List Blk) (s : Int) (k : Nat) : Int := if (lw Blk.er (fun x => eqB x.st s) l k).2.2 = true then ((lw Blk.er (fun x => eqB x.st s) l k).1 : Int) else -1
theorem frI_yes {l : List Blk} {s : Int} {k : Nat} (hk : k < l.length) (h : eqB l[k].st s = true ∧ ((lw Blk.er (fun x => eqB x.st s) l k).2.2 = false ∨ l[k].er < (lw Blk.er (fun x => eqB x.st s) l k).2.1)) : frI l s (k + 1) = k := by
  unfold frI
  rw [lw_yes hk h]
  rfl
theorem frI_no {l : List Blk} {s : Int} {k : Nat} (hk : k < l.length) (h : ¬ (eqB l[k].st s = true ∧ ((lw Blk.er (fun x => eqB x.st s) l k).2.2 = false ∨ l[k].er < (lw Blk.er (fun x => eqB x.st s) l k).2.1))) : frI l s (k + 1) = frI l s k := by
  unfold frI
  rw [lw_no hk h]
def DrP (w : World) (v : Value) (e : Ending) (w' : World) : Prop := e = .returned v ∧ Below w.heap.size w w'
theorem first_any {w : World} {g cap : Nat} {l : List Blk} (h : Rf w g l) (hl : l.length ≤ 4096) (s : Int) :
    Calls Try.prog 54 #[.slice (some ⟨g, 0, none⟩) l.length cap, .int .i64 s] w (DrP w (.int .i64 (frI l s l.length))) := by
  have HR := Lib.hid h
  have hl2 : (l.length : Int) ≤ 4096 := by omega
  clear h
  go_enter Try.func54, Try.ntmps54
  go_wp2
  go_loopw [5, 6] (fun b i wr => ∃ k : Nat, k ≤ l.length ∧ i = .int .i64 k ∧ b = .int .i64 (frI l s k) ∧ Hid (Below w.heap.size w wr)) (fun _ i _ => l.length - (RowKit.intOf i).toNat)
  case atStart => exact ⟨0, Nat.zero_le _, rfl, rfl, Lib.hid (Below.refl _ _)⟩
  case round =>
    obtain ⟨k, hk, rfl, rfl, HB⟩ := hrel
    by_cases hlt : k < l.length
    · obtain ⟨c0, c1⟩ := (HR.out.below HB.out).at hlt
      by_cases hst : l[k].st = s
      · have HD := Lib.hid (fun wr' (hb : Below wr.heap.size wr wr') => HB.out.trans (hb.mono HB.out.size))
        cases hf : (lw Blk.er (fun x => eqB x.st s) l k).2.2
        · have e1 : frI l s k = -1 := by unfold frI; rw [hf]; rfl
          have e2 := frI_yes hlt ⟨decide_eq_true hst, .inl hf⟩
          rw [e1]
          have HE := Lib.hid e2
          have g1 : decide (l[k].st = s) = true := decide_eq_true hst
          have g2 : (l[k].st == s) = true := by simpa using hst
          clear e1 e2 hf
          generalize l[k] = x at *
          go_wp2
          go_quiet (fail)
          go_wp2
          go_roundw
          case rel => exact ⟨k + 1, by omega, by go_num, by rw [HE.out], Lib.hid (HD.out _ (below_drewN _ _))⟩
          case measure => simp [RowKit.intOf]; omega
        · obtain ⟨hj, hj2, hq1, hrk, hq2⟩ := (lw_spec Blk.er (fun x => eqB x.st s) l k (by omega)).2 hf
          obtain ⟨hq3, d1⟩ := (HR.out.below HB.out).at hj
          have e1 : frI l s k = ((lw Blk.er (fun x => eqB x.st s) l k).1 : Int) := by unfold frI; rw [hf]; rfl
          rw [e1]
          have g1 : decide (l[k].st = s) = true := decide_eq_true hst
          have g2 : (l[k].st == s) = true := by simpa using hst
          by_cases hlo : l[k].er < l[(lw Blk.er (fun x => eqB x.st s) l k).1].er
          · have HE := Lib.hid (frI_yes hlt ⟨decide_eq_true hst, .inr (by rw [hrk]; exact hlo)⟩)
            have hjb : (lw Blk.er (fun x => eqB x.st s) l k).1 < l.length := hj
            have g3 : decide (l[k].er < l[(lw Blk.er (fun x => eqB x.st s) l k).1].er) = true := decide_eq_true hlo
            clear hrk hf e1 hq1 hq2 hq3
            generalize l[(lw Blk.er (fun x => eqB x.st s) l k).1].er = be at *
            clear hj
            generalize (lw Blk.er (fun x => eqB x.st s) l k).1 = j at *
            generalize l[k] = x at *
            go_wp2
            go_quiet (fail)
            go_wp2
            go_roundw
            case rel => exact ⟨k + 1, by omega, by go_num, by rw [HE.out], Lib.hid (HD.out _ (below_drewN _ _))⟩
            case measure => simp [RowKit.intOf]; omega
          · have HE := Lib.hid ((frI_no hlt (fun hh => by rcases hh.2 with h0 | h0; rw [hf] at h0; cases h0; rw [hrk] at h0; exact hlo h0)).trans e1)
            have hjb : (lw Blk.er (fun x => eqB x.st s) l k).1 < l.length := hj
            have g3 : decide (l[k].er < l[(lw Blk.er (fun x => eqB x.st s) l k).1].er) = false := decide_eq_false hlo
            clear hrk hf e1 hq1 hq2 hq3
            generalize l[(lw Blk.er (fun x => eqB x.st s) l k).1].er = be at *
            clear hj
            generalize (lw Blk.er (fun x => eqB x.st s) l k).1 = j at *
            generalize l[k] = x at *
            go_wp2
            go_quiet (fail)
            go_wp2
            go_roundw
            case rel => exact ⟨k + 1, by omega, by go_num, by rw [HE.out], Lib.hid (HD.out _ (below_drewN _ _))⟩
            case measure => simp [RowKit.intOf]; omega
      · have HD := Lib.hid (fun wr' (hb : Below wr.heap.size wr wr') => HB.out.trans (hb.mono HB.out.size))
        have HE := Lib.hid (frI_no hlt (fun hh => hst (of_decide_eq_true hh.1)))
        have g1 : decide (l[k].st = s) = false := decide_eq_false hst
        have g2 : (l[k].st == s) = false := by simpa using hst
        generalize frI l s k = r at *
        generalize l[k] = x at *
        go_wp2
        go_quiet (fail)
        go_wp2
        go_roundw
        case rel => exact ⟨k + 1, by omega, by go_num, by rw [HE.out], Lib.hid (HD.out _ (below_drewN _ _))⟩
        case measure => simp [RowKit.intOf]; omega
    · have hkl : k = l.length := by omega
      subst hkl
      generalize frI l s l.length = r at *
      go_wp2
      go_ret
      exact ⟨rfl, HB.out⟩
end Go.Proofs.Ytpojgjbgbbnojaa
