/- The contracts of the reference's New, At, Of, Cold. Conditions stand in each theorem. -/
import Derived.Test.YtpojgjbgbbnojaaRB
import Derived.Laws.Rows
namespace Go.Proofs.Ytpojgjbgbbnojaa
open Go.RowKit
set_option linter.unusedVariables false
set_option maxHeartbeats 2000000
set_option maxRecDepth 100000
section
variable {w : World} {g cap : Nat} {l : List Blk}
theorem At_any (h : Rf w g l) (hl : l.length ≤ 4096) (q : Int) : Calls Try.prog 34 #[.slice (some ⟨g, 0, none⟩) l.length cap, .int .i64 q] w (Ret w (.agg #[.int .i64 (sta l q), .int .i64 (ers l q)])) := by
  have hl2 : (l.length : Int) ≤ 4096 := by omega
  cases hq : hasB l q
  · have e1 : sta l q = 0 := by unfold sta; rw [if_neg (by simp [hq])]
    have e2 : ers l q = 0 := by unfold ers; rw [if_neg (by simp [hq])]
    rw [e1, e2]
    clear e1 e2 h
    rcases hasB_cases hq with hq2 | ⟨hq1, hq2⟩
    all_goals
      clear hq
      go_enter Try.func34, Try.ntmps34
      go_wp2
      refine bodyPost_ret (results_cell_row rfl _ _ w.heap.size 71 #[.int .i64 0, .int .i64 0] (0, 0) _ rfl (heap_alloc_new w _) Try.underlying71 rfl (by kernel_rfl)) rfl ⟨rfl, below_alloc w _⟩
  · obtain ⟨k, rfl, hk⟩ := hasB_nat hq
    rw [sta_nat hk, ers_nat hk]
    obtain ⟨c0, c1⟩ := h.at hk
    have hlt := h.lt
    clear h hq
    generalize l[k] = x at *
    obtain ⟨er, st⟩ := x
    dsimp only at *
    have d0 : (w.alloc (.cells #[.int .i64 0, .int .i64 0] 71)).cell? ⟨g, k * 2, none⟩ = some (.int .i64 st) := ((below_alloc w _).cell (p := ⟨g, k * 2, none⟩) hlt).trans c0
    have d1 : (w.alloc (.cells #[.int .i64 0, .int .i64 0] 71)).cell? ⟨g, k * 2 + 1, none⟩ = some (.int .i64 er) := ((below_alloc w _).cell (p := ⟨g, k * 2 + 1, none⟩) hlt).trans c1
    go_enter Try.func34, Try.ntmps34
    go_wp2
    refine bodyPost_ret (results_cell_row rfl _ _ w.heap.size 71 #[.int .i64 st, .int .i64 er] (0, 0) _ rfl (heap_alloc_new w _) Try.underlying71 rfl (by kernel_rfl)) rfl ⟨rfl, below_alloc w _⟩
theorem rCold_any (h : Rf w g l) (hl : l.length ≤ 4096) : Calls Try.prog 35 #[.slice (some ⟨g, 0, none⟩) l.length cap] w (LwP w (lwc l 3)) := by
  have HI := Lib.hid (first_any (cap := cap) h hl 3)
  cases hfd : (lwc l 3).2.2
  · have e1 : frI l 3 l.length = -1 := by
      unfold frI
      rw [show (lw Blk.er (fun x => eqB x.st 3) l l.length) = lwc l 3 from rfl, hfd]
      rfl
    rw [e1] at HI
    unfold LwP
    rw [hfd, lwc_no hfd]
    clear h hfd e1
    go_enter Try.func35, Try.ntmps35
    go_wp2_with ((go_at_call 54; with_reducible refine HI.out.mono ?_); rintro e w2 ⟨rfl, hb⟩; have HB := Lib.hid hb; clear hb)
    go_ret2
    exact ⟨rfl, HB.out⟩
  · have hj := lwc_lt hfd
    have e1 : frI l 3 l.length = ((lwc l 3).1 : Int) := by
      unfold frI
      rw [show (lw Blk.er (fun x => eqB x.st 3) l l.length) = lwc l 3 from rfl, hfd]
      rfl
    rw [e1] at HI
    unfold LwP
    rw [hfd]
    clear h hfd e1 hj
    generalize (lwc l 3).1 = j at *
    go_enter Try.func35, Try.ntmps35
    go_wp2_with ((go_at_call 54; with_reducible refine HI.out.mono ?_); rintro e w2 ⟨rfl, hb⟩; have HB := Lib.hid hb; clear hb)
    go_ret2
    exact ⟨rfl, HB.out⟩
/-- A list of ints of the call's own. -/
def OfP (w : World) (xs : List Int) (e : Ending) (w' : World) : Prop := ∃ A c, e = .returned (.slice A xs.length c) ∧ Ints w' (.slice A xs.length c) xs ∧ Below w.heap.size w w' ∧ ∀ g o, A = some ⟨g, o, none⟩ → w.heap.size ≤ g
def iv (xs : List Int) : List Value := xs.map fun n => .int .i64 n
theorem ints_of_own {w : World} {base n : Nat} {v : Value} {xs : List Int} (h : w.ownsRow base 3 1 v n (iv xs)) : ∃ A c, v = .slice A xs.length c ∧ Ints w (.slice A xs.length c) xs ∧ ∀ g o, A = some ⟨g, o, none⟩ → base ≤ g := by
  have hn : n = xs.length := by have := h.1; simp [iv] at this; omega
  subst hn
  rcases h.2 with ⟨rfl, h0⟩ | ⟨g, cap, cur, rfl, hb, hg, hnc, hcm, hcs, ht⟩
  · exact ⟨none, 0, by rw [h0], ⟨none, 0, rfl, fun h => absurd h (by omega)⟩, fun g o e => by cases e⟩
  · refine ⟨_, cap, rfl, ⟨_, cap, rfl, fun hp => ⟨g, 0, rfl, (Array.getElem?_eq_some_iff.1 hg).1, fun j hj => ?_⟩⟩, fun g' o e => by cases e; exact hb⟩
    rw [Nat.zero_add, cell_of_row w g j cur 3 (0, 0) hg]
    have : (cur.toList.take (xs.length * 1))[j]? = some (.int .i64 xs[j]) := by rw [ht]; simp [iv, hj]
    rw [List.getElem?_take_of_lt (by omega)] at this
    simpa using this
theorem info3' : (Try.prog.info? 3).map (fun i => (i.zero, i.size, i.bytes)) = some (some (.int .i64 0), 1, 8) := by kernel_rfl
/-- The numbers of the blocks in a state, among the first k. -/
def ofK (l : List Blk) (s : Int) (k : Nat) : List Int := (((List.range l.length).take k).filter fun i => decide ((l.getD i ⟨0, 0⟩).st = s)).map fun (i : Nat) => (i : Int)
theorem ofK_step {l : List Blk} {s : Int} {k : Nat} (hk : k < l.length) : ofK l s (k + 1) = if l[k].st = s then ofK l s k ++ [(k : Int)] else ofK l s k := by
  unfold ofK
  rw [List.take_succ_eq_append_getElem (by simpa using hk), List.filter_append, List.map_append]
  by_cases h : l[k].st = s <;> simp [h, hk]
theorem ofK_zero (l : List Blk) (s : Int) : ofK l s 0 = [] := by simp [ofK]
theorem ofK_len (l : List Blk) (s : Int) (k : Nat) : (ofK l s k).length ≤ k := by
  unfold ofK
  rw [List.length_map]
  exact Nat.le_trans (List.length_filter_le _ _) (List.length_take_le _ _)
theorem Of_any (h : Rf w g l) (hl : l.length ≤ 4096) (s : Int) : Calls Try.prog 15 #[.slice (some ⟨g, 0, none⟩) l.length cap, .int .i64 s] w (OfP w (ofK l s l.length)) := by
  obtain ⟨i3, hi3, hz0, hz1, hz2⟩ := info_parts info3'
  have HR := Lib.hid h
  have hl2 : (l.length : Int) ≤ 4096 := by omega
  clear h
  go_enter Try.func15, Try.ntmps15
  go_wp2
  go_loopw [5, 6] (fun v i wr => ∃ (k : Nat) (x : Value), k ≤ l.length ∧ i = .int .i64 k ∧ x = v ∧ Hid (wr.ownsRow w.heap.size 3 1 x (ofK l s k).length (iv (ofK l s k))) ∧ Hid (Below w.heap.size w wr)) (fun _ i _ => l.length - (RowKit.intOf i).toNat)
  case atStart => exact ⟨0, _, Nat.zero_le _, rfl, rfl, Lib.hid (by rw [ofK_zero]; exact World.ownsRow_nil _ _ _ _), Lib.hid (Below.refl _ _)⟩
  case round =>
    obtain ⟨k, x, hk, rfl, rfl, HO, HB⟩ := hrel
    by_cases hlt : k < l.length
    · obtain ⟨c0, c1⟩ := (HR.out.below HB.out).at hlt
      have HST := Lib.hid (ofK_step (s := s) hlt)
      have hlen := ofK_len l s k
      by_cases hst : l[k].st = s
      · rw [if_pos hst] at HST
        obtain ⟨ga, capa, w2, hrun, hown2, hgrow, hlies, _⟩ := run_append_lies (P := Try.prog) (wr.alloc (.cells #[.int .i64 (k : Int)] 3)) 22 22 w.heap.size 3 i3 _ 1 8 Try.underlying22 hi3 hz0 hz1 hz2 rfl (by decide) x (ofK l s k).length (iv (ofK l s k)) (HO.out.alloc _) ⟨wr.heap.size, 0, none⟩ 1 1 [.int .i64 (k : Int)] rfl (World.news_of_block (heap_alloc_new wr _)) (by intro u hu; simp at hu; subst hu; rfl) (by omega) (by unfold maxLen; omega) (by omega) (by have := HB.out.size; simp; omega) wr.heap.size.succ (by simp)
        have Hrun := Lib.hid hrun
        have HO2 := Lib.hid (show w2.ownsRow w.heap.size 3 1 (.slice (some ⟨ga, 0, none⟩) ((ofK l s k).length + 1) capa) (ofK l s (k + 1)).length (iv (ofK l s (k + 1))) from by
          rw [HST.out, List.length_append]
          simpa [iv] using hown2)
        have HB2 := Lib.hid (show Below w.heap.size w w2 from (HB.out.alloc HB.out.size _).grown hgrow (by have := HB.out.size; simp; omega) (fun j e => (HO.out.lt j e).1))
        have g1 : decide (l[k].st = s) = true := decide_eq_true hst
        have g2 : (l[k].st == s) = true := by simpa using hst
        clear hrun hown2 hgrow hlies HST
        generalize (ofK l s k).length = m at *
        generalize l[k] = y at *
        go_wp2_with (at_builtin; refine wpList_append_run rfl (.tmp 20) (.tmp 22) 22 22 rfl _ _ _ w2 rfl rfl Hrun.out ?_)
        go_roundw
        case rel => exact ⟨k + 1, _, by omega, by go_num, rfl, HO2, HB2⟩
        case measure => simp [RowKit.intOf]; omega
      · rw [if_neg hst] at HST
        have g1 : decide (l[k].st = s) = false := decide_eq_false hst
        have g2 : (l[k].st == s) = false := by simpa using hst
        generalize l[k] = y at *
        go_wp2
        go_roundw
        case rel => exact ⟨k + 1, _, by omega, by go_num, rfl, by rw [HST.out]; exact HO, HB⟩
        case measure => simp [RowKit.intOf]; omega
    · have hkl : k = l.length := by omega
      subst hkl
      obtain ⟨A, c, rfl, hi, hnw⟩ := ints_of_own HO.out
      have HI := Lib.hid hi
      have HNW := Lib.hid hnw
      clear hi hnw
      generalize ofK l s l.length = xs at *
      go_wp2
      go_ret
      exact ⟨A, c, rfl, HI.out, HB.out, HNW.out⟩
/-- What Spread has found among the first k blocks. -/
def spA (l : List Blk) (k : Nat) : Int := if (lw Blk.er (fun x => neB x.st 4) l k).2.2 = true then (lw Blk.er (fun x => neB x.st 4) l k).2.1 else 0
def spB (l : List Blk) (k : Nat) : Int := if (lw (fun x => -x.er) (fun x => neB x.st 4) l k).2.2 = true then -(lw (fun x => -x.er) (fun x => neB x.st 4) l k).2.1 else 0
def spF (l : List Blk) (k : Nat) : Bool := (lw Blk.er (fun x => neB x.st 4) l k).2.2
theorem sp_found (l : List Blk) (k : Nat) (hk : k ≤ l.length) : (lw (fun x => -x.er) (fun x => neB x.st 4) l k).2.2 = spF l k := by
  obtain ⟨a1, a2⟩ := lw_spec Blk.er (fun x => neB x.st 4) l k hk
  obtain ⟨b1, b2⟩ := lw_spec (fun x => -x.er) (fun x => neB x.st 4) l k hk
  unfold spF
  cases h1 : (lw Blk.er (fun x => neB x.st 4) l k).2.2 <;> cases h2 : (lw (fun x => -x.er) (fun x => neB x.st 4) l k).2.2
  · rfl
  · obtain ⟨hj, hj2, hin, _⟩ := b2 h2
    have := (a1 h1).2 _ hj hj2
    dsimp only at this hin
    rw [this] at hin; cases hin
  · obtain ⟨hj, hj2, hin, _⟩ := a2 h1
    have := (b1 h2).2 _ hj hj2
    dsimp only at this hin
    rw [this] at hin; cases hin
  · rfl
theorem sp_bad {l : List Blk} {k : Nat} (hk : k < l.length) (h : l[k].st = 4) : spA l (k + 1) = spA l k ∧ spB l (k + 1) = spB l k ∧ spF l (k + 1) = spF l k := by
  have hn : ¬ (neB l[k].st 4 = true) := by simp [neB, h]
  unfold spA spB spF
  rw [lw_no hk (fun hh => hn hh.1), lw_no hk (fun hh => hn hh.1)]
  exact ⟨rfl, rfl, rfl⟩
theorem sp_ok {l : List Blk} {k : Nat} (hk : k < l.length) (h : ¬ l[k].st = 4) : spF l (k + 1) = true ∧ spA l (k + 1) = (if spF l k = false ∨ l[k].er < spA l k then l[k].er else spA l k) ∧ spB l (k + 1) = (if spF l k = false ∨ spB l k < l[k].er then l[k].er else spB l k) := by
  have hn : neB l[k].st 4 = true := by simp [neB, h]
  have hf := sp_found l k (by omega)
  have eA : spF l (k + 1) = true ∧ spA l (k + 1) = (if spF l k = false ∨ l[k].er < spA l k then l[k].er else spA l k) := by
    unfold spA spF at *
    cases hq : (lw Blk.er (fun x => neB x.st 4) l k).2.2
    · rw [lw_yes hk ⟨hn, .inl hq⟩]; simp
    · by_cases hlt : l[k].er < (lw Blk.er (fun x => neB x.st 4) l k).2.1
      · rw [lw_yes hk ⟨hn, .inr hlt⟩]; simp [hlt]
      · rw [lw_no hk (fun hh => by rcases hh.2 with h0 | h0; rw [hq] at h0; cases h0; exact hlt h0)]; simp [hq, hlt]
  refine ⟨eA.1, eA.2, ?_⟩
  unfold spB
  rw [← hf]
  cases hq : (lw (fun x => -x.er) (fun x => neB x.st 4) l k).2.2
  · rw [lw_yes hk ⟨hn, .inl hq⟩]; simp
  · by_cases hlt : -l[k].er < (lw (fun x => -x.er) (fun x => neB x.st 4) l k).2.1
    · rw [lw_yes hk ⟨hn, .inr hlt⟩]
      rw [if_pos rfl, if_pos rfl, if_pos (.inr (by omega))]
      simp
    · rw [lw_no hk (fun hh => by rcases hh.2 with h0 | h0; rw [hq] at h0; cases h0; exact hlt h0)]
      rw [if_pos hq, if_pos rfl, if_neg (by rintro (h0 | h0); cases h0; omega)]
theorem sp_end (l : List Blk) : spA l l.length = sprA l ∧ spB l l.length = sprB l := by
  have hf := sp_found l l.length (Nat.le_refl _)
  have a2 := (lw_spec Blk.er (fun x => neB x.st 4) l l.length (Nat.le_refl _)).2
  have b2 := (lw_spec (fun x => -x.er) (fun x => neB x.st 4) l l.length (Nat.le_refl _)).2
  unfold spA spB sprA sprB
  unfold spF at hf
  rw [show lw Blk.er (fun x => neB x.st 4) l l.length = lo l from rfl] at *
  rw [show lw (fun x => -x.er) (fun x => neB x.st 4) l l.length = hi l from rfl] at *
  rw [hf]
  cases h : (lo l).2.2
  · exact ⟨rfl, rfl⟩
  · obtain ⟨hj, _, _, hr, _⟩ := a2 h
    obtain ⟨hj2, _, _, hr2, _⟩ := b2 (hf.trans h)
    rw [if_pos rfl, if_pos rfl, if_pos rfl, if_pos rfl, hr, ers_nat hj, ers_nat hj2, hr2]
    exact ⟨rfl, by simp⟩
end
end Go.Proofs.Ytpojgjbgbbnojaa
