/- The reference's without: a list that is appended to. Conditions stand in each theorem. -/
import Derived.Test.YteiemegkdnjpgaaYN
namespace Go.Proofs.Yteiemegkdnjpgaa
open Go.RowKit Go.Shelf
set_option linter.unusedVariables false
set_option maxHeartbeats 4000000
set_option maxRecDepth 100000
theorem row_append {w W : World} {v : Value} {l : List (Int × Int)} (hb : Below w.heap.size w W) (ho : W.ownsRow w.heap.size 50 2 v l.length (pv l)) (hl : l.length ≤ 16777216) (a c : Int) (ty : TypeId) : ∃ A n m g m' w2, v = .slice A n m ∧
    (Builtin.append_ #[27, 27] ty #[.slice A n m, .slice (some ⟨W.heap.size, 0, none⟩) 1 1]).run Try.prog (W.alloc (.cells #[.int .i64 a, .int .i64 c] 50)) = .ok (.slice (some ⟨g, 0, none⟩) (l.length + 1) m') w2 ∧
    w2.ownsRow w.heap.size 50 2 (.slice (some ⟨g, 0, none⟩) (l.length + 1) m') (l ++ [(a, c)]).length (pv (l ++ [(a, c)])) ∧ Below w.heap.size w w2 := by
  obtain ⟨i50, hi, hz0, hz1, hz2⟩ := info_parts50
  have hB := hb.size
  obtain ⟨ga, capa, w2, hrun, hown2, hgrow, hlies, _⟩ := run_append_lies (P := Try.prog) (ty := ty) (W.alloc (.cells #[.int .i64 a, .int .i64 c] 50)) 27 w.heap.size 50 i50 _ 2 16 Try.underlying27 hi hz0 hz1 hz2 rfl (by decide) v l.length (pv l) (ho.alloc _) ⟨W.heap.size, 0, none⟩ 1 1 [.int .i64 a, .int .i64 c] rfl (World.news_of_block (heap_alloc_new W _)) (by intro u hu; simp at hu; rcases hu with rfl | rfl <;> rfl) (by omega) (by unfold maxLen; omega) (by omega) (by simp; omega) W.heap.size.succ (by simp)
  obtain ⟨A, n, e⟩ := own_form ho
  refine ⟨A, _, n, ga, capa, w2, e, by rw [← e]; exact hrun, ?_, (hb.alloc hB _).grown hgrow (by simp; omega) (fun j e => (ho.lt j e).1)⟩
  rw [pv_snoc, List.length_append]
  exact hown2
theorem del_in {q : Int} {L : List (Int × Int)} {k : Nat} (h : k < L.length) (hq : L[k].1 ≠ q) : del q (L.take (k + 1)) = del q (L.take k) ++ [L[k]] := by
  unfold del
  rw [List.take_succ_eq_append_getElem h, List.filter_append]
  simp [hq]
theorem del_out {q : Int} {L : List (Int × Int)} {k : Nat} (h : k < L.length) (hq : L[k].1 = q) : del q (L.take (k + 1)) = del q (L.take k) := by
  unfold del
  rw [List.take_succ_eq_append_getElem h, List.filter_append]
  simp [hq]
theorem del_short (q : Int) (L : List (Int × Int)) (k : Nat) : (del q (L.take k)).length ≤ L.length := by
  unfold del
  refine Nat.le_trans (List.length_filter_le _ _) ?_
  rw [List.length_take]; omega
/-- What a call that gives a map back leaves. -/
def MapP (w : World) (s b p : Int) (l : List (Int × Int)) (e : Ending) (w' : World) : Prop := ∃ v', e = .returned (rv s b p v') ∧ Ent w' v' l ∧ (∀ k, v'.ownBlock = some k → w.heap.size ≤ k) ∧ Below w.heap.size w w'
theorem rwithout_any (s b p : Int) {v : Value} {L : List (Int × Int)} {w : World} (h : Ent w v L) (hl : L.length ≤ 16777216) (q : Int) : Calls Try.prog 30 #[rv s b p v, .int .i64 q] w (MapP w s b p (del q L)) := by
  obtain ⟨A, c, rfl, -⟩ := h.form
  obtain ⟨W1, hW⟩ : ∃ W1, W1 = (w.alloc (.cells #[.int .i64 s, .int .i64 b, .int .i64 p, .slice A L.length c] 29)).alloc (.cells #[.int .i64 0, .int .i64 0, .int .i64 0, .slice none 0 0] 29) := ⟨_, rfl⟩
  have hb1 : Below w.heap.size w W1 := by rw [hW]; exact (below_alloc w _).alloc (by simp) _
  have x1 : W1.heap[w.heap.size]? = some (.cells #[.int .i64 s, .int .i64 b, .int .i64 p, .slice A L.length c] 29 (0, 0)) := by
    rw [hW]; exact (Below.heap_alloc _ _ _ (by simp)).trans (heap_alloc_new w _)
  have x2 : W1.heap[w.heap.size + 1]? = some (.cells #[.int .i64 0, .int .i64 0, .int .i64 0, .slice none 0 0] 29 (0, 0)) := by
    have := heap_alloc_new (w.alloc (.cells #[.int .i64 s, .int .i64 b, .int .i64 p, .slice A L.length c] 29)) (.cells #[.int .i64 0, .int .i64 0, .int .i64 0, .slice none 0 0] 29)
    rw [hW]; simpa using this
  have hs1 : W1.heap.size = w.heap.size + 2 := by rw [hW]; simp
  have HE := Lib.hid (h.below hb1)
  have HB1 := Lib.hid hb1
  have HW := Lib.hid hW
  have HX1 := Lib.hid x1
  have HX2 := Lib.hid x2
  have HS := Lib.hid hs1
  clear h hW hb1 x1 x2 hs1
  unfold rv
  go_enter Try.func30, Try.ntmps30
  go_wp2
  go_loopw [5, 6] (fun x0 i wr => ∃ (k : Nat) (x : Value), k ≤ L.length ∧ i = .int .i64 k ∧ x = x0 ∧ Hid (wr.ownsRow W1.heap.size 50 2 x (del q (L.take k)).length (pv (del q (L.take k)))) ∧ Hid (Below W1.heap.size W1 wr)) (fun _ i _ => L.length - (RowKit.intOf i).toNat)
  case atStart => exact ⟨0, _, Nat.zero_le _, rfl, rfl, Lib.hid (World.ownsRow_nil _ _ _ _), Lib.hid (by rw [HW.out]; exact Below.refl _ _)⟩
  case round =>
    obtain ⟨k, x, hk, rfl, rfl, HO, HB⟩ := hrel
    have y1 := (HB.out.block _ (by have := HS.out; omega)).trans HX1.out
    have y2 := (HB.out.block _ (by have := HS.out; omega)).trans HX2.out
    have c0 : wr.cell? ⟨w.heap.size, 0, none⟩ = some (.int .i64 s) := by rw [cell_of_row wr _ 0 _ _ _ y1]; rfl
    have c1 : wr.cell? ⟨w.heap.size, 1, none⟩ = some (.int .i64 b) := by rw [cell_of_row wr _ 1 _ _ _ y1]; rfl
    have c2 : wr.cell? ⟨w.heap.size, 2, none⟩ = some (.int .i64 p) := by rw [cell_of_row wr _ 2 _ _ _ y1]; rfl
    have c3 : wr.cell? ⟨w.heap.size, 3, none⟩ = some (.slice A L.length c) := by rw [cell_of_row wr _ 3 _ _ _ y1]; rfl
    have HY1 := Lib.hid y1
    have HY2 := Lib.hid y2
    clear y1 y2
    by_cases hlt : k < L.length
    · obtain ⟨g, o, c', hv, h1, h2⟩ := (HE.out.below HB.out).at hlt
      cases hv
      have HIN := Lib.hid (del_in (q := q) hlt)
      have HOUT := Lib.hid (del_out (q := q) hlt)
      have HLE := Lib.hid (del_short q L k)
      generalize L[k] = xy at *
      obtain ⟨xa, ya⟩ := xy
      dsimp only at h1 h2
      by_cases hq : xa = q
      · have HO2 := Lib.hid (show wr.ownsRow W1.heap.size 50 2 x (del q (L.take (k + 1))).length (pv (del q (L.take (k + 1)))) from by rw [HOUT.out hq]; exact HO.out)
        clear HIN HOUT HO
        subst hq
        go_wp2
        go_roundw
        case rel => exact ⟨k + 1, _, by omega, by go_num, rfl, HO2, HB⟩
        case measure => simp [RowKit.intOf]; omega
      · obtain ⟨A', n', m', g', m2, w2, rfl, hrun, hown, hbel⟩ := row_append HB.out HO.out (Nat.le_trans HLE.out hl) xa ya 27
        have HO2 := Lib.hid (show w2.ownsRow W1.heap.size 50 2 (.slice (some ⟨g', 0, none⟩) ((del q (L.take k)).length + 1) m2) (del q (L.take (k + 1))).length (pv (del q (L.take (k + 1)))) from by rw [HIN.out hq]; exact hown)
        have HB2 := Lib.hid hbel
        have Hrun := Lib.hid hrun
        have hq2 : (xa == q) = false := by rw [beq_eq_false_iff_ne]; exact hq
        have hq3 : (xa != q) = true := by rw [bne_iff_ne]; exact hq
        clear HIN HOUT HO hown hbel hrun
        generalize (del q (L.take k)).length = dn at *
        go_wp2_with (at_builtin; refine wpList_append_run rfl (.tmp 22) (.tmp 28) 27 27 rfl _ _ _ w2 rfl rfl Hrun.out ?_)
        go_roundw
        case rel => exact ⟨k + 1, _, by omega, by go_num, rfl, HO2, HB2⟩
        case measure => simp [RowKit.intOf]; omega
    · have hkl : k = L.length := by omega
      subst hkl
      have ho := HO.out
      rw [List.take_length] at ho
      obtain ⟨A2, m2, rfl⟩ := own_form ho
      obtain ⟨-, he, hob⟩ := ent_of_own ho
      generalize (del q L).length = dn at *
      have f3 := frozen_of_row wr w.heap.size 3 _ _ HY1.out
      have g0 := frozen_of_row wr (w.heap.size + 1) 0 _ _ HY2.out
      have g1 := frozen_of_row wr (w.heap.size + 1) 1 _ _ HY2.out
      have g2 := frozen_of_row wr (w.heap.size + 1) 2 _ _ HY2.out
      have g3 := frozen_of_row wr (w.heap.size + 1) 3 _ _ HY2.out
      have d0 : wr.cell? ⟨w.heap.size + 1, 0, none⟩ = some (.int .i64 0) := by rw [cell_of_row wr _ 0 _ _ _ HY2.out]; rfl
      have d1 : wr.cell? ⟨w.heap.size + 1, 1, none⟩ = some (.int .i64 0) := by rw [cell_of_row wr _ 1 _ _ _ HY2.out]; rfl
      have d2 : wr.cell? ⟨w.heap.size + 1, 2, none⟩ = some (.int .i64 0) := by rw [cell_of_row wr _ 2 _ _ _ HY2.out]; rfl
      have d3 : wr.cell? ⟨w.heap.size + 1, 3, none⟩ = some (.slice none 0 0) := by rw [cell_of_row wr _ 3 _ _ _ HY2.out]; rfl
      have HEN := Lib.hid he
      have HOB := Lib.hid hob
      clear ho he hob HO
      go_wp2
      have hsz := HS.out
      have HC := Lib.hid (show Chg (fun k => k = w.heap.size ∨ k = w.heap.size + 1) wr (((((wr.setCell ⟨w.heap.size, 3, none⟩ (.slice A2 dn m2)).setCell ⟨w.heap.size + 1, 0, none⟩ (.int .i64 s)).setCell ⟨w.heap.size + 1, 1, none⟩ (.int .i64 b)).setCell ⟨w.heap.size + 1, 2, none⟩ (.int .i64 p)).setCell ⟨w.heap.size + 1, 3, none⟩ (.slice A2 dn m2)) from
        (((((Chg.refl _ wr).setCell (p := ⟨w.heap.size, 3, none⟩) (.inl rfl) _).setCell (p := ⟨w.heap.size + 1, 0, none⟩) (.inr rfl) _).setCell (p := ⟨w.heap.size + 1, 1, none⟩) (.inr rfl) _).setCell (p := ⟨w.heap.size + 1, 2, none⟩) (.inr rfl) _).setCell (p := ⟨w.heap.size + 1, 3, none⟩) (.inr rfl) _)
      have hw : Below w.heap.size w wr := HB1.out.trans (HB.out.mono HB1.out.size)
      refine bodyPost_ret (results_cell_row rfl _ _ (w.heap.size + 1) 29 #[.int .i64 s, .int .i64 b, .int .i64 p, .slice A2 dn m2] (0, 0) _ rfl (heap_setCell_same _ _ _ _ _ _ (heap_setCell_same _ _ _ _ _ _ (heap_setCell_same _ _ _ _ _ _ (heap_setCell_same _ _ _ _ _ _ ((Below.heap_setCell wr _ _ _ (by simp)).trans HY2.out))))) Try.underlying29 rfl (by kernel_rfl)) rfl ?_
      exact ⟨_, rfl, HEN.out.chg HC.out (fun k hk hS => by have := (HOB.out k hk).1; rcases hS with rfl | rfl <;> omega), fun k hk => by have := (HOB.out k hk).1; omega, hw.trans (HC.out.below hw.size (fun i hi => by rcases hi with rfl | rfl <;> omega))⟩
end Go.Proofs.Yteiemegkdnjpgaa
