/- The reference: Add, with a number and a class that are valid. Conditions stand in each theorem. -/
import Derived.Test.YtildofclgofjdaaRD
namespace Go.Proofs.Ytildofclgofjdaa
open Go.RowKit
set_option linter.unusedVariables false
set_option maxHeartbeats 400000
set_option maxRecDepth 100000
theorem RA1.fin {w : World} {base : Nat} {s : St} {v : Value} {z : Array Value} {q c : Int} {A : Option Addr} {n k : Nat} {wr : World} (h : RA1 w base s v z (addL s.L q c) (.slice A n k) wr) (hb : w.heap.size + 2 ≤ base) (he : addE s.L q c = 0) :
    RAddPost w s v q c (.returned (.tuple #[.agg (RC s (.slice A n k)), .int .i64 0])) ((wr.setCell ⟨w.heap.size, 5, none⟩ (.slice A n k)).setRow (w.heap.size + 1) (RC s (.slice A n k))) := by
  have hne : ∀ j, j < base → some j ≠ (Value.slice A n k).ownBlock := fun j hj e => by have := (h.row.lt j e.symm).1; omega
  have hC : Chg (fun i => i = w.heap.size ∨ i = w.heap.size + 1) wr ((wr.setCell ⟨w.heap.size, 5, none⟩ (.slice A n k)).setRow (w.heap.size + 1) (RC s (.slice A n k))) := by
    have c1 : Chg (fun i => i = w.heap.size ∨ i = w.heap.size + 1) wr (wr.setCell ⟨w.heap.size, 5, none⟩ (.slice A n k)) := (Chg.refl _ wr).setCell (.inl rfl) _
    exact c1.also ⟨rfl, rfl, rfl, by simp, fun j hj hn => setRow_other _ _ j _ (fun e => hn (.inr e))⟩
  refine ⟨A, n, k, by rw [he]; rfl, ?_, h.below.trans (hC.below h.below.size (fun i hi => by omega)), .inr (fun i hi => by have := (h.row.lt i hi).1; omega)⟩
  refine (Lds.of_own63 h.row).keep hC.size fun p hp hq => ?_
  have hL : 0 < (addL s.L q c).length := by unfold addL; rw [if_pos he, ins_length]; omega
  refine hC.cell hp ?_
  rintro hS
  obtain ⟨A', c', e1, _, hr⟩ := Lds.of_own63 h.row
  obtain ⟨g, o, e2, _⟩ := hr hL
  subst e2
  cases e1
  have := hq hL _ _ rfl
  have h3 := hne p.block (by omega)
  rw [this] at h3
  exact h3 rfl
set_option maxHeartbeats 4000000 in
theorem radd_ok (s : St) (v : Value) (q c : Int) (w : World) (hl : Lds w v s.L) (hm : s.L.length ≤ 100000) (h0 : 0 ≤ q) (h1 : q ≤ 65535) (h2 : 0 ≤ c) (h3 : c ≤ 3) :
    Calls Try.prog 19 #[.agg (RC s v), .int .i64 q, .int .i64 c] w (RAddPost w s v q c) := by
  have HL := Lib.hid hl
  have HAT : Hid (∀ W, Below w.heap.size w W → Calls Try.prog 39 #[.agg (RC s v), .int .i64 q] W (AtPost W s.L q)) := Lib.hid (fun W hW => at_any s v q W (hl.below hW) hm)
  obtain ⟨A, cc, rfl, hcc, hr⟩ := hl
  have HR := Lib.hid hr
  clear hr
  have HF := Lib.hid (fun (k : Nat) (hk : k < s.L.length) (he : s.L[k].1 = q) => add_found (c := c) h0 h1 h2 h3 hk he)
  have HN := Lib.hid (fun (hn : ∀ p ∈ s.L, p.1 ≠ q) => add_new (c := c) h0 h1 h2 h3 hn)
  have d1 : decide (q < 0) = false := by simp; omega
  have d2 : decide (65535 < q) = false := by simp; omega
  have d3 : decide (c < 0) = false := by simp; omega
  have d4 : decide (3 < c) = false := by simp; omega
  obtain ⟨i63, hi63, hz0, hz1, hz2⟩ := info_parts info63
  unfold RC at HAT ⊢
  go_enter Try.func19, Try.ntmps19
  go_wp2_with (first
   | ((go_at_call 39; with_reducible refine (HAT.out _ ((below_alloc _ _).alloc (by simp) _)).mono ?_); rintro e w3 ⟨i, rfl, hb, hcase⟩
      have HB := Lib.hid hb
      have HCS := Lib.hid hcase
      have R0 : Hid (w3.heap[w.heap.size]? = some (.cells (RC s (.slice A s.L.length cc)) 35 (0, 0))) := Lib.hid ((hb.block w.heap.size (by simp; omega)).trans (heap_alloc2_old w _ _))
      have R1 := Lib.hid ((hb.block (w.heap.size + 1) (by simp)).trans (heap_alloc2_new w _ _))
      clear hb hcase
      rcases HCS.out with ⟨rfl, hn⟩ | ⟨k, hk, rfl, he⟩)
   | (refine wpList_load_row rfl 35 _ rfl w.heap.size rfl 35 (RC s (.slice A s.L.length cc)) (0, 0) _ R0.out Try.underlying35 rfl info35 ?_)
   | (refine wpList_store_row rfl 35 _ _ rfl (w.heap.size + 1) (RC s (.slice A s.L.length cc)) rfl rfl 35 _ R1.out info35 rfl (RC_one _ _ _ _) ?_))
  · have hsz3 : w.heap.size + 2 ≤ w3.heap.size := by have := HB.out.size; simp at this; omega
    have HNN := Lib.hid hn
    clear hn
    have HT0 : Hid (RA1 w w3.heap.size s (.slice A s.L.length cc) #[.bool false, .int .i64 0, .int .i64 0, .int .i64 0, .int .i64 0, .slice none 0 0, .int .i64 0, .int .i64 0, .int .i64 0, .int .i64 0, .int .i64 0, .int .i64 0, .int .i64 0, .int .i64 0] (bld q c s.L false 0) (.slice none 0 0) w3) := Lib.hid ⟨World.ownsRow_nil _ _ _ _, ((below_alloc w _).alloc (by simp) _).trans (HB.out.mono (by simp; omega)), Nat.le_refl _, R0.out, R1.out⟩
    go_loopw [8, 9, 10] (fun l d i wr => ∃ (k : Nat) (dn : Bool), k ≤ s.L.length ∧ i = .int .i64 k ∧ d = .bool dn ∧ Hid (bldOk q s.L dn k) ∧ Hid (RA1 w w3.heap.size s (.slice A s.L.length cc) #[.bool false, .int .i64 0, .int .i64 0, .int .i64 0, .int .i64 0, .slice none 0 0, .int .i64 0, .int .i64 0, .int .i64 0, .int .i64 0, .int .i64 0, .int .i64 0, .int .i64 0, .int .i64 0] (bld q c s.L dn k) l wr)) (fun _ _ i _ => s.L.length - (RowKit.intOf i).toNat)
    case atStart => exact ⟨0, false, Nat.zero_le _, rfl, rfl, fun p hp => (by cases hp), HT0.out⟩
    case round =>
      obtain ⟨k, dn, hk, rfl, rfl, HOK, HT⟩ := hrel
      have HT_len := bld_len q c s.L dn k
      have c5 : wr.cell? ⟨w.heap.size, 5, none⟩ = some (.slice A s.L.length cc) := (cell_of_row wr w.heap.size 5 _ 35 (0, 0) HT.out.blk).trans rfl
      by_cases hlt : k < s.L.length
      · obtain ⟨g, o, rfl, hg, hcell⟩ := HR.out (by omega)
        have c1 : wr.cell? ⟨g, o + k * 2, none⟩ = some (.int .i64 s.L[k].1) := (HT.out.below.cell (by exact hg)).trans (hcell k hlt).1
        have c2 : wr.cell? ⟨g, o + k * 2 + 1, none⟩ = some (.int .i64 s.L[k].2) := (HT.out.below.cell (by exact hg)).trans (hcell k hlt).2
        have HCELL := Lib.hid hcell
        cases dn
        · have hne := HNN.out _ (List.getElem_mem hlt)
          by_cases hq : q < s.L[k].1
          · obtain ⟨e1, e2⟩ := bld_now (c := c) HOK.out hlt hq
            have E1 := Lib.hid e1
            have E2 := Lib.hid e2
            clear e1 e2 hcell
            go_wp2_with (first
              | (at_builtin; refine wpList_append_own _ rfl _ _ 32 rfl w3.heap.size 63 i63 (.agg #[.int .i64 0, .int .i64 0]) 2 16 Try.underlying32 hi63 hz0 hz1 hz2 rfl (by decide) _ _ _ rfl (HS1.out.row.alloc _) ⟨w4.heap.size, 0, none⟩ 1 1 [.int .i64 s.L[k].1, .int .i64 s.L[k].2] rfl rfl (cell_two_new w4 _ _ 63) (by intro u hu; simp at hu; rcases hu with rfl | rfl <;> rfl) (by have := HS1_len; unfold maxLen; omega) (by have := HS1_len; omega) (by have := HS1.out.size; simp; omega) ?_; intro v5 w5 ho hg _; have HO2 := Lib.hid ho; have HG2 := Lib.hid hg; clear ho hg)
              | (at_builtin; refine wpList_append_own _ rfl _ _ 32 rfl w3.heap.size 63 i63 (.agg #[.int .i64 0, .int .i64 0]) 2 16 Try.underlying32 hi63 hz0 hz1 hz2 rfl (by decide) _ _ _ rfl (HT.out.row.alloc _) ⟨wr.heap.size, 0, none⟩ 1 1 [.int .i64 q, .int .i64 c] rfl rfl (cell_two_new wr _ _ 63) (by intro u hu; simp at hu; rcases hu with rfl | rfl <;> rfl) (by have := HT_len; unfold maxLen; omega) (by have := HT_len; omega) (by have := HT.out.size; simp; omega) ?_; intro v4 w4 ho hg1 _; have HO := Lib.hid ho; have HG := Lib.hid hg1; clear ho hg1; have HS1 := Lib.hid (HT.out.step hsz3 _ _ _ HO.out HG.out); have HS1_len : (bld q c s.L false k ++ [(q, c)]).length ≤ s.L.length + 2 := (by rw [List.length_append]; simp; omega); have c51 : w4.cell? ⟨w.heap.size, 5, none⟩ = some (.slice (some ⟨g, o, none⟩) s.L.length cc) := (cell_of_row w4 w.heap.size 5 _ 35 (0, 0) HS1.out.blk).trans rfl; have c11 : w4.cell? ⟨g, o + k * 2, none⟩ = some (.int .i64 s.L[k].1) := (HS1.out.below.cell (by exact hg)).trans (HCELL.out k hlt).1; have c21 : w4.cell? ⟨g, o + k * 2 + 1, none⟩ = some (.int .i64 s.L[k].2) := (HS1.out.below.cell (by exact hg)).trans (HCELL.out k hlt).2))
            go_roundw
            case rel => exact ⟨k + 1, true, by omega, by go_num, rfl, E2.out, by rw [E1.out]; exact HS1.out.step hsz3 _ _ _ HO2.out HG2.out⟩
            case measure => simp [RowKit.intOf]; omega
          · obtain ⟨e1, e2⟩ := bld_not (c := c) HOK.out hlt (by omega)
            have E1 := Lib.hid e1
            have E2 := Lib.hid e2
            clear e1 e2 hcell
            have hq1 : decide (q < s.L[k].1) = false := by simp; omega
            go_wp2_with (at_builtin; refine wpList_append_own _ rfl _ _ 32 rfl w3.heap.size 63 i63 (.agg #[.int .i64 0, .int .i64 0]) 2 16 Try.underlying32 hi63 hz0 hz1 hz2 rfl (by decide) _ _ _ rfl (HT.out.row.alloc _) ⟨wr.heap.size, 0, none⟩ 1 1 [.int .i64 s.L[k].1, .int .i64 s.L[k].2] rfl rfl (cell_two_new wr _ _ 63) (by intro u hu; simp at hu; rcases hu with rfl | rfl <;> rfl) (by have := HT_len; unfold maxLen; omega) (by have := HT_len; omega) (by have := HT.out.size; simp; omega) ?_; intro v4 w4 ho hg _; have HO := Lib.hid ho; have HG := Lib.hid hg; clear ho hg)
            go_roundw
            case rel => exact ⟨k + 1, false, by omega, by go_num, rfl, E2.out, by rw [E1.out]; exact HT.out.step hsz3 _ _ _ HO.out HG.out⟩
            case measure => simp [RowKit.intOf]; omega
        · obtain ⟨e1, e2⟩ := bld_done (c := c) HOK.out hlt
          have E1 := Lib.hid e1
          have E2 := Lib.hid e2
          clear e1 e2 hcell
          go_wp2_with (at_builtin; refine wpList_append_own _ rfl _ _ 32 rfl w3.heap.size 63 i63 (.agg #[.int .i64 0, .int .i64 0]) 2 16 Try.underlying32 hi63 hz0 hz1 hz2 rfl (by decide) _ _ _ rfl (HT.out.row.alloc _) ⟨wr.heap.size, 0, none⟩ 1 1 [.int .i64 s.L[k].1, .int .i64 s.L[k].2] rfl rfl (cell_two_new wr _ _ 63) (by intro u hu; simp at hu; rcases hu with rfl | rfl <;> rfl) (by have := HT_len; unfold maxLen; omega) (by have := HT_len; omega) (by have := HT.out.size; simp; omega) ?_; intro v4 w4 ho hg _; have HO := Lib.hid ho; have HG := Lib.hid hg; clear ho hg)
          go_roundw
          case rel => exact ⟨k + 1, true, by omega, by go_num, rfl, E2.out, by rw [E1.out]; exact HT.out.step hsz3 _ _ _ HO.out HG.out⟩
          case measure => simp [RowKit.intOf]; omega
      · have hkl : k = s.L.length := by omega
        have hAE := Lib.hid (HN.out HNN.out)
        cases dn
        · have HALL : Hid (∀ p ∈ s.L, p.1 < q) := by have := HOK.out; unfold bldOk at this; rw [if_neg (by decide), hkl, List.take_length] at this; exact this
          have HBL : Hid (bld q c s.L false k ++ [(q, c)] = addL s.L q c) := Lib.hid (by rw [hAE.out.2, ins_last HALL.out]; unfold bld; rw [if_neg (by decide), hkl, List.take_length])
          go_upto_region 16 with (at_builtin; refine wpList_append_own _ rfl _ _ 32 rfl w3.heap.size 63 i63 (.agg #[.int .i64 0, .int .i64 0]) 2 16 Try.underlying32 hi63 hz0 hz1 hz2 rfl (by decide) _ _ _ rfl (HT.out.row.alloc _) ⟨wr.heap.size, 0, none⟩ 1 1 [.int .i64 q, .int .i64 c] rfl rfl (cell_two_new wr _ _ 63) (by intro u hu; simp at hu; rcases hu with rfl | rfl <;> rfl) (by have := HT_len; unfold maxLen; omega) (by have := HT_len; omega) (by have := HT.out.size; simp; omega) ?_; intro v4 w4 ho hg _; have HO := Lib.hid ho; have HG := Lib.hid hg; clear ho hg)
          have HTT : Hid (RA1 w w3.heap.size s (.slice A s.L.length cc) #[.bool false, .int .i64 0, .int .i64 0, .int .i64 0, .int .i64 0, .slice none 0 0, .int .i64 0, .int .i64 0, .int .i64 0, .int .i64 0, .int .i64 0, .int .i64 0, .int .i64 0, .int .i64 0] (addL s.L q c) v4 w4) := Lib.hid (by rw [← HBL.out]; exact HT.out.step hsz3 _ _ _ HO.out HG.out)
          clear HO HG
          obtain ⟨A', c', e', _⟩ := Lds.of_own63 HTT.out.row
          subst e'
          have HSL := Lib.hid HTT.out
          have RF : Hid ((w4.setCell ⟨w.heap.size, 5, none⟩ (.slice A' (addL s.L q c).length c')).heap[w.heap.size]? = some (.cells (RC s (.slice A' (addL s.L q c).length c')) 35 (0, 0))) := Lib.hid (heap_setCell_same w4 w.heap.size 5 _ 35 _ HSL.out.blk)
          have RS := Lib.hid ((heap_setCell_other w4 ⟨w.heap.size, 5, none⟩ (w.heap.size + 1) (.slice A' (addL s.L q c).length c') (by simp)).trans HSL.out.res)
          have cf := frozen_of_row w4 w.heap.size 5 _ 35 HSL.out.blk
          have c5f : w4.cell? ⟨w.heap.size, 5, none⟩ = some (.slice A s.L.length cc) := (cell_of_row w4 w.heap.size 5 _ 35 (0, 0) HSL.out.blk).trans rfl
          go_wp2_with (first
            | (refine wpList_load_row rfl 35 _ rfl w.heap.size rfl 35 _ (0, 0) _ RF.out Try.underlying35 rfl info35 ?_)
            | (refine wpList_store_row rfl 35 _ _ rfl (w.heap.size + 1) (RC s (.slice A' (addL s.L q c).length c')) rfl rfl 35 _ RS.out info35 rfl (RC_one _ _ _ _) ?_))
          (try simp only [Exit.inBlock, Exit.then])
          refine bodyPost_ret (v := .tuple #[.agg (RC s (.slice A' (addL s.L q c).length c')), .int .i64 0]) ?_ rfl ?_
          · exact results_row1 (a := 6) (b := 7) (ty := 35) rfl _ _ (w.heap.size + 1) 35 (RC s (.slice A' (addL s.L q c).length c')) (0, 0) _ rfl (setRow_heap _ _ _ _ 35 (0, 0) RS.out) Try.underlying35 rfl info35
          · exact HSL.out.fin hsz3 hAE.out.1
        · have HTT : Hid (RA1 w w3.heap.size s (.slice A s.L.length cc) #[.bool false, .int .i64 0, .int .i64 0, .int .i64 0, .int .i64 0, .slice none 0 0, .int .i64 0, .int .i64 0, .int .i64 0, .int .i64 0, .int .i64 0, .int .i64 0, .int .i64 0, .int .i64 0] (addL s.L q c) u8 wr) := Lib.hid (by rw [hAE.out.2]; have := HT.out; unfold bld at this; rw [if_pos rfl, hkl, List.take_length] at this; exact this)
          clear HT HT_len
          obtain ⟨A', c', e', _⟩ := Lds.of_own63 HTT.out.row
          subst e'
          have HSL := Lib.hid HTT.out
          have RF : Hid ((wr.setCell ⟨w.heap.size, 5, none⟩ (.slice A' (addL s.L q c).length c')).heap[w.heap.size]? = some (.cells (RC s (.slice A' (addL s.L q c).length c')) 35 (0, 0))) := Lib.hid (heap_setCell_same wr w.heap.size 5 _ 35 _ HSL.out.blk)
          have RS := Lib.hid ((heap_setCell_other wr ⟨w.heap.size, 5, none⟩ (w.heap.size + 1) (.slice A' (addL s.L q c).length c') (by simp)).trans HSL.out.res)
          have cf := frozen_of_row wr w.heap.size 5 _ 35 HSL.out.blk
          have c5f : wr.cell? ⟨w.heap.size, 5, none⟩ = some (.slice A s.L.length cc) := (cell_of_row wr w.heap.size 5 _ 35 (0, 0) HSL.out.blk).trans rfl
          go_wp2_with (first
            | (refine wpList_load_row rfl 35 _ rfl w.heap.size rfl 35 _ (0, 0) _ RF.out Try.underlying35 rfl info35 ?_)
            | (refine wpList_store_row rfl 35 _ _ rfl (w.heap.size + 1) (RC s (.slice A' (addL s.L q c).length c')) rfl rfl 35 _ RS.out info35 rfl (RC_one _ _ _ _) ?_))
          (try simp only [Exit.inBlock, Exit.then])
          refine bodyPost_ret (v := .tuple #[.agg (RC s (.slice A' (addL s.L q c).length c')), .int .i64 0]) ?_ rfl ?_
          · exact results_row1 (a := 6) (b := 7) (ty := 35) rfl _ _ (w.heap.size + 1) 35 (RC s (.slice A' (addL s.L q c).length c')) (0, 0) _ rfl (setRow_heap _ _ _ _ 35 (0, 0) RS.out) Try.underlying35 rfl info35
          · exact HSL.out.fin hsz3 hAE.out.1
  · obtain ⟨e1, e2⟩ := HF.out k hk he
    (try simp only [Exit.inBlock, Exit.then])
    refine bodyPost_ret (v := .tuple #[.agg (RC s (.slice A s.L.length cc)), .int .i64 11]) ?_ rfl ?_
    · exact results_row1 (a := 6) (b := 7) (ty := 35) rfl _ _ (w.heap.size + 1) 35 (RC s (.slice A s.L.length cc)) (0, 0) _ rfl (setRow_heap w3 _ _ _ 35 (0, 0) R1.out) Try.underlying35 rfl info35
    · have b0 : Below w.heap.size w w3 := ((below_alloc w _).alloc (by simp) _).trans (HB.out.mono (by simp; omega))
      have b1 : Below w.heap.size w (w3.setRow (w.heap.size + 1) (RC s (.slice A s.L.length cc))) := b0.trans ⟨rfl, rfl, rfl, by simp, fun k hk => setRow_other w3 _ k _ (by omega)⟩
      exact ⟨A, _, cc, by rw [e1, e2]; rfl, by rw [e2]; exact HL.out.below b1, b1, .inl ⟨rfl, e2⟩⟩
theorem radd_any2 (s : St) (v : Value) (q c : Int) (w : World) (hl : Lds w v s.L) (hm : s.L.length ≤ 100000) :
    Calls Try.prog 19 #[.agg (RC s v), .int .i64 q, .int .i64 c] w (RAddPost w s v q c) := by
  by_cases h : q < 0 ∨ 65535 < q ∨ c < 0 ∨ 3 < c
  · exact radd_bad s v q c w hl h
  · exact radd_ok s v q c w hl hm (by omega) (by omega) (by omega) (by omega)
theorem radd_any (s : St) (v : Value) (q c : Int) (w : World) (hl : Lds w v s.L) (hm : s.L.length ≤ 100000) :
    Calls Try.prog 19 #[.agg (RC s v), .int .i64 q, .int .i64 c] w fun e w' => ∃ A n k, e = .returned (.tuple #[.agg (RC (s.with (addL s.L q c)) (.slice A n k)), .int .i64 (addE s.L q c)]) ∧ Lds w' (.slice A n k) (addL s.L q c) ∧ Below w.heap.size w w' :=
  (radd_any2 s v q c w hl hm).mono fun _ _ ⟨A, n, k, h1, h2, h3, _⟩ => ⟨A, n, k, h1, h2, h3⟩
end Go.Proofs.Ytildofclgofjdaa
