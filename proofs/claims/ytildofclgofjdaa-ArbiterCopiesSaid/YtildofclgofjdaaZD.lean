/- The contract of the reference's Remove. Conditions stand in each theorem. -/
import Derived.Test.YtildofclgofjdaaZC
import Derived.Test.YtildofclgofjdaaQC
namespace Go.Proofs.Ytildofclgofjdaa
open Go.RowKit Go.Shelf
set_option linter.unusedVariables false
set_option maxHeartbeats 4000000
set_option maxRecDepth 100000
def RRemPost (w : World) (s : St) (v : Value) (q : Int) (e : Ending) (w' : World) : Prop :=
  ∃ A n k, e = .returned (.tuple #[.agg (RC (s.with (remL s.L q)) (.slice A n k)), .int .i64 (remE s.L q)]) ∧ Lds w' (.slice A n k) (remL s.L q) ∧ Below w.heap.size w w' ∧ Kp w v s.L (.slice A n k) (remL s.L q)
theorem rem_bad {L : List (Int × Int)} {q : Int} (h : q < 0 ∨ 65535 < q) : remE L q = 2 ∧ remL L q = L := by
  have e : remE L q = 2 := by
    unfold remE
    rw [if_pos (by unfold numB; simp; omega)]
  exact ⟨e, by unfold remL; rw [if_neg (by rw [e]; decide)]⟩
theorem rem_none {L : List (Int × Int)} {q : Int} (h0 : 0 ≤ q) (h1 : q ≤ 65535) (hn : ∀ p ∈ L, p.1 ≠ q) : remE L q = 9 ∧ remL L q = L := by
  have e : remE L q = 9 := by
    unfold remE
    rw [if_neg (by unfold numB; simp; omega), if_neg (by rw [look_none.2 hn]; simp)]
  exact ⟨e, by unfold remL; rw [if_neg (by rw [e]; decide)]⟩
theorem rem_some {L : List (Int × Int)} {q : Int} (hs : Srt L) (h0 : 0 ≤ q) (h1 : q ≤ 65535) {k : Nat} (hk : k < L.length) (he : L[k].1 = q) : remE L q = 0 ∧ remL L q = L.take k ++ L.drop (k + 1) := by
  have hl : (look L q).isSome = true := by
    have : look L q = some L[k].2 := look_of_mem hs (by rw [← he]; exact List.getElem_mem hk)
    rw [this]; rfl
  have e : remE L q = 0 := by
    unfold remE
    rw [if_neg (by unfold numB; simp; omega), if_pos hl]
  exact ⟨e, by unfold remL; rw [if_pos e, ← he]; exact del_cut hs hk⟩
theorem rrem_bad (s : St) (v : Value) (q : Int) (w : World) (hl : Lds w v s.L) (h : q < 0 ∨ 65535 < q) :
    Calls Try.prog 28 #[.agg (RC s v), .int .i64 q] w (RRemPost w s v q) := by
  have HL := Lib.hid hl
  obtain ⟨e1, e2⟩ := rem_bad (L := s.L) h
  have E1 := Lib.hid e1
  have E2 := Lib.hid e2
  clear e1 e2
  obtain ⟨A, k, rfl, hcc, hr⟩ := hl
  clear hr
  have fin : Hid (∀ o1 o2, RRemPost w s (.slice A s.L.length k) q (.returned (.tuple #[.agg (RC s (.slice A s.L.length k)), .int .i64 2])) ((w.alloc o1).alloc o2)) := Lib.hid (fun o1 o2 => ⟨A, _, k, by rw [E1.out, E2.out]; rfl, by rw [E2.out]; exact HL.out.below ((below_alloc _ _).alloc (by simp) _), (below_alloc _ _).alloc (by simp) _, .inl ⟨rfl, E2.out⟩⟩)
  unfold RC
  by_cases a1 : q < 0
  · clear h
    go_enter Try.func28, Try.ntmps28
    go_wp2
    (try simp only [Exit.inBlock, Exit.then])
    refine bodyPost_ret (v := .tuple #[.agg (RC s (.slice A s.L.length k)), .int .i64 2]) ?_ rfl (fin.out _ _)
    exact results_row1 (a := 4) (b := 5) (ty := 35) rfl _ _ (w.heap.size + 1) 35 (RC s (.slice A s.L.length k)) (0, 0) _ rfl (heap_alloc2_new w _ _) Try.underlying35 rfl info35
  have a2 : 65535 < q := by omega
  clear h
  go_enter Try.func28, Try.ntmps28
  go_wp2
  (try simp only [Exit.inBlock, Exit.then])
  refine bodyPost_ret (v := .tuple #[.agg (RC s (.slice A s.L.length k)), .int .i64 2]) ?_ rfl (fin.out _ _)
  exact results_row1 (a := 4) (b := 5) (ty := 35) rfl _ _ (w.heap.size + 1) 35 (RC s (.slice A s.L.length k)) (0, 0) _ rfl (heap_alloc2_new w _ _) Try.underlying35 rfl info35
attribute [local go_sem ↓ 100000] builtin_appX
theorem rrem_ok (s : St) (v : Value) (q : Int) (w : World) (hl : Lds w v s.L) (hs : Srt s.L) (h0 : 0 ≤ q) (h1 : q ≤ 65535) :
    Calls Try.prog 28 #[.agg (RC s v), .int .i64 q] w (RRemPost w s v q) := by
  have HL := Lib.hid hl
  have hm := hs.len
  have HAT : Hid (∀ W, Below w.heap.size w W → Calls Try.prog 39 #[.agg (RC s v), .int .i64 q] W (AtPost W s.L q)) := Lib.hid (fun W hW => at_any s v q W (hl.below hW) (by omega))
  obtain ⟨A, cc, rfl, hcc, hr⟩ := hl
  clear hr
  have HF := Lib.hid (fun (k : Nat) (hk : k < s.L.length) (he : s.L[k].1 = q) => rem_some hs h0 h1 hk he)
  have HN := Lib.hid (fun (hn : ∀ p ∈ s.L, p.1 ≠ q) => rem_none h0 h1 hn)
  have d1 : decide (q < 0) = false := by simp; omega
  have d2 : decide (65535 < q) = false := by simp; omega
  have d3 : ¬ q < 0 := by omega
  have d4 : ¬ 65535 < q := by omega
  clear hs
  unfold RC at HAT ⊢
  go_enter Try.func28, Try.ntmps28
  go_wp2_with (first
   | ((go_at_call 39; with_reducible refine (HAT.out _ ((below_alloc _ _).alloc (by simp) _)).mono ?_); rintro e w3 ⟨i, rfl, hb, hcase⟩
      have HB := Lib.hid hb
      have HCS := Lib.hid hcase
      have R0 : Hid (w3.heap[w.heap.size]? = some (.cells (RC s (.slice A s.L.length cc)) 35 (0, 0))) := Lib.hid ((hb.block w.heap.size (by simp; omega)).trans (heap_alloc2_old w _ _))
      have R1 := Lib.hid ((hb.block (w.heap.size + 1) (by simp)).trans (heap_alloc2_new w _ _))
      clear hb hcase
      rcases HCS.out with ⟨rfl, hn⟩ | ⟨k, hk, rfl, he⟩)
   | (refine wpList_load_row rfl 35 _ rfl w.heap.size rfl 35 (RC s (.slice A s.L.length cc)) (0, 0) _ R0.out Try.underlying35 rfl info35 ?_)
   | (refine wpList_store_row rfl 35 _ _ rfl (w.heap.size + 1) (RC s (.slice A s.L.length cc)) rfl rfl 35 _ R1.out info35 rfl (RC_one _ _ _ _) ?_))
  · obtain ⟨e1, e2⟩ := HN.out hn
    (try simp only [Exit.inBlock, Exit.then])
    refine bodyPost_ret (v := .tuple #[.agg (RC s (.slice A s.L.length cc)), .int .i64 9]) ?_ rfl ?_
    · exact results_row1 (a := 4) (b := 5) (ty := 35) rfl _ _ (w.heap.size + 1) 35 (RC s (.slice A s.L.length cc)) (0, 0) _ rfl (setRow_heap w3 _ _ _ 35 (0, 0) R1.out) Try.underlying35 rfl info35
    · have b0 : Below w.heap.size w w3 := ((below_alloc w _).alloc (by simp) _).trans (HB.out.mono (by simp; omega))
      have b1 : Below w.heap.size w (w3.setRow (w.heap.size + 1) (RC s (.slice A s.L.length cc))) := b0.trans ⟨rfl, rfl, rfl, by simp, fun k hk => setRow_other w3 _ k _ (by omega)⟩
      exact ⟨A, _, cc, by rw [e1, e2]; rfl, by rw [e2]; exact HL.out.below b1, b1, .inl ⟨rfl, e2⟩⟩
  · obtain ⟨e1, e2⟩ := HF.out k hk he
    have E1 := Lib.hid e1
    have E2 := Lib.hid e2
    have B0 : Below w.heap.size w w3.drew := (((below_alloc w _).alloc (by simp) _).trans (HB.out.mono (by simp; omega))).drew
    have hz3 : w.heap.size + 2 ≤ w3.heap.size := by have := HB.out.size; simp at this; omega
    obtain ⟨V1, ev1, hV1⟩ := lds_slice_h (hi := k) (HL.out.below B0) (by omega) hcc
    obtain ⟨V2, ev2, hV2⟩ := lds_slice_l (lo := k + 1) (HL.out.below B0) (by omega) hcc
    rw [show (((k + 1 : Nat) : Int)) = (k : Int) + 1 by omega] at ev2
    have hk1 : (s.L.take k).length ≤ 16777216 := by rw [List.length_take]; omega
    have hk2 : (s.L.drop (k + 1)).length ≤ 16777216 := by rw [List.length_drop]; omega
    obtain ⟨A1, c1, W1, A2, c2, W2, ra1, ra2, b1, b2, own⟩ := app_two w3.drew hV1 hV2 hk1 hk2
    rw [← e2] at ra2 own
    have Ra1 := appX_run ra1
    have Ra2 := appX_run ra2
    have hks : (k : Int) ≤ 65536 := by omega
    generalize s.L.take k = l1 at *
    generalize s.L.drop (k + 1) = l2 at *
    generalize hL' : remL s.L q = L' at *
    have q0 : w3.drew.heap[w.heap.size]? = some (.cells (RC s (.slice A s.L.length cc)) 35 (0, 0)) := R0.out
    have q1 : W1.heap[w.heap.size]? = some (.cells (RC s (.slice A s.L.length cc)) 35 (0, 0)) := (b1.block _ (by show w.heap.size < w3.heap.size; omega)).trans q0
    have q2 : W2.heap[w.heap.size]? = some (.cells (RC s (.slice A s.L.length cc)) 35 (0, 0)) := (b2.block _ (by show w.heap.size < w3.heap.size; omega)).trans q0
    have c50 : w3.drew.cell? ⟨w.heap.size, 5, none⟩ = some (.slice A s.L.length cc) := (cell_of_row _ w.heap.size 5 _ 35 (0, 0) q0).trans rfl
    have c51 : W1.cell? ⟨w.heap.size, 5, none⟩ = some (.slice A s.L.length cc) := (cell_of_row _ w.heap.size 5 _ 35 (0, 0) q1).trans rfl
    have c52 : W2.cell? ⟨w.heap.size, 5, none⟩ = some (.slice A s.L.length cc) := (cell_of_row _ w.heap.size 5 _ 35 (0, 0) q2).trans rfl
    have f52 := frozen_of_row W2 w.heap.size 5 _ 35 q2
    have RF : Hid ((W2.setCell ⟨w.heap.size, 5, none⟩ (.slice A2 L'.length c2)).heap[w.heap.size]? = some (.cells (RC (s.with L') (.slice A2 L'.length c2)) 35 (0, 0))) := Lib.hid (heap_setCell_same W2 w.heap.size 5 _ 35 _ q2)
    have RG : Hid ((W2.setCell ⟨w.heap.size, 5, none⟩ (.slice A2 L'.length c2)).heap[w.heap.size + 1]? = _) := Lib.hid ((Below.heap_setCell _ _ _ _ (by simp)).trans ((b2.block (w.heap.size + 1) (by show w.heap.size + 1 < w3.heap.size; omega)).trans R1.out))
    have OWN := Lib.hid own
    have BB := Lib.hid (B0.trans (b2.mono (by show w.heap.size ≤ w3.heap.size; omega)))
    clear ra1 ra2 q0 q1 q2 own b1 b2 hV1 hV2 e1 e2 B0 HF HN HL HAT HCS HB
    refine Code.wp_mono nrm_le ?_
    go_region
    simp only [nrm]
    go_wp2_with (first
      | (refine wpList_load_row rfl 35 _ rfl w.heap.size rfl 35 _ (0, 0) _ RF.out Try.underlying35 rfl info35 ?_)
      | (refine wpList_store_row rfl 35 _ _ rfl (w.heap.size + 1) (RC (s.with L') (.slice A2 L'.length c2)) rfl rfl 35 _ RG.out info35 rfl (RC_one _ _ _ _) ?_))
    (try simp only [Exit.inBlock, Exit.then])
    refine bodyPost_ret (v := .tuple #[.agg (RC (s.with L') (.slice A2 L'.length c2)), .int .i64 0]) ?_ rfl ?_
    · exact results_row1 (a := 4) (b := 5) (ty := 35) rfl _ _ (w.heap.size + 1) 35 (RC (s.with L') (.slice A2 L'.length c2)) (0, 0) _ rfl (setRow_heap _ _ _ _ 35 (0, 0) RG.out) Try.underlying35 rfl info35
    · have hC : Chg (fun i => i = w.heap.size ∨ i = w.heap.size + 1) W2 ((W2.setCell ⟨w.heap.size, 5, none⟩ (.slice A2 L'.length c2)).setRow (w.heap.size + 1) (RC (s.with L') (.slice A2 L'.length c2))) :=
        ((Chg.refl _ W2).setCell (.inl rfl) _).also ⟨rfl, rfl, rfl, by simp, fun j hj hn => setRow_other _ _ j _ (fun e => hn (.inr e))⟩
      have hoff : Off (fun i => i = w.heap.size ∨ i = w.heap.size + 1) (.slice A2 L'.length c2) L' := fun _ i hi e => by
        have h9 := (OWN.out.lt i hi).1
        have h8 : w3.heap.size ≤ i := h9
        omega
      refine ⟨A2, L'.length, c2, by rw [E1.out, hL'], by rw [hL']; exact (Lds.of_own63 OWN.out).chg hC hoff, BB.out.trans (hC.below BB.out.size (fun i hi => by omega)), .inr (fun i hi => by have h9 : w3.heap.size ≤ i := (OWN.out.lt i hi).1; omega)⟩
theorem rrem_any (s : St) (v : Value) (q : Int) (w : World) (hl : Lds w v s.L) (hs : Srt s.L) : Calls Try.prog 28 #[.agg (RC s v), .int .i64 q] w (RRemPost w s v q) := by
  by_cases h : q < 0 ∨ 65535 < q
  · exact rrem_bad s v q w hl h
  · exact rrem_ok s v q w hl hs (by omega) (by omega)
end Go.Proofs.Ytildofclgofjdaa
