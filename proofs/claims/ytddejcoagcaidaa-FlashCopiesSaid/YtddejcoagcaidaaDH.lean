/- The reference's Erase: its walk. Conditions stand in each theorem. -/
import Derived.Test.YtddejcoagcaidaaDG
namespace Go.Proofs.Ytddejcoagcaidaa
open Go.RowKit
set_option linter.unusedVariables false
set_option maxHeartbeats 16000000
set_option maxRecDepth 100000
attribute [local go_sem ↓ 100000] builtin_appX2
theorem IntL.at_ {w : World} {v : Value} {n : Nat} {e : Nat → Int} (h : IntL w v ((List.range n).map e)) (hn : 0 < n) : ∃ g c cur, v = .slice (some ⟨g, 0, none⟩) n c ∧ n ≤ c ∧ w.heap[g]? = some (.cells cur 3 (0, 0)) ∧ ∀ j, j < n → cur[j]? = some (.int .i64 (e j)) := by
  obtain ⟨A, c, rfl, hc, hr⟩ := h
  simp only [List.length_map, List.length_range] at hc hr ⊢
  obtain ⟨g, cur, rfl, h1, h2⟩ := hr hn
  exact ⟨g, c, cur, rfl, hc, h1, fun j hj => by rw [h2 j hj]; simp⟩
theorem er_none {s : Dev} {q : Int} (h : s.hasB q = false) : s.erE q = 2 ∧ s.erS q = s := ⟨if_pos h, if_neg (by rw [h]; simp)⟩
theorem er_off {s : Dev} {q : Int} (h : s.hasB q = true) (ho : s.off = true) : s.erE q = 50 ∧ s.erS q = s := by
  refine ⟨?_, if_neg (by rw [ho]; simp)⟩
  unfold Dev.erE
  rw [if_neg (by rw [h]; decide), if_pos ho]
theorem er_worn {s : Dev} {i : Nat} (hi : i < s.nb) (ho : s.off = false) (he : (s.bk i).er = s.en) : s.erE (i : Int) = 56 ∧ s.erS (i : Int) = s := by
  have h1 := hasB_of hi
  have h2 := ers_nat hi
  refine ⟨?_, if_neg (fun h => h.2.2 (by rw [h2]; exact he))⟩
  unfold Dev.erE
  rw [if_neg (by rw [h1]; decide), if_neg (by rw [ho]; decide), if_pos (by rw [h2]; exact he)]
theorem rErase_no {w : World} {fs : List Int} {s : Dev} {vf vp ve : Value} {pb : Int} (h : Rd w fs s vf vp ve pb) (hg : Gd s) (q : Int) (hno : s.hasB q = false ∨ s.off = true ∨ ∃ i : Nat, q = (i : Int) ∧ (s.bk i).er = s.en) : Calls Try.prog 36 #[.agg (rdv s vf vp ve pb), .int .i64 q] w (RvPost w fs (s.erS q) (s.erE q)) := by
  have H := Lib.hid h
  have hnp := hg.np
  have hnb := hg.nb
  obtain ⟨ge, ce, cure, rfl, hce, hhe, hre⟩ := h.ers.at_ (by omega)
  obtain ⟨⟨A1, n1, c1, rfl⟩, -, -⟩ := h.forms
  obtain ⟨g, c, cur, rfl, hc, hh, hrow⟩ := id h.grid
  have HE := Lib.hid (fun W => rExists_any s (.slice A1 n1 c1) (.slice (some ⟨ge, 0, none⟩) s.nb ce) (some ⟨g, 0, none⟩) c pb q W)
  simp only [rdv] at HE ⊢
  have e1 : (s.np : Int) ≤ 512 := by omega
  have e2 : (s.nb : Int) ≤ 4096 := by omega
  obtain ⟨W0, hW0⟩ : ∃ W0, W0 = (w.alloc (.cells #[.int .i64 (s.nb : Int), .int .i64 (s.np : Int), .int .i64 (s.sz : Int), .int .i64 s.en, .slice A1 n1 c1, .slice (some ⟨g, 0, none⟩) s.nb c, .slice (some ⟨ge, 0, none⟩) s.nb ce, .int .i64 s.n, .int .i64 s.po, .int .i64 pb, .bool s.off] 35)).alloc (.cells #[.int .i64 0, .int .i64 0, .int .i64 0, .int .i64 0, .slice none 0 0, .slice none 0 0, .slice none 0 0, .int .i64 0, .int .i64 0, .int .i64 0, .bool false] 35) := ⟨_, rfl⟩
  have hb0 : Below w.heap.size w W0 := by rw [hW0]; exact (balloc w _).alloc (by simp) _
  have hbx : W0.heap[w.heap.size]? = some (.cells #[.int .i64 (s.nb : Int), .int .i64 (s.np : Int), .int .i64 (s.sz : Int), .int .i64 s.en, .slice A1 n1 c1, .slice (some ⟨g, 0, none⟩) s.nb c, .slice (some ⟨ge, 0, none⟩) s.nb ce, .int .i64 s.n, .int .i64 s.po, .int .i64 pb, .bool s.off] 35 (0, 0)) := by rw [hW0]; exact heap_alloc2_old w _ _
  have hrx : W0.heap[w.heap.size + 1]? = some (.cells #[.int .i64 0, .int .i64 0, .int .i64 0, .int .i64 0, .slice none 0 0, .slice none 0 0, .slice none 0 0, .int .i64 0, .int .i64 0, .int .i64 0, .bool false] 35 (0, 0)) := by rw [hW0]; exact heap_alloc2_new w _ _
  have HX := Lib.hid (fun W' (hb : Below W0.heap.size W0 W') => box11 hbx hb)
  have HRX := Lib.hid hrx
  have HB0 := Lib.hid hb0
  have HW := Lib.hid hW0
  have hqi := hasB_iff s q
  have HED := Lib.hid (fun i (hi : i < s.nb) W' (hb : Below w.heap.size w W') => (hb.cell (p := ⟨ge, i, none⟩) (Array.getElem?_eq_some_iff.1 hhe).1).trans ((cell_of_row _ _ i _ _ _ hhe).trans (hre i hi)))
  clear h hnp hbx hrx hW0 hrow hh hhe hre hb0 hc hce
  cases hq : s.hasB q with
  | false =>
    obtain ⟨k1, k2⟩ := er_none hq
    rw [k1, k2]
    have HNO := Lib.hid (fun W (hb : Below w.heap.size w W) => (show RvPost w fs s 2 (.returned (.tuple #[.agg #[.int .i64 (s.nb : Int), .int .i64 (s.np : Int), .int .i64 (s.sz : Int), .int .i64 s.en, .slice A1 n1 c1, .slice (some ⟨g, 0, none⟩) s.nb c, .slice (some ⟨ge, 0, none⟩) s.nb ce, .int .i64 s.n, .int .i64 s.po, .int .i64 pb, .bool s.off], .int .i64 2])) W from ⟨_, _, _, pb, rfl, H.out.below hb, hb⟩))
    rw [hq] at HE
    clear k1 k2 hq hqi hno hg H HED
    go_enter Try.func36, Try.ntmps36
    go_upto_region 1 with fail
    rw [← HW.out]
    obtain ⟨u0, u1, u2, u3, u4, u5, u6, u7, u8, u9, u10⟩ := HX.out W0 (Below.refl _ _)
    go_wp2_with (first | ((go_at_call 40; with_reducible refine (HE.out _).mono ?_); rintro e w2 ⟨rfl, hb⟩; obtain ⟨x0, x1, x2, x3, x4, x5, x6, x7, x8, x9, x10⟩ := HX.out _ hb; have HRX2 := Lib.hid ((hb.block _ (Array.getElem?_eq_some_iff.1 HRX.out).1).trans HRX.out); have HB2 := Lib.hid hb; clear hb) | (refine wpList_store_row rfl 35 _ _ rfl (w.heap.size + 1) #[.int .i64 (s.nb : Int), .int .i64 (s.np : Int), .int .i64 (s.sz : Int), .int .i64 s.en, .slice A1 n1 c1, .slice (some ⟨g, 0, none⟩) s.nb c, .slice (some ⟨ge, 0, none⟩) s.nb ce, .int .i64 s.n, .int .i64 s.po, .int .i64 pb, .bool s.off] rfl rfl 35 _ HRX2.out info35 rfl (by simp [Value.oneCell']) ?_))
    refine bodyPost_ret (v := .tuple #[.agg #[.int .i64 (s.nb : Int), .int .i64 (s.np : Int), .int .i64 (s.sz : Int), .int .i64 s.en, .slice A1 n1 c1, .slice (some ⟨g, 0, none⟩) s.nb c, .slice (some ⟨ge, 0, none⟩) s.nb ce, .int .i64 s.n, .int .i64 s.po, .int .i64 pb, .bool s.off], .int .i64 2]) ?_ rfl (HNO.out _ (setRow_below (HB0.out.trans (HB2.out.mono HB0.out.size)) (by omega)))
    exact results_row1 (a := 4) (b := 5) (ty := 35) rfl _ _ (w.heap.size + 1) 35 #[.int .i64 (s.nb : Int), .int .i64 (s.np : Int), .int .i64 (s.sz : Int), .int .i64 s.en, .slice A1 n1 c1, .slice (some ⟨g, 0, none⟩) s.nb c, .slice (some ⟨ge, 0, none⟩) s.nb ce, .int .i64 s.n, .int .i64 s.po, .int .i64 pb, .bool s.off] (0, 0) _ rfl (setRow_at HRX2.out) Try.underlying35 rfl info35
  | true =>
    rw [hq] at HE
    have hq2 := hqi
    rw [hq] at hq2
    obtain ⟨q0, q1⟩ := of_decide_eq_true hq2.symm
    obtain ⟨i, rfl⟩ : ∃ i : Nat, q = (i : Int) := ⟨q.toNat, by omega⟩
    cases ho : s.off with
    | true =>
      obtain ⟨k1, k2⟩ := er_off hq ho
      rw [k1, k2]
      have HNO := Lib.hid (fun W (hb : Below w.heap.size w W) => (show RvPost w fs s 50 (.returned (.tuple #[.agg #[.int .i64 (s.nb : Int), .int .i64 (s.np : Int), .int .i64 (s.sz : Int), .int .i64 s.en, .slice A1 n1 c1, .slice (some ⟨g, 0, none⟩) s.nb c, .slice (some ⟨ge, 0, none⟩) s.nb ce, .int .i64 s.n, .int .i64 s.po, .int .i64 pb, .bool true], .int .i64 50])) W from ⟨_, _, _, pb, by rw [← ho], H.out.below hb, hb⟩))
      rw [ho] at HE HX HW
      clear k1 k2 hq hq2 hqi hno hg H HED ho
      go_enter Try.func36, Try.ntmps36
      go_upto_region 1 with fail
      rw [← HW.out]
      obtain ⟨u0, u1, u2, u3, u4, u5, u6, u7, u8, u9, u10⟩ := HX.out W0 (Below.refl _ _)
      go_wp2_with (first | ((go_at_call 40; with_reducible refine (HE.out _).mono ?_); rintro e w2 ⟨rfl, hb⟩; obtain ⟨x0, x1, x2, x3, x4, x5, x6, x7, x8, x9, x10⟩ := HX.out _ hb; have HRX2 := Lib.hid ((hb.block _ (Array.getElem?_eq_some_iff.1 HRX.out).1).trans HRX.out); have HB2 := Lib.hid hb; clear hb) | (refine wpList_store_row rfl 35 _ _ rfl (w.heap.size + 1) #[.int .i64 (s.nb : Int), .int .i64 (s.np : Int), .int .i64 (s.sz : Int), .int .i64 s.en, .slice A1 n1 c1, .slice (some ⟨g, 0, none⟩) s.nb c, .slice (some ⟨ge, 0, none⟩) s.nb ce, .int .i64 s.n, .int .i64 s.po, .int .i64 pb, .bool true] rfl rfl 35 _ HRX2.out info35 rfl (by simp [Value.oneCell']) ?_))
      refine bodyPost_ret (v := .tuple #[.agg #[.int .i64 (s.nb : Int), .int .i64 (s.np : Int), .int .i64 (s.sz : Int), .int .i64 s.en, .slice A1 n1 c1, .slice (some ⟨g, 0, none⟩) s.nb c, .slice (some ⟨ge, 0, none⟩) s.nb ce, .int .i64 s.n, .int .i64 s.po, .int .i64 pb, .bool true], .int .i64 50]) ?_ rfl (HNO.out _ (setRow_below (HB0.out.trans (HB2.out.mono HB0.out.size)) (by omega)))
      exact results_row1 (a := 4) (b := 5) (ty := 35) rfl _ _ (w.heap.size + 1) 35 #[.int .i64 (s.nb : Int), .int .i64 (s.np : Int), .int .i64 (s.sz : Int), .int .i64 s.en, .slice A1 n1 c1, .slice (some ⟨g, 0, none⟩) s.nb c, .slice (some ⟨ge, 0, none⟩) s.nb ce, .int .i64 s.n, .int .i64 s.po, .int .i64 pb, .bool true] (0, 0) _ rfl (setRow_at HRX2.out) Try.underlying35 rfl info35
    | false =>
      have hw : (s.bk i).er = s.en := by
        rcases hno with h1 | h1 | ⟨j, h1, h2⟩
        · rw [hq] at h1; cases h1
        · rw [ho] at h1; cases h1
        · have : i = j := by omega
          rw [this]; exact h2
      obtain ⟨k1, k2⟩ := er_worn (show i < s.nb by omega) ho hw
      rw [k1, k2]
      have HNO := Lib.hid (fun W (hb : Below w.heap.size w W) => (show RvPost w fs s 56 (.returned (.tuple #[.agg #[.int .i64 (s.nb : Int), .int .i64 (s.np : Int), .int .i64 (s.sz : Int), .int .i64 s.en, .slice A1 n1 c1, .slice (some ⟨g, 0, none⟩) s.nb c, .slice (some ⟨ge, 0, none⟩) s.nb ce, .int .i64 s.n, .int .i64 s.po, .int .i64 pb, .bool false], .int .i64 56])) W from ⟨_, _, _, pb, by rw [← ho], H.out.below hb, hb⟩))
      have HEI := Lib.hid (fun W' hb => (HED.out i (by omega) W' hb).trans (congrArg (fun x => some (Value.int .i64 x)) hw))
      rw [ho] at HE HX HW
      clear k1 k2 hq hq2 hqi hno hg H HED ho hw
      go_enter Try.func36, Try.ntmps36
      go_upto_region 1 with fail
      rw [← HW.out]
      obtain ⟨u0, u1, u2, u3, u4, u5, u6, u7, u8, u9, u10⟩ := HX.out W0 (Below.refl _ _)
      go_upto_region 5 with ((go_at_call 40; with_reducible refine (HE.out _).mono ?_); rintro e w2 ⟨rfl, hb⟩; obtain ⟨x0, x1, x2, x3, x4, x5, x6, x7, x8, x9, x10⟩ := HX.out _ hb; have HRX2 := Lib.hid ((hb.block _ (Array.getElem?_eq_some_iff.1 HRX.out).1).trans HRX.out); have HB2 := Lib.hid hb; clear hb)
      have z1 := HEI.out _ (HB0.out.trans (HB2.out.mono HB0.out.size))
      go_quiet (fail)
      go_wp2_with (refine wpList_store_row rfl 35 _ _ rfl (w.heap.size + 1) #[.int .i64 (s.nb : Int), .int .i64 (s.np : Int), .int .i64 (s.sz : Int), .int .i64 s.en, .slice A1 n1 c1, .slice (some ⟨g, 0, none⟩) s.nb c, .slice (some ⟨ge, 0, none⟩) s.nb ce, .int .i64 s.n, .int .i64 s.po, .int .i64 pb, .bool false] rfl rfl 35 _ HRX2.out info35 rfl (by simp [Value.oneCell']) ?_)
      refine bodyPost_ret (v := .tuple #[.agg #[.int .i64 (s.nb : Int), .int .i64 (s.np : Int), .int .i64 (s.sz : Int), .int .i64 s.en, .slice A1 n1 c1, .slice (some ⟨g, 0, none⟩) s.nb c, .slice (some ⟨ge, 0, none⟩) s.nb ce, .int .i64 s.n, .int .i64 s.po, .int .i64 pb, .bool false], .int .i64 56]) ?_ rfl (HNO.out _ (setRow_below (bdrewN (HB0.out.trans (HB2.out.mono HB0.out.size)) _) (by omega)))
      exact results_row1 (a := 4) (b := 5) (ty := 35) rfl _ _ (w.heap.size + 1) 35 #[.int .i64 (s.nb : Int), .int .i64 (s.np : Int), .int .i64 (s.sz : Int), .int .i64 s.en, .slice A1 n1 c1, .slice (some ⟨g, 0, none⟩) s.nb c, .slice (some ⟨ge, 0, none⟩) s.nb ce, .int .i64 s.n, .int .i64 s.po, .int .i64 pb, .bool false] (0, 0) _ rfl (setRow_at HRX2.out) Try.underlying35 rfl info35
end Go.Proofs.Ytddejcoagcaidaa
