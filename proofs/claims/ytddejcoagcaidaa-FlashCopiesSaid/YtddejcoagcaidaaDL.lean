/- The reference's Program, where it refuses. Conditions stand in each theorem. -/
import Derived.Test.YtddejcoagcaidaaDH
import Derived.Test.YtddejcoagcaidaaN
namespace Go.Proofs.Ytddejcoagcaidaa
open Go.RowKit
set_option linter.unusedVariables false
set_option maxHeartbeats 16000000
set_option maxRecDepth 100000
theorem rProgram_bad {w : World} {fs : List Int} {s : Dev} {vf vp ve : Value} {pb : Int} (h : Rd w fs s vf vp ve pb) (hg : Gd s) (q p : Int) (Ad As : Option Addr) (cd cs xl yl : Nat) (hx : xl ≤ 100000) (hy : yl ≤ 100000) (hbad : s.hasB q = false ∨ p < 0 ∨ (s.np : Int) ≤ p ∨ xl ≠ s.sz ∨ yl ≠ 64) :
    Calls Try.prog 35 #[.agg (rdv s vf vp ve pb), .int .i64 q, .int .i64 p, .slice Ad xl cd, .slice As yl cs] w (RvPost w fs s 2) := by
  have H := Lib.hid h
  have hnp := hg.np
  have hnb := hg.nb
  have hsz := hg.sz
  obtain ⟨⟨A1, n1, c1, rfl⟩, -, ⟨A3, n3, c3, rfl⟩⟩ := h.forms
  obtain ⟨g, c, cur, rfl, -⟩ := id h.grid
  have HE := Lib.hid (fun W => rExists_any s (.slice A1 n1 c1) (.slice A3 n3 c3) (some ⟨g, 0, none⟩) c pb q W)
  simp only [rdv] at HE ⊢
  have e1 : (s.np : Int) ≤ 512 := by omega
  have e2 : (s.nb : Int) ≤ 4096 := by omega
  have e3 : (s.sz : Int) ≤ 8192 := by omega
  have e4 : (xl : Int) ≤ 100000 := by omega
  have e5 : (yl : Int) ≤ 100000 := by omega
  obtain ⟨W0, hW0⟩ : ∃ W0, W0 = (w.alloc (.cells #[.int .i64 (s.nb : Int), .int .i64 (s.np : Int), .int .i64 (s.sz : Int), .int .i64 s.en, .slice A1 n1 c1, .slice (some ⟨g, 0, none⟩) s.nb c, .slice A3 n3 c3, .int .i64 s.n, .int .i64 s.po, .int .i64 pb, .bool s.off] 35)).alloc (.cells #[.int .i64 0, .int .i64 0, .int .i64 0, .int .i64 0, .slice none 0 0, .slice none 0 0, .slice none 0 0, .int .i64 0, .int .i64 0, .int .i64 0, .bool false] 35) := ⟨_, rfl⟩
  have hb0 : Below w.heap.size w W0 := by rw [hW0]; exact (balloc w _).alloc (by simp) _
  have hbx : W0.heap[w.heap.size]? = some (.cells #[.int .i64 (s.nb : Int), .int .i64 (s.np : Int), .int .i64 (s.sz : Int), .int .i64 s.en, .slice A1 n1 c1, .slice (some ⟨g, 0, none⟩) s.nb c, .slice A3 n3 c3, .int .i64 s.n, .int .i64 s.po, .int .i64 pb, .bool s.off] 35 (0, 0)) := by rw [hW0]; exact heap_alloc2_old w _ _
  have hrx : W0.heap[w.heap.size + 1]? = some (.cells #[.int .i64 0, .int .i64 0, .int .i64 0, .int .i64 0, .slice none 0 0, .slice none 0 0, .slice none 0 0, .int .i64 0, .int .i64 0, .int .i64 0, .bool false] 35 (0, 0)) := by rw [hW0]; exact heap_alloc2_new w _ _
  have HX := Lib.hid (fun W' (hb : Below W0.heap.size W0 W') => box11 hbx hb)
  have HRX := Lib.hid hrx
  have HB0 := Lib.hid hb0
  have HW := Lib.hid hW0
  have HNO := Lib.hid (fun W (hb : Below w.heap.size w W) => (show RvPost w fs s 2 (.returned (.tuple #[.agg #[.int .i64 (s.nb : Int), .int .i64 (s.np : Int), .int .i64 (s.sz : Int), .int .i64 s.en, .slice A1 n1 c1, .slice (some ⟨g, 0, none⟩) s.nb c, .slice A3 n3 c3, .int .i64 s.n, .int .i64 s.po, .int .i64 pb, .bool s.off], .int .i64 2])) W from ⟨_, _, _, pb, rfl, H.out.below hb, hb⟩))
  clear h hg hnp hnb hsz hb0 hbx hrx hW0 H hx hy
  cases hq : s.hasB q with
  | false =>
    rw [hq] at HE
    clear hq hbad
    go_enter Try.func35, Try.ntmps35
    go_upto_region 1 with fail
    rw [← HW.out]
    obtain ⟨u0, u1, u2, u3, u4, u5, u6, u7, u8, u9, u10⟩ := HX.out W0 (Below.refl _ _)
    go_wp2_with (first | ((go_at_call 40; with_reducible refine (HE.out _).mono ?_); rintro e w2 ⟨rfl, hb⟩; obtain ⟨x0, x1, x2, x3, x4, x5, x6, x7, x8, x9, x10⟩ := HX.out _ hb; have HRX2 := Lib.hid ((hb.block _ (Array.getElem?_eq_some_iff.1 HRX.out).1).trans HRX.out); have HB2 := Lib.hid (HB0.out.trans (hb.mono HB0.out.size)); have HB20 := Lib.hid hb; clear hb) | (refine wpList_store_row rfl 35 _ _ rfl (w.heap.size + 1) #[.int .i64 (s.nb : Int), .int .i64 (s.np : Int), .int .i64 (s.sz : Int), .int .i64 s.en, .slice A1 n1 c1, .slice (some ⟨g, 0, none⟩) s.nb c, .slice A3 n3 c3, .int .i64 s.n, .int .i64 s.po, .int .i64 pb, .bool s.off] rfl rfl 35 _ HRX2.out info35 rfl (by simp [Value.oneCell']) ?_))
    refine bodyPost_ret (v := .tuple #[.agg #[.int .i64 (s.nb : Int), .int .i64 (s.np : Int), .int .i64 (s.sz : Int), .int .i64 s.en, .slice A1 n1 c1, .slice (some ⟨g, 0, none⟩) s.nb c, .slice A3 n3 c3, .int .i64 s.n, .int .i64 s.po, .int .i64 pb, .bool s.off], .int .i64 2]) ?_ rfl (HNO.out _ (setRow_below HB2.out (by omega)))
    exact results_row1 (a := 10) (b := 11) (ty := 35) rfl _ _ (w.heap.size + 1) 35 #[.int .i64 (s.nb : Int), .int .i64 (s.np : Int), .int .i64 (s.sz : Int), .int .i64 s.en, .slice A1 n1 c1, .slice (some ⟨g, 0, none⟩) s.nb c, .slice A3 n3 c3, .int .i64 s.n, .int .i64 s.po, .int .i64 pb, .bool s.off] (0, 0) _ rfl (setRow_at HRX2.out) Try.underlying35 rfl info35
  | true =>
    rw [hq] at HE
    have hbad2 : p < 0 ∨ (s.np : Int) ≤ p ∨ xl ≠ s.sz ∨ yl ≠ 64 := hbad.resolve_left (by rw [hq]; decide)
    clear hq hbad
    by_cases p0 : p < 0
    · clear hbad2
      go_enter Try.func35, Try.ntmps35
      go_upto_region 1 with fail
      rw [← HW.out]
      obtain ⟨u0, u1, u2, u3, u4, u5, u6, u7, u8, u9, u10⟩ := HX.out W0 (Below.refl _ _)
      go_wp2_with (first | ((go_at_call 40; with_reducible refine (HE.out _).mono ?_); rintro e w2 ⟨rfl, hb⟩; obtain ⟨x0, x1, x2, x3, x4, x5, x6, x7, x8, x9, x10⟩ := HX.out _ hb; have HRX2 := Lib.hid ((hb.block _ (Array.getElem?_eq_some_iff.1 HRX.out).1).trans HRX.out); have HB2 := Lib.hid (HB0.out.trans (hb.mono HB0.out.size)); have HB20 := Lib.hid hb; clear hb) | (refine wpList_store_row rfl 35 _ _ rfl (w.heap.size + 1) #[.int .i64 (s.nb : Int), .int .i64 (s.np : Int), .int .i64 (s.sz : Int), .int .i64 s.en, .slice A1 n1 c1, .slice (some ⟨g, 0, none⟩) s.nb c, .slice A3 n3 c3, .int .i64 s.n, .int .i64 s.po, .int .i64 pb, .bool s.off] rfl rfl 35 _ HRX2.out info35 rfl (by simp [Value.oneCell']) ?_))
      refine bodyPost_ret (v := .tuple #[.agg #[.int .i64 (s.nb : Int), .int .i64 (s.np : Int), .int .i64 (s.sz : Int), .int .i64 s.en, .slice A1 n1 c1, .slice (some ⟨g, 0, none⟩) s.nb c, .slice A3 n3 c3, .int .i64 s.n, .int .i64 s.po, .int .i64 pb, .bool s.off], .int .i64 2]) ?_ rfl (HNO.out _ (setRow_below HB2.out (by omega)))
      exact results_row1 (a := 10) (b := 11) (ty := 35) rfl _ _ (w.heap.size + 1) 35 #[.int .i64 (s.nb : Int), .int .i64 (s.np : Int), .int .i64 (s.sz : Int), .int .i64 s.en, .slice A1 n1 c1, .slice (some ⟨g, 0, none⟩) s.nb c, .slice A3 n3 c3, .int .i64 s.n, .int .i64 s.po, .int .i64 pb, .bool s.off] (0, 0) _ rfl (setRow_at HRX2.out) Try.underlying35 rfl info35
    by_cases p1 : (s.np : Int) ≤ p
    · clear hbad2
      go_enter Try.func35, Try.ntmps35
      go_upto_region 1 with fail
      rw [← HW.out]
      obtain ⟨u0, u1, u2, u3, u4, u5, u6, u7, u8, u9, u10⟩ := HX.out W0 (Below.refl _ _)
      go_wp2_with (first | ((go_at_call 40; with_reducible refine (HE.out _).mono ?_); rintro e w2 ⟨rfl, hb⟩; obtain ⟨x0, x1, x2, x3, x4, x5, x6, x7, x8, x9, x10⟩ := HX.out _ hb; have HRX2 := Lib.hid ((hb.block _ (Array.getElem?_eq_some_iff.1 HRX.out).1).trans HRX.out); have HB2 := Lib.hid (HB0.out.trans (hb.mono HB0.out.size)); have HB20 := Lib.hid hb; clear hb) | (refine wpList_store_row rfl 35 _ _ rfl (w.heap.size + 1) #[.int .i64 (s.nb : Int), .int .i64 (s.np : Int), .int .i64 (s.sz : Int), .int .i64 s.en, .slice A1 n1 c1, .slice (some ⟨g, 0, none⟩) s.nb c, .slice A3 n3 c3, .int .i64 s.n, .int .i64 s.po, .int .i64 pb, .bool s.off] rfl rfl 35 _ HRX2.out info35 rfl (by simp [Value.oneCell']) ?_))
      refine bodyPost_ret (v := .tuple #[.agg #[.int .i64 (s.nb : Int), .int .i64 (s.np : Int), .int .i64 (s.sz : Int), .int .i64 s.en, .slice A1 n1 c1, .slice (some ⟨g, 0, none⟩) s.nb c, .slice A3 n3 c3, .int .i64 s.n, .int .i64 s.po, .int .i64 pb, .bool s.off], .int .i64 2]) ?_ rfl (HNO.out _ (setRow_below HB2.out (by omega)))
      exact results_row1 (a := 10) (b := 11) (ty := 35) rfl _ _ (w.heap.size + 1) 35 #[.int .i64 (s.nb : Int), .int .i64 (s.np : Int), .int .i64 (s.sz : Int), .int .i64 s.en, .slice A1 n1 c1, .slice (some ⟨g, 0, none⟩) s.nb c, .slice A3 n3 c3, .int .i64 s.n, .int .i64 s.po, .int .i64 pb, .bool s.off] (0, 0) _ rfl (setRow_at HRX2.out) Try.underlying35 rfl info35
    have d0 : decide (p < 0) = false := decide_eq_false p0
    have d1 : decide ((s.np : Int) ≤ p) = false := decide_eq_false p1
    by_cases xe : xl = s.sz
    · have ye : yl ≠ 64 := by omega
      have yb : ((yl : Int) == 64) = false := by simp; omega
      have yc : ¬ (yl : Int) = 64 := by omega
      have yd : decide ((yl : Int) = 64) = false := decide_eq_false yc
      have xd : decide ((xl : Int) = (s.sz : Int)) = true := decide_eq_true (by omega)
      have xb : ((xl : Int) == (s.sz : Int)) = true := by simp; omega
      have xc : (xl : Int) = (s.sz : Int) := by omega
      clear hbad2 xe ye
      go_enter Try.func35, Try.ntmps35
      go_upto_region 1 with fail
      rw [← HW.out]
      obtain ⟨u0, u1, u2, u3, u4, u5, u6, u7, u8, u9, u10⟩ := HX.out W0 (Below.refl _ _)
      go_wp2_with (first | ((go_at_call 40; with_reducible refine (HE.out _).mono ?_); rintro e w2 ⟨rfl, hb⟩; obtain ⟨x0, x1, x2, x3, x4, x5, x6, x7, x8, x9, x10⟩ := HX.out _ hb; have HRX2 := Lib.hid ((hb.block _ (Array.getElem?_eq_some_iff.1 HRX.out).1).trans HRX.out); have HB2 := Lib.hid (HB0.out.trans (hb.mono HB0.out.size)); have HB20 := Lib.hid hb; clear hb) | (refine wpList_store_row rfl 35 _ _ rfl (w.heap.size + 1) #[.int .i64 (s.nb : Int), .int .i64 (s.np : Int), .int .i64 (s.sz : Int), .int .i64 s.en, .slice A1 n1 c1, .slice (some ⟨g, 0, none⟩) s.nb c, .slice A3 n3 c3, .int .i64 s.n, .int .i64 s.po, .int .i64 pb, .bool s.off] rfl rfl 35 _ HRX2.out info35 rfl (by simp [Value.oneCell']) ?_))
      refine bodyPost_ret (v := .tuple #[.agg #[.int .i64 (s.nb : Int), .int .i64 (s.np : Int), .int .i64 (s.sz : Int), .int .i64 s.en, .slice A1 n1 c1, .slice (some ⟨g, 0, none⟩) s.nb c, .slice A3 n3 c3, .int .i64 s.n, .int .i64 s.po, .int .i64 pb, .bool s.off], .int .i64 2]) ?_ rfl (HNO.out _ (setRow_below HB2.out (by omega)))
      exact results_row1 (a := 10) (b := 11) (ty := 35) rfl _ _ (w.heap.size + 1) 35 #[.int .i64 (s.nb : Int), .int .i64 (s.np : Int), .int .i64 (s.sz : Int), .int .i64 s.en, .slice A1 n1 c1, .slice (some ⟨g, 0, none⟩) s.nb c, .slice A3 n3 c3, .int .i64 s.n, .int .i64 s.po, .int .i64 pb, .bool s.off] (0, 0) _ rfl (setRow_at HRX2.out) Try.underlying35 rfl info35
    · have xb : ((xl : Int) == (s.sz : Int)) = false := by simp; omega
      have xc : ¬ (xl : Int) = (s.sz : Int) := by omega
      clear hbad2
      go_enter Try.func35, Try.ntmps35
      go_upto_region 1 with fail
      rw [← HW.out]
      obtain ⟨u0, u1, u2, u3, u4, u5, u6, u7, u8, u9, u10⟩ := HX.out W0 (Below.refl _ _)
      go_wp2_with (first | ((go_at_call 40; with_reducible refine (HE.out _).mono ?_); rintro e w2 ⟨rfl, hb⟩; obtain ⟨x0, x1, x2, x3, x4, x5, x6, x7, x8, x9, x10⟩ := HX.out _ hb; have HRX2 := Lib.hid ((hb.block _ (Array.getElem?_eq_some_iff.1 HRX.out).1).trans HRX.out); have HB2 := Lib.hid (HB0.out.trans (hb.mono HB0.out.size)); have HB20 := Lib.hid hb; clear hb) | (refine wpList_store_row rfl 35 _ _ rfl (w.heap.size + 1) #[.int .i64 (s.nb : Int), .int .i64 (s.np : Int), .int .i64 (s.sz : Int), .int .i64 s.en, .slice A1 n1 c1, .slice (some ⟨g, 0, none⟩) s.nb c, .slice A3 n3 c3, .int .i64 s.n, .int .i64 s.po, .int .i64 pb, .bool s.off] rfl rfl 35 _ HRX2.out info35 rfl (by simp [Value.oneCell']) ?_))
      refine bodyPost_ret (v := .tuple #[.agg #[.int .i64 (s.nb : Int), .int .i64 (s.np : Int), .int .i64 (s.sz : Int), .int .i64 s.en, .slice A1 n1 c1, .slice (some ⟨g, 0, none⟩) s.nb c, .slice A3 n3 c3, .int .i64 s.n, .int .i64 s.po, .int .i64 pb, .bool s.off], .int .i64 2]) ?_ rfl (HNO.out _ (setRow_below HB2.out (by omega)))
      exact results_row1 (a := 10) (b := 11) (ty := 35) rfl _ _ (w.heap.size + 1) 35 #[.int .i64 (s.nb : Int), .int .i64 (s.np : Int), .int .i64 (s.sz : Int), .int .i64 s.en, .slice A1 n1 c1, .slice (some ⟨g, 0, none⟩) s.nb c, .slice A3 n3 c3, .int .i64 s.n, .int .i64 s.po, .int .i64 pb, .bool s.off] (0, 0) _ rfl (setRow_at HRX2.out) Try.underlying35 rfl info35
end Go.Proofs.Ytddejcoagcaidaa
