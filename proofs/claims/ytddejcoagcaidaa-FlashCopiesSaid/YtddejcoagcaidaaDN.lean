/- The reference's Program. Conditions stand in each theorem. -/
import Derived.Test.YtddejcoagcaidaaDM
namespace Go.Proofs.Ytddejcoagcaidaa
open Go.RowKit
set_option linter.unusedVariables false
set_option maxHeartbeats 16000000
set_option maxRecDepth 100000
theorem rProgram_off {w : World} {fs : List Int} {s : Dev} {vf vp ve : Value} {pb : Int} (h : Rd w fs s vf vp ve pb) (hg : Gd s) (i j : Nat) (hi : i < s.nb) (hjp : j < s.np) (ho : s.off = true) (Ad As : Option Addr) (cd cs xl yl : Nat) (hx : xl = s.sz) (hy : yl = 64) :
    Calls Try.prog 35 #[.agg (rdv s vf vp ve pb), .int .i64 (i : Int), .int .i64 (j : Int), .slice Ad xl cd, .slice As yl cs] w (RvPost w fs s 50) := by
  have H := Lib.hid h
  have hnp := hg.np
  have hnb := hg.nb
  have hsz := hg.sz
  have HNX := Lib.hid (fun W (hb : Below w.heap.size w W) => rNext_any (h.below hb) hg (i : Int))
  obtain ⟨⟨A1, n1, c1, rfl⟩, -, ⟨A3, n3, c3, rfl⟩⟩ := h.forms
  obtain ⟨g, c, cur, rfl, -⟩ := id h.grid
  have HE := Lib.hid (fun W => rExists_any s (.slice A1 n1 c1) (.slice A3 n3 c3) (some ⟨g, 0, none⟩) c pb (i : Int) W)
  rw [hasB_of hi] at HE
  have HNO := Lib.hid (fun W (hb : Below w.heap.size w W) => (show RvPost w fs s 50 (.returned (.tuple #[.agg (rdv s (.slice A1 n1 c1) (.slice (some ⟨g, 0, none⟩) s.nb c) (.slice A3 n3 c3) pb), .int .i64 50])) W from ⟨_, _, _, pb, rfl, H.out.below hb, hb⟩))
  simp only [rdv] at HE HNX HNO ⊢
  rw [ho] at HE HNX HNO ⊢
  have e1 : (s.np : Int) ≤ 512 := by omega
  have e2 : (s.nb : Int) ≤ 4096 := by omega
  have e3 : (s.sz : Int) ≤ 8192 := by omega
  have e6 : (i : Int) < (s.nb : Int) := by omega
  have e7 : (j : Int) < (s.np : Int) := by omega
  have e8 : ¬ (j : Int) < 0 := by omega
  have e9 : ¬ (s.np : Int) ≤ (j : Int) := by omega
  have d8 : decide ((j : Int) < 0) = false := decide_eq_false e8
  have d9 : decide ((s.np : Int) ≤ (j : Int)) = false := decide_eq_false e9
  have e4 : (xl : Int) ≤ 100000 := by omega
  have e5 : (yl : Int) ≤ 100000 := by omega
  have xb : ((xl : Int) == (s.sz : Int)) = true := by simp; omega
  have xc : (xl : Int) = (s.sz : Int) := by omega
  have xd : decide ((xl : Int) = (s.sz : Int)) = true := decide_eq_true xc
  have yb : ((yl : Int) == 64) = true := by simp; omega
  have yc : (yl : Int) = 64 := by omega
  have yd : decide ((yl : Int) = 64) = true := decide_eq_true yc
  obtain ⟨W0, hW0⟩ : ∃ W0, W0 = (w.alloc (.cells #[.int .i64 (s.nb : Int), .int .i64 (s.np : Int), .int .i64 (s.sz : Int), .int .i64 s.en, .slice A1 n1 c1, .slice (some ⟨g, 0, none⟩) s.nb c, .slice A3 n3 c3, .int .i64 s.n, .int .i64 s.po, .int .i64 pb, .bool true] 35)).alloc (.cells #[.int .i64 0, .int .i64 0, .int .i64 0, .int .i64 0, .slice none 0 0, .slice none 0 0, .slice none 0 0, .int .i64 0, .int .i64 0, .int .i64 0, .bool false] 35) := ⟨_, rfl⟩
  have hb0 : Below w.heap.size w W0 := by rw [hW0]; exact (balloc w _).alloc (by simp) _
  have hbx : W0.heap[w.heap.size]? = some (.cells #[.int .i64 (s.nb : Int), .int .i64 (s.np : Int), .int .i64 (s.sz : Int), .int .i64 s.en, .slice A1 n1 c1, .slice (some ⟨g, 0, none⟩) s.nb c, .slice A3 n3 c3, .int .i64 s.n, .int .i64 s.po, .int .i64 pb, .bool true] 35 (0, 0)) := by rw [hW0]; exact heap_alloc2_old w _ _
  have hrx : W0.heap[w.heap.size + 1]? = some (.cells #[.int .i64 0, .int .i64 0, .int .i64 0, .int .i64 0, .slice none 0 0, .slice none 0 0, .slice none 0 0, .int .i64 0, .int .i64 0, .int .i64 0, .bool false] 35 (0, 0)) := by rw [hW0]; exact heap_alloc2_new w _ _
  have HX := Lib.hid (fun W' (hb : Below W0.heap.size W0 W') => box11 hbx hb)
  have HRX := Lib.hid hrx
  have HB0 := Lib.hid hb0
  have HW := Lib.hid hW0
  clear h hg hnp hnb hsz hb0 hbx hrx hW0 H hx hy hi hjp ho
  go_enter Try.func35, Try.ntmps35
  go_upto_region 1 with fail
  rw [← HW.out]
  obtain ⟨u0, u1, u2, u3, u4, u5, u6, u7, u8, u9, u10⟩ := HX.out W0 (Below.refl _ _)
  go_wp2_with (first
    | ((go_at_call 40; with_reducible refine (HE.out _).mono ?_); rintro e w2 ⟨rfl, hb⟩; obtain ⟨x0, x1, x2, x3, x4, x5, x6, x7, x8, x9, x10⟩ := HX.out _ hb; have HBA := Lib.hid hb; have HRX2 := Lib.hid ((hb.block _ (Array.getElem?_eq_some_iff.1 HRX.out).1).trans HRX.out); have HB2 := Lib.hid (HB0.out.trans (hb.mono HB0.out.size)); clear hb)
    | (refine wpList_store_row rfl 35 _ _ rfl (w.heap.size + 1) #[.int .i64 (s.nb : Int), .int .i64 (s.np : Int), .int .i64 (s.sz : Int), .int .i64 s.en, .slice A1 n1 c1, .slice (some ⟨g, 0, none⟩) s.nb c, .slice A3 n3 c3, .int .i64 s.n, .int .i64 s.po, .int .i64 pb, .bool true] rfl rfl 35 _ HRX2.out info35 rfl (by simp [Value.oneCell']) ?_))
  refine bodyPost_ret (v := .tuple #[.agg #[.int .i64 (s.nb : Int), .int .i64 (s.np : Int), .int .i64 (s.sz : Int), .int .i64 s.en, .slice A1 n1 c1, .slice (some ⟨g, 0, none⟩) s.nb c, .slice A3 n3 c3, .int .i64 s.n, .int .i64 s.po, .int .i64 pb, .bool true], .int .i64 50]) ?_ rfl (HNO.out _ (setRow_below HB2.out (by omega)))
  exact results_row1 (a := 10) (b := 11) (ty := 35) rfl _ _ (w.heap.size + 1) 35 #[.int .i64 (s.nb : Int), .int .i64 (s.np : Int), .int .i64 (s.sz : Int), .int .i64 s.en, .slice A1 n1 c1, .slice (some ⟨g, 0, none⟩) s.nb c, .slice A3 n3 c3, .int .i64 s.n, .int .i64 s.po, .int .i64 pb, .bool true] (0, 0) _ rfl (setRow_at HRX2.out) Try.underlying35 rfl info35
theorem rProgram_order {w : World} {fs : List Int} {s : Dev} {vf vp ve : Value} {pb : Int} (h : Rd w fs s vf vp ve pb) (hg : Gd s) (i j : Nat) (hi : i < s.nb) (hjp : j < s.np) (ho : s.off = false) (hj : (j : Int) ≠ s.nx (i : Int)) (Ad As : Option Addr) (cd cs xl yl : Nat) (hx : xl = s.sz) (hy : yl = 64) :
    Calls Try.prog 35 #[.agg (rdv s vf vp ve pb), .int .i64 (i : Int), .int .i64 (j : Int), .slice Ad xl cd, .slice As yl cs] w (RvPost w fs s 51) := by
  have H := Lib.hid h
  have hnp := hg.np
  have hnb := hg.nb
  have hsz := hg.sz
  have HNX := Lib.hid (fun W (hb : Below w.heap.size w W) => rNext_any (h.below hb) hg (i : Int))
  obtain ⟨⟨A1, n1, c1, rfl⟩, -, ⟨A3, n3, c3, rfl⟩⟩ := h.forms
  obtain ⟨g, c, cur, rfl, -⟩ := id h.grid
  have HE := Lib.hid (fun W => rExists_any s (.slice A1 n1 c1) (.slice A3 n3 c3) (some ⟨g, 0, none⟩) c pb (i : Int) W)
  rw [hasB_of hi] at HE
  have HNO := Lib.hid (fun W (hb : Below w.heap.size w W) => (show RvPost w fs s 51 (.returned (.tuple #[.agg (rdv s (.slice A1 n1 c1) (.slice (some ⟨g, 0, none⟩) s.nb c) (.slice A3 n3 c3) pb), .int .i64 51])) W from ⟨_, _, _, pb, rfl, H.out.below hb, hb⟩))
  simp only [rdv] at HE HNX HNO ⊢
  rw [ho] at HE HNX HNO ⊢
  obtain ⟨nxq, hnxq⟩ : ∃ nxq, nxq = s.nx (i : Int) := ⟨_, rfl⟩
  rw [← hnxq] at HNX hj
  have jb : ((j : Int) == nxq) = false := by simpa using hj
  have jd : decide ((j : Int) = nxq) = false := decide_eq_false hj
  clear hnxq
  have e1 : (s.np : Int) ≤ 512 := by omega
  have e2 : (s.nb : Int) ≤ 4096 := by omega
  have e3 : (s.sz : Int) ≤ 8192 := by omega
  have e6 : (i : Int) < (s.nb : Int) := by omega
  have e7 : (j : Int) < (s.np : Int) := by omega
  have e8 : ¬ (j : Int) < 0 := by omega
  have e9 : ¬ (s.np : Int) ≤ (j : Int) := by omega
  have d8 : decide ((j : Int) < 0) = false := decide_eq_false e8
  have d9 : decide ((s.np : Int) ≤ (j : Int)) = false := decide_eq_false e9
  have e4 : (xl : Int) ≤ 100000 := by omega
  have e5 : (yl : Int) ≤ 100000 := by omega
  have xb : ((xl : Int) == (s.sz : Int)) = true := by simp; omega
  have xc : (xl : Int) = (s.sz : Int) := by omega
  have xd : decide ((xl : Int) = (s.sz : Int)) = true := decide_eq_true xc
  have yb : ((yl : Int) == 64) = true := by simp; omega
  have yc : (yl : Int) = 64 := by omega
  have yd : decide ((yl : Int) = 64) = true := decide_eq_true yc
  obtain ⟨W0, hW0⟩ : ∃ W0, W0 = (w.alloc (.cells #[.int .i64 (s.nb : Int), .int .i64 (s.np : Int), .int .i64 (s.sz : Int), .int .i64 s.en, .slice A1 n1 c1, .slice (some ⟨g, 0, none⟩) s.nb c, .slice A3 n3 c3, .int .i64 s.n, .int .i64 s.po, .int .i64 pb, .bool false] 35)).alloc (.cells #[.int .i64 0, .int .i64 0, .int .i64 0, .int .i64 0, .slice none 0 0, .slice none 0 0, .slice none 0 0, .int .i64 0, .int .i64 0, .int .i64 0, .bool false] 35) := ⟨_, rfl⟩
  have hb0 : Below w.heap.size w W0 := by rw [hW0]; exact (balloc w _).alloc (by simp) _
  have hbx : W0.heap[w.heap.size]? = some (.cells #[.int .i64 (s.nb : Int), .int .i64 (s.np : Int), .int .i64 (s.sz : Int), .int .i64 s.en, .slice A1 n1 c1, .slice (some ⟨g, 0, none⟩) s.nb c, .slice A3 n3 c3, .int .i64 s.n, .int .i64 s.po, .int .i64 pb, .bool false] 35 (0, 0)) := by rw [hW0]; exact heap_alloc2_old w _ _
  have hrx : W0.heap[w.heap.size + 1]? = some (.cells #[.int .i64 0, .int .i64 0, .int .i64 0, .int .i64 0, .slice none 0 0, .slice none 0 0, .slice none 0 0, .int .i64 0, .int .i64 0, .int .i64 0, .bool false] 35 (0, 0)) := by rw [hW0]; exact heap_alloc2_new w _ _
  have HX := Lib.hid (fun W' (hb : Below W0.heap.size W0 W') => box11 hbx hb)
  have HRX := Lib.hid hrx
  have HB0 := Lib.hid hb0
  have HW := Lib.hid hW0
  clear h hg hnp hnb hsz hb0 hbx hrx hW0 H hx hy hi hjp ho
  go_enter Try.func35, Try.ntmps35
  go_upto_region 1 with fail
  rw [← HW.out]
  obtain ⟨u0, u1, u2, u3, u4, u5, u6, u7, u8, u9, u10⟩ := HX.out W0 (Below.refl _ _)
  go_wp2_with (first
    | ((go_at_call 40; with_reducible refine (HE.out _).mono ?_); rintro e w2 ⟨rfl, hb⟩; obtain ⟨x0, x1, x2, x3, x4, x5, x6, x7, x8, x9, x10⟩ := HX.out _ hb; have HBA := Lib.hid hb; have HRX2 := Lib.hid ((hb.block _ (Array.getElem?_eq_some_iff.1 HRX.out).1).trans HRX.out); have HB2 := Lib.hid (HB0.out.trans (hb.mono HB0.out.size)); clear hb)
    | ((go_at_call 41; with_reducible refine (HNX.out _ HB2.out).mono ?_); rintro e w3 ⟨rfl, hb⟩; obtain ⟨v0, v1, v2, v3, v4, v5, v6, v7, v8, v9, v10⟩ := HX.out _ (HBA.out.trans (hb.mono HBA.out.size)); have HRX3 := Lib.hid ((hb.block _ (Array.getElem?_eq_some_iff.1 HRX2.out).1).trans HRX2.out); have HB3 := Lib.hid (HB2.out.trans (hb.mono HB2.out.size)); clear hb)
    | (refine wpList_store_row rfl 35 _ _ rfl (w.heap.size + 1) #[.int .i64 (s.nb : Int), .int .i64 (s.np : Int), .int .i64 (s.sz : Int), .int .i64 s.en, .slice A1 n1 c1, .slice (some ⟨g, 0, none⟩) s.nb c, .slice A3 n3 c3, .int .i64 s.n, .int .i64 s.po, .int .i64 pb, .bool false] rfl rfl 35 _ HRX3.out info35 rfl (by simp [Value.oneCell']) ?_))
  refine bodyPost_ret (v := .tuple #[.agg #[.int .i64 (s.nb : Int), .int .i64 (s.np : Int), .int .i64 (s.sz : Int), .int .i64 s.en, .slice A1 n1 c1, .slice (some ⟨g, 0, none⟩) s.nb c, .slice A3 n3 c3, .int .i64 s.n, .int .i64 s.po, .int .i64 pb, .bool false], .int .i64 51]) ?_ rfl (HNO.out _ (setRow_below HB3.out (by omega)))
  exact results_row1 (a := 10) (b := 11) (ty := 35) rfl _ _ (w.heap.size + 1) 35 #[.int .i64 (s.nb : Int), .int .i64 (s.np : Int), .int .i64 (s.sz : Int), .int .i64 s.en, .slice A1 n1 c1, .slice (some ⟨g, 0, none⟩) s.nb c, .slice A3 n3 c3, .int .i64 s.n, .int .i64 s.po, .int .i64 pb, .bool false] (0, 0) _ rfl (setRow_at HRX3.out) Try.underlying35 rfl info35
theorem rProgram_any {w : World} {fs : List Int} {s : Dev} {vf vp ve : Value} {pb : Int} (h : Rd w fs s vf vp ve pb) (hg : Gd s) (hn : s.n ≤ 1000000000) (hl : fs.length ≤ 1000) (q p : Int) {vd vs : Value} {x y : List UInt8} (hd : Byt w vd x) (hs : Byt w vs y) (hx : x.length ≤ 100000) (hy : y.length ≤ 100000) (hlb : s.lo ≤ w.heap.size) :
    Calls Try.prog 35 #[.agg (rdv s vf vp ve pb), .int .i64 q, .int .i64 p, vd, vs] w (RvPost w fs (s.prS q p x y) (s.prE q p x y)) := by
  cases hk : s.okB q p x y with
  | false =>
    obtain ⟨Ad, cd, rfl, -⟩ := id hd
    obtain ⟨As, cs, rfl, -⟩ := id hs
    have e1 : s.prE q p x y = 2 := if_pos hk
    have e2 : s.prS q p x y = s := if_neg (by rw [hk]; simp)
    rw [e1, e2]
    refine rProgram_bad h hg q p Ad As cd cs _ _ hx hy ?_
    unfold Dev.okB at hk
    rw [hasP_iff] at hk
    by_cases h1 : s.hasB q = false
    · exact .inl h1
    · rw [Bool.not_eq_false] at h1
      rw [h1, Bool.true_and] at hk
      by_cases h2 : p < 0
      · exact .inr (.inl h2)
      by_cases h3 : (s.np : Int) ≤ p
      · exact .inr (.inr (.inl h3))
      rw [decide_eq_true (show 0 ≤ p ∧ p < (s.np : Int) by omega), Bool.true_and] at hk
      by_cases h4 : x.length = s.sz
      · rw [decide_eq_true h4, Bool.true_and] at hk
        exact .inr (.inr (.inr (.inr (of_decide_eq_false hk))))
      · exact .inr (.inr (.inr (.inl h4)))
  | true =>
    obtain ⟨hp, hx1, hy1⟩ := okB_parts hk
    rw [hasP_iff] at hp
    have hq := (Bool.and_eq_true _ _ ▸ hp).1
    have hp2 := of_decide_eq_true (Bool.and_eq_true _ _ ▸ hp).2
    have hq2 := hasB_iff s q
    rw [hq] at hq2
    have hq3 := of_decide_eq_true hq2.symm
    obtain ⟨i, rfl⟩ : ∃ i : Nat, q = (i : Int) := ⟨q.toNat, by omega⟩
    obtain ⟨j, rfl⟩ : ∃ j : Nat, p = (j : Int) := ⟨p.toNat, by omega⟩
    cases ho : s.off with
    | true =>
      obtain ⟨Ad, cd, rfl, -⟩ := id hd
      obtain ⟨As, cs, rfl, -⟩ := id hs
      have e1 : s.prE (i : Int) (j : Int) x y = 50 := by unfold Dev.prE; rw [if_neg (by rw [hk]; decide), if_pos ho]
      have e2 : s.prS (i : Int) (j : Int) x y = s := if_neg (by rw [ho]; simp)
      rw [e1, e2]
      exact rProgram_off h hg i j (by omega) (by omega) ho Ad As cd cs _ _ hx1 hy1
    | false =>
      by_cases hj : (j : Int) = s.nx (i : Int)
      · exact rProgram_go h hg hn hl i j (by omega) hj (by omega) ho hd hs hx1 hy1 hlb
      · obtain ⟨Ad, cd, rfl, -⟩ := id hd
        obtain ⟨As, cs, rfl, -⟩ := id hs
        have e1 : s.prE (i : Int) (j : Int) x y = 51 := by unfold Dev.prE; rw [if_neg (by rw [hk]; decide), if_neg (by rw [ho]; decide), if_pos hj]
        have e2 : s.prS (i : Int) (j : Int) x y = s := if_neg (fun h => hj h.2.2)
        rw [e1, e2]
        exact rProgram_order h hg i j (by omega) (by omega) ho hj Ad As cd cs _ _ hx1 hy1
end Go.Proofs.Ytddejcoagcaidaa
