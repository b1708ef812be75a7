/- The walk of MemoryCopies: the copies. Conditions stand in each theorem. -/
import Derived.Test.YtmnlkejhhdbhlaaCW
namespace Go.Proofs.Ytmnlkejhhdbhlaa
open Go.RowKit Go.Shelf
attribute [local go_sem] Oper.semAt_some
set_option linter.unusedVariables false
set_option maxHeartbeats 8000000
set_option maxRecDepth 100000
theorem copies_good (pg : Nat) (A : Option Addr) (c : Nat) (L : List KA) (x y : KA) (w : World) (h1 : 1 ≤ pg) (h2 : pg ≤ 2) (hf : fewB L 8 = true) (hf2 : fewB [x, y] 2 = true) (hL : Acts w (.slice A L.length c) L) (hok : ∀ e ∈ L, KA.ok w e) (hx : KA.ok w x) (hy : KA.ok w y) : Calls Try.prog 5 #[.int .i64 (pg : Int), .slice A L.length c, .agg (two2 x y)] w (OkB w) := by
  obtain ⟨w1, hw1⟩ : ∃ w1, w1 = w.alloc (.cells (two2 x y) 54) := ⟨_, rfl⟩
  have hb1 : Below w.heap.size w w1 := hw1 ▸ below_alloc _ _
  have h54 : w1.heap[w.heap.size]? = some (.cells (two2 x y) 54 (0, 0)) := hw1 ▸ heap_alloc_new w _
  have hL1 := acts_below hL hb1
  have hok1 : ∀ e ∈ L, KA.ok w1 e := fun e he => ok_below (hok e he) hb1
  have HF := Lib.hid (few_any2 (.slice A L.length c) L 8 w1 hL1 hok1 (by decide))
  have HF2 := Lib.hid (few_any2 (.slice (some ⟨w.heap.size, 0, none⟩) 2 2) [x, y] 2 w1 (hw1 ▸ acts_two x y hx hy) (fun e he => by
    rcases List.mem_cons.1 he with rfl | he
    · exact ok_below hx hb1
    · rcases List.mem_cons.1 he with rfl | he
      · exact ok_below hy hb1
      · cases he) (by decide))
  rw [hf] at HF
  rw [hf2] at HF2
  have HN := Lib.hid (New_ok pg h1 (by omega))
  have HN2 : Hid (∀ W, Calls Try.prog 11 #[.int .i64 (3 - (pg : Int))] W (NewPost W ((3 - pg) * 4096))) := Lib.hid fun W => by
    rw [show (3 : Int) - (pg : Int) = ((3 - pg : Nat) : Int) by omega]
    exact New_ok (3 - pg) (by omega) (by omega) W
  have HR := Lib.hid (rNew_ok pg h1 (by omega))
  have HW := Lib.hid works_any
  have HST := Lib.hid (And.intro h1 h2)
  have HFE := Lib.hid (few_each hf)
  have HFE2 := Lib.hid (show x.l.length ≤ 5000 ∧ y.l.length ≤ 5000 from ⟨(few_each hf2).2 x (by simp), (few_each hf2).2 y (by simp)⟩)
  have HL := Lib.hid hL1
  have HOK := Lib.hid hok1
  have HXY := Lib.hid (And.intro (ok_below hx hb1) (ok_below hy hb1))
  have HB1 := Lib.hid hb1
  obtain ⟨Ax, cx, hvx, -⟩ := hx.1
  obtain ⟨Ay, cy, hvy, -⟩ := hy.1
  have hcx : x.cells = #[.int .i64 x.wh, .int .i64 x.n, .int .u64 (x.ad : Int), .slice Ax x.l.length cx, .int .u8 (x.x.toNat : Int)] := by rw [← hvx]
  have hcy : y.cells = #[.int .i64 y.wh, .int .i64 y.n, .int .u64 (y.ad : Int), .slice Ay y.l.length cy, .int .u8 (y.x.toNat : Int)] := by rw [← hvy]
  unfold two2 at hw1 h54 ⊢
  rw [hvx, hvy] at hw1 h54 ⊢
  generalize x.wh = wx at hcx hw1 h54 ⊢
  generalize x.n = nx1 at hcx hw1 h54 ⊢
  generalize (x.ad : Int) = ax at hcx hw1 h54 ⊢
  generalize x.l.length = lx at hcx hw1 h54 ⊢
  generalize (x.x.toNat : Int) = xx at hcx hw1 h54 ⊢
  generalize y.wh = wy at hcy hw1 h54 ⊢
  generalize y.n = ny1 at hcy hw1 h54 ⊢
  generalize (y.ad : Int) = ay at hcy hw1 h54 ⊢
  generalize y.l.length = ly at hcy hw1 h54 ⊢
  generalize (y.x.toNat : Int) = yx at hcy hw1 h54 ⊢
  have HCX := Lib.hid hcx
  have HCY := Lib.hid hcy
  have HW1 := Lib.hid hw1
  have H54 := Lib.hid h54
  have d1 : decide ((pg : Int) < 1) = false := decide_eq_false (by omega)
  have d2 : decide ((pg : Int) > 2) = false := decide_eq_false (by omega)
  have d3 : decide ((2 : Int) < (pg : Int)) = false := decide_eq_false (by omega)
  have d4 : decide (2 < pg) = false := decide_eq_false (by omega)
  have d5 : (pg == 0) = false := by simp; omega
  have hpi : (1 : Int) ≤ (pg : Int) ∧ (pg : Int) ≤ 2 := by omega
  obtain ⟨hp1, hp2⟩ := hpi
  have hll : (L.length : Int) ≤ 8 := HFE.out.1
  have HLN := Lib.hid (show L.length ≤ 8 by omega)
  clear hL hok hf hf2 h1 h2 hx hy hb1 hL1 hok1 hvx hvy hcx hcy hw1 h54
  go_enter Try.func5, Try.ntmps5
  go_upto_region 1 with fail
  rw [← HW1.out]
  go_upto_region 3 with (first | ((go_at_call 9; with_reducible refine HF.out.mono ?_); rintro e w' ⟨rfl, rfl⟩) | ((go_at_call 9; with_reducible refine HF2.out.mono ?_); rintro e w' ⟨rfl, rfl⟩))
  obtain ⟨qt, hqt⟩ : ∃ qt, qt = w.heap.size := ⟨_, rfl⟩
  rw [← hqt] at H54 ⊢
  clear hqt HF HF2
  go_upto_region 4 with ((go_at_call 11; with_reducible refine (HN.out w1).mono ?_); rintro e v1 ⟨b0, d0, rfl, hm1, hb1⟩; have HM1 := Lib.hid hm1; have HBv := Lib.hid hb1; clear hm1 hb1)
  go_upto_region 6 with ((go_at_call 12; with_reducible refine (HR.out v1).mono ?_); rintro e v2 ⟨A1, n1, c1, rfl, hr2, hb2⟩; have HPC := Lib.hid (pc_start pg HST.out.1 (by have := HST.out.2; omega) HM1.out HBv.out hr2 hb2); clear hb2 hr2)
  generalize v2.alloc (.cells #[.slice A1 n1 c1, .slice none 0 0] 32) = v3 at *
  obtain ⟨q, hq⟩ : ∃ q, q = v2.heap.size := ⟨_, rfl⟩
  rw [← hq] at HPC ⊢
  clear hq HM1 HBv
  obtain ⟨N, hN⟩ : ∃ N, N = pg * 4096 := ⟨_, rfl⟩
  rw [← hN] at HPC
  have HNN := Lib.hid hN
  clear hN
  go_loopw [7, 11] (fun t7 i wr => ∃ k b : Nat, k ≤ L.length ∧ i = .int .i64 k ∧ t7 = .pointer (some ⟨b, 0, none⟩) ∧ Hid (Pc w1 N q k b wr)) (fun _ i _ => L.length - (RowKit.intOf i).toNat)
  case atStart => exact ⟨0, b0, Nat.zero_le _, rfl, rfl, HPC⟩
  case round =>
    obtain ⟨k, b, hk, rfl, rfl, HP⟩ := hrel
    by_cases hlt : k < L.length
    · obtain ⟨d, cap, m, B1, p1, e1, B2, p2, e2, hm, hG, hmk, hNm, hr, h9, hq9, hbw⟩ := HP.out
      obtain ⟨g, o, rfl, hg, k0, k1, k2, k3, k4⟩ := acts_cells HL.out hbw hlt
      have hok := HOK.out L[k] (List.getElem_mem hlt)
      have hle := HFE.out.2 L[k] (List.getElem_mem hlt)
      have HAC := Lib.hid (play_act hm hG (by have := HLN.out; omega) hr h9 hbw L[k] hok hle wr.drew (Below.refl _ _).drew)
      have hnx := nx_ok hG (by have := HLN.out; omega) L[k]
      have HNX := Lib.hid (show Gm (nx m L[k]) ∧ (nx m L[k]).L.length ≤ k + 1 ∧ (nx m L[k]).B.length = N from ⟨hnx.1, by omega, by omega⟩)
      generalize nx m L[k] = m' at HAC HNX
      obtain ⟨⟨Av, cv, hvb, -⟩, -⟩ := hok
      rw [hvb] at k3
      unfold KA.cells at HAC
      rw [hvb] at HAC
      generalize L[k].wh = wh at k0 HAC
      generalize L[k].n = n at k1 HAC
      generalize (L[k].ad : Int) = ad at k2 HAC
      generalize (L[k].x.toNat : Int) = xi at k4 HAC
      generalize L[k].l.length = lv at k3 HAC
      have u0 := cell_of_row wr q 0 _ 32 (0, 0) h9
      have u1 := cell_of_row wr q 1 _ 32 (0, 0) h9
      have HMM := Lib.hid hm
      have H9 := Lib.hid h9
      have HQ9 := Lib.hid hq9
      have HBW := Lib.hid hbw
      have hlti : (k : Int) < (L.length : Int) := by omega
      have hgq : g ≠ q := by omega
      have HCE : Hid (∀ w', Chg (fun j => j = b ∨ j = d) wr.drew w' → (w'.cell? ⟨q, 0, none⟩ = some (.slice B1 p1 e1) ∧ w'.cell? ⟨q, 1, none⟩ = some (.slice B2 p2 e2) ∧ w'.cell? ⟨g, o + k * 5, none⟩ = some (.int .i64 wh) ∧ w'.cell? ⟨g, o + k * 5 + 1, none⟩ = some (.int .i64 n) ∧ w'.cell? ⟨g, o + k * 5 + 2, none⟩ = some (.int .u64 ad) ∧ w'.cell? ⟨g, o + k * 5 + 3, none⟩ = some (.slice Av lv cv) ∧ w'.cell? ⟨g, o + k * 5 + 4, none⟩ = some (.int .u8 xi)) ∧ ∀ j, w'.frozen? ⟨q, j, none⟩ = false) := Lib.hid fun w' hc => by
        have hqw := HMM.out.keepTy (Chg.trans (Chg.refl (fun j => j = b ∨ j = d) wr).drew hc fun j hj _ => hj) H9.out (by decide) (by decide)
        have h3 := HMM.out.hb
        have h4 := HMM.out.row.1
        have hs := HBW.out.size
        have key := fun j (y : Value) (hy : wr.cell? ⟨g, j, none⟩ = some y) => (hc.cell (p := ⟨g, j, none⟩) (by show g < wr.heap.size; omega) (by show ¬ (g = b ∨ g = d); omega)).trans hy
        exact ⟨⟨cell_of_row w' q 0 _ 32 (0, 0) hqw, cell_of_row w' q 1 _ 32 (0, 0) hqw, key _ _ k0, key _ _ k1, key _ _ k2, key _ _ k3, key _ _ k4⟩, fun j => frozen_of_row w' q j _ 32 hqw⟩
      clear hm hG hmk hNm hr h9 hq9 hbw hle hnx hvb hg
      go_upto_region 8 with fail
      go_region_with (first
          | ((go_at_call 14; with_reducible refine HAC.out.mono ?_); rintro e w' ⟨b', d', cap', C1, x1, y1, C2, x2, y2, rfl, hm', hr', hc', hbd'⟩; have HPN := Lib.hid (pc_next HMM.out H9.out HBW.out HQ9.out HNX.out.1 HNX.out.2.1 HNX.out.2.2 (Below.refl _ _).drew hm' hr' hc'); obtain ⟨⟨o0, o1, o2, o3, o4, o5, o6⟩, of0⟩ := HCE.out w' hc'; clear hm' hr' hc' hbd'))
      all_goals
        have HPN2 := Lib.hid (HPN.out.below (Below.refl _ _).drew)
        clear o0 o1 o2 o3 o4 o5 o6 of0
        first
          | (obtain ⟨w5, hw5⟩ : ∃ w5, w5 = (w'.setCell ⟨q, 0, none⟩ (.slice C1 x1 y1)).setCell ⟨q, 1, none⟩ (.slice C2 x2 y2) := ⟨_, rfl⟩
             rw [← hw5] at HPN ⊢
             clear HPN2)
        clear hw5
        go_wp2
        go_roundw
        case rel => exact ⟨k + 1, b', by omega, by go_num, rfl, HPN⟩
        case measure => simp [RowKit.intOf]; omega
    · obtain rfl : k = L.length := by omega
      have hlti : ¬ ((L.length : Int) < (L.length : Int)) := by omega
      obtain ⟨d, cap, m, B1, p1, e1, B2, p2, e2, hm, hG, hmk, hNm, hr, h9, hq9, hbw⟩ := HP.out
      have HCP := Lib.hid (Copy_any hm hG)
      have HMM := Lib.hid hm
      have HGG := Lib.hid hG
      have HLM := Lib.hid (show m.L.length ≤ 8 ∧ m.B.length = N from ⟨by have := HLN.out; omega, hNm⟩)
      have HRR := Lib.hid hr
      have H9 := Lib.hid h9
      have HQ9 := Lib.hid hq9
      have HBW := Lib.hid hbw
      clear hm hG hmk hNm hr h9 hq9 hbw HP
      go_upto_region 10 with ((go_at_call 20; with_reducible refine HCP.out.mono ?_); rintro e w2 ⟨b2, d2, cap2, rfl, hm2, hb2⟩; have HM2 := Lib.hid hm2; have HB2 := Lib.hid hb2; clear hm2 hb2)
      have HS := Lib.hid (Same_any (Ba.of_mem (HMM.out.below HB2.out)) (Ba.of_mem HM2.out))
      rw [decide_eq_true rfl] at HS
      have HA1 := Lib.hid (play_act HMM.out HGG.out (by have := HLM.out; omega) HRR.out H9.out HBW.out x HXY.out.1 HFE2.out.1 w2 HB2.out)
      rw [HCX.out] at HA1
      have hnx := nx_ok HGG.out (by have := HLM.out; omega) x
      have hny := nx_ok HGG.out (by have := HLM.out; omega) y
      have HNX := Lib.hid (show (Gm (nx m x) ∧ (nx m x).B.length = N) ∧ Gm (nx m y) ∧ (nx m y).B.length = N from ⟨⟨hnx.1, by have := HLM.out; omega⟩, hny.1, by have := HLM.out; omega⟩)
      have HQ2 := Lib.hid ((HB2.out.block _ (Array.getElem?_eq_some_iff.1 H9.out).1).trans H9.out)
      have HQT : Hid (∀ X, Below w1.heap.size w1 X → X.heap[qt]? = some (.cells #[.int .i64 wx, .int .i64 nx1, .int .u64 ax, .slice Ax lx cx, .int .u8 xx, .int .i64 wy, .int .i64 ny1, .int .u64 ay, .slice Ay ly cy, .int .u8 yx] 54 (0, 0))) := Lib.hid fun X h => (h.block _ (Array.getElem?_eq_some_iff.1 H54.out).1).trans H54.out
      have hqt2 := HQT.out w2 (HBW.out.trans (HB2.out.mono HBW.out.size))
      have i0 := cell_of_row w2 q 0 _ 32 (0, 0) HQ2.out
      have i1 := cell_of_row w2 q 1 _ 32 (0, 0) HQ2.out
      have t0 := cell_of_row w2 qt 0 _ 54 (0, 0) hqt2
      have t1 := cell_of_row w2 qt 1 _ 54 (0, 0) hqt2
      have t2 := cell_of_row w2 qt 2 _ 54 (0, 0) hqt2
      have t3 := cell_of_row w2 qt 3 _ 54 (0, 0) hqt2
      have t4 := cell_of_row w2 qt 4 _ 54 (0, 0) hqt2
      clear hqt2 hnx hny
      go_upto_region 12 with (first | ((go_at_call 13; with_reducible refine (num_any _ _).mono ?_); rintro e w' ⟨rfl, rfl⟩) | ((go_at_call 21; with_reducible refine HS.out.mono ?_); rintro e w' ⟨rfl, rfl⟩))
      go_upto_region 13 with ((go_at_call 14; with_reducible refine HA1.out.mono ?_); rintro e w3 ⟨b3, d3, cap3, C1, x1, y1, C2, x2, y2, rfl, hm3, hr3, hc3, hbd3⟩; have HTA := Lib.hid (ta_of HMM.out HRR.out H9.out HBW.out HM2.out HB2.out hm3 hr3 hc3 hbd3); clear hm3 hr3 hc3 hbd3)
      have hx4 := heap_alloc_new w3 (.cells #[.slice C1 x1 y1, .slice C2 x2 y2] 32)
      have HT4 := Lib.hid (HTA.out.below (below_alloc w3 (.cells #[.slice C1 x1 y1, .slice C2 x2 y2] 32)))
      obtain ⟨w4, hw4⟩ : ∃ w4, w4 = w3.alloc (.cells #[.slice C1 x1 y1, .slice C2 x2 y2] 32) := ⟨_, rfl⟩
      obtain ⟨qa, hqa⟩ : ∃ qa, qa = w3.heap.size := ⟨_, rfl⟩
      rw [← hw4] at hx4 HT4 ⊢
      rw [← hqa] at hx4 ⊢
      have HXA := Lib.hid hx4
      have HA2 := Lib.hid (play_act HT4.out.k HGG.out (by have := HLM.out; omega) HT4.out.r HT4.out.q HT4.out.b y HXY.out.2 HFE2.out.2 w4 (Below.refl _ _))
      rw [HCY.out] at HA2
      have hqt4 := HQT.out w4 HT4.out.b
      clear hw4 hqa hx4 i0 i1 t0 t1 t2 t3 t4 HA1 HTA HS HCP
      have i0 := cell_of_row w4 q 0 _ 32 (0, 0) HT4.out.q
      have i1 := cell_of_row w4 q 1 _ 32 (0, 0) HT4.out.q
      have t5 := cell_of_row w4 qt 5 _ 54 (0, 0) hqt4
      have t6 := cell_of_row w4 qt 6 _ 54 (0, 0) hqt4
      have t7 := cell_of_row w4 qt 7 _ 54 (0, 0) hqt4
      have t8 := cell_of_row w4 qt 8 _ 54 (0, 0) hqt4
      have t9 := cell_of_row w4 qt 9 _ 54 (0, 0) hqt4
      clear hqt4
      go_upto_region 14 with ((go_at_call 14; with_reducible refine HA2.out.mono ?_); rintro e w5 ⟨b4, d4, cap4, D1, f1, g1, D2, f2, g2, rfl, hm5, hr5, hc5, hbd5⟩; have HTB := Lib.hid (tb_of HT4.out hm5 hr5 hc5); have HX5 := Lib.hid (HT4.out.k.keepTy hc5 HXA.out (by decide) (by decide)); clear hm5 hr5 hc5 hbd5)
      have hx6 := heap_alloc_new w5 (.cells #[.slice D1 f1 g1, .slice D2 f2 g2] 32)
      have HT6 := Lib.hid (HTB.out.below (below_alloc w5 (.cells #[.slice D1 f1 g1, .slice D2 f2 g2] 32)))
      have HX6 := Lib.hid (((below_alloc w5 (.cells #[.slice D1 f1 g1, .slice D2 f2 g2] 32)).block _ (Array.getElem?_eq_some_iff.1 HX5.out).1).trans HX5.out)
      obtain ⟨w6, hw6⟩ : ∃ w6, w6 = w5.alloc (.cells #[.slice D1 f1 g1, .slice D2 f2 g2] 32) := ⟨_, rfl⟩
      obtain ⟨qb, hqb⟩ : ∃ qb, qb = w5.heap.size := ⟨_, rfl⟩
      rw [← hw6] at hx6 HT6 HX6 ⊢
      rw [← hqb] at hx6 ⊢
      have HXB := Lib.hid hx6
      generalize nx m x = ma at HT6 HNX
      generalize nx m y = mb at HT6 HNX
      clear hw6 hqb hx6 i0 i1 t5 t6 t7 t8 t9 HA2 HT4 HTB HX5
      go_upto_region 15 with ((go_at_call 11; with_reducible refine (HN.out w6).mono ?_); rintro e w7 ⟨b5, d5', rfl, hm7, hb7⟩; have HM7 := Lib.hid hm7; have HB7 := Lib.hid hb7; clear hm7 hb7)
      go_upto_region 16 with ((go_at_call 11; with_reducible refine (HN2.out w7).mono ?_); rintro e w8 ⟨b6, d6, rfl, hm8, hb8⟩; have HM8 := Lib.hid hm8; have HB8 := Lib.hid hb8; clear hm8 hb8)
      go_upto_region 17 with ((go_at_call 12; with_reducible refine (HR.out w8).mono ?_); rintro e w9 ⟨E1, n9, c9, rfl, hr9, hb9⟩; have HR9 := Lib.hid hr9; have HB9 := Lib.hid hb9; clear hr9 hb9)
      have hx10 := heap_alloc_new w9 (.cells #[.slice E1 n9 c9, .slice none 0 0] 32)
      have hb10 : Below w6.heap.size w6 (w9.alloc (.cells #[.slice E1 n9 c9, .slice none 0 0] 32)) := HB7.out.trans ((HB8.out.trans ((HB9.out.trans ((below_alloc w9 _).mono HB9.out.size)).mono HB8.out.size)).mono HB7.out.size)
      have hm10 := (HM7.out.below HB8.out).below (HB9.out.trans ((below_alloc w9 (.cells #[.slice E1 n9 c9, .slice none 0 0] 32)).mono HB9.out.size))
      have hk10 := HM8.out.below (HB9.out.trans ((below_alloc w9 (.cells #[.slice E1 n9 c9, .slice none 0 0] 32)).mono HB9.out.size))
      have hr10 := HR9.out.below (below_alloc w9 (.cells #[.slice E1 n9 c9, .slice none 0 0] 32))
      obtain ⟨w10, hw10⟩ : ∃ w10, w10 = w9.alloc (.cells #[.slice E1 n9 c9, .slice none 0 0] 32) := ⟨_, rfl⟩
      obtain ⟨qc, hqc⟩ : ∃ qc, qc = w9.heap.size := ⟨_, rfl⟩
      rw [← hw10] at hx10 hb10 hm10 hk10 hr10 ⊢
      rw [← hqc] at hx10 ⊢
      clear hw10 hqc
      have HP := Lib.hid (fun z : Gb w10 => hb10.trans (z.h.mono hb10.size))
      have HZ := Lib.hid (fun z : Gb w10 => HT6.out.below (HP.out z))
      have hrow : ∀ (z : Gb w10) (j : Nat) (cs : Array Value) (k : Nat) (v : Value), w10.heap[j]? = some (.cells cs 32 (0, 0)) → cs[k]? = some v → z.W.cell? ⟨j, k, none⟩ = some v := fun z j cs k v h hv => by
        rw [cell_of_row z.W j k cs 32 (0, 0) ((z.h.block _ (Array.getElem?_eq_some_iff.1 h).1).trans h)]
        exact hv
      have ha10 := (hb10.block _ (Array.getElem?_eq_some_iff.1 HX6.out).1).trans HX6.out
      have hb10' := (hb10.block _ (Array.getElem?_eq_some_iff.1 HXB.out).1).trans HXB.out
      have ca0 := fun z : Gb w10 => hrow z qa _ 0 (.slice C1 x1 y1) ha10 rfl
      have ca1 := fun z : Gb w10 => hrow z qa _ 1 (.slice C2 x2 y2) ha10 rfl
      have cb0 := fun z : Gb w10 => hrow z qb _ 0 (.slice D1 f1 g1) hb10' rfl
      have cb1 := fun z : Gb w10 => hrow z qb _ 1 (.slice D2 f2 g2) hb10' rfl
      have cc0 := fun z : Gb w10 => hrow z qc _ 0 (.slice E1 n9 c9) hx10 rfl
      have cc1 := fun z : Gb w10 => hrow z qc _ 1 (.slice none 0 0) hx10 rfl
      have r13 := fun z : Gb w10 => run_string (P := Try.prog) 29 9 5 Try.underlying29 Try.underlying5 Try.underlying9 (show Byt z.W (.slice C1 x1 y1) ma.B from by obtain ⟨S, h⟩ := (HZ.out z).ra; exact h.B)
      have r15 := fun z : Gb w10 => run_string (P := Try.prog) 29 9 5 Try.underlying29 Try.underlying5 Try.underlying9 (show Byt z.W (.slice D1 f1 g1) mb.B from by obtain ⟨S, h⟩ := (HZ.out z).rc; exact h.B)
      have r21 := fun z : Gb w10 => run_string (P := Try.prog) 29 9 5 Try.underlying29 Try.underlying5 Try.underlying9 (hr10.B.below z.h)
      have H15a := Lib.hid (fun z : Gb w10 => gb_of z (v := .bool true) (show Calls Try.prog 15 #[.pointer (some ⟨b3, 0, none⟩), .agg #[.slice C1 x1 y1, .slice C2 x2 y2], .int .i64 999] z.W (OkB z.W) from by
        obtain ⟨d, cap, h1⟩ := (HZ.out z).a
        obtain ⟨S, h2⟩ := (HZ.out z).ra
        exact is_any h1 HNX.out.1.1 h2 999))
      have H15b := Lib.hid (fun z : Gb w10 => gb_of z (v := .bool true) (show Calls Try.prog 15 #[.pointer (some ⟨b4, 0, none⟩), .agg #[.slice D1 f1 g1, .slice D2 f2 g2], .int .i64 999] z.W (OkB z.W) from by
        obtain ⟨d, cap, h1⟩ := (HZ.out z).c
        obtain ⟨S, h2⟩ := (HZ.out z).rc
        exact is_any h1 HNX.out.2.1 h2 999))
      have HBA := Lib.hid (fun z : Gb w10 => show Ba z.W (some ⟨b3, 0, none⟩) ma.B from by obtain ⟨d, cap, h1⟩ := (HZ.out z).a; exact Ba.of_mem h1)
      have HBB := Lib.hid (fun z : Gb w10 => show Ba z.W (some ⟨b4, 0, none⟩) mb.B from by obtain ⟨d, cap, h1⟩ := (HZ.out z).c; exact Ba.of_mem h1)
      have H21a := Lib.hid (fun z : Gb w10 => gb_same z (Same_any (HBA.out z) (HBB.out z)))
      have H21b := Lib.hid (fun z : Gb w10 => gb_same z (Same_any (HBA.out z) (Ba.of_mem (hm10.below z.h))))
      have H21c := Lib.hid (fun z : Gb w10 => gb_same z (Same_any (HBA.out z) (Ba.of_mem (hk10.below z.h))))
      have H10 := Lib.hid (fun z : Gb w10 => gb_of z (v := .bool true) (works_any z.W))
      have hlo : decide (ma.B = (Mm.new ((3 - pg) * 4096)).B) = false := decide_eq_false fun e => by
        have h1 := congrArg List.length e
        have h2 := HNX.out.1.2
        have h3 := HNN.out
        have h4 := HST.out
        have h5 : (Mm.new ((3 - pg) * 4096)).B.length = (3 - pg) * 4096 := by simp [Mm.new]
        omega
      rw [hlo] at H21c
      generalize (Mm.new (pg * 4096)).B = lf at H21b r21
      have HFIN := Lib.hid (fun z : Gb w10 => HB1.out.trans ((HT6.out.b.trans ((HP.out z).mono HT6.out.b.size)).mono HB1.out.size))
      have hne := gb_ne w10
      generalize ma.B = la at H21a H21b r13
      generalize mb.B = lb at H21a r15
      clear hx10 hb10 hm10 hk10 hr10 HP HZ hrow ha10 hb10' hlo HBA HBB HM7 HM8 HR9 HB7 HB8 HB9 HNX HX6 HXB HT6 HN HN2 HR
      by_cases h1 : la = lb <;> by_cases h2 : la = lf
      · subst h1 h2
        rw [decide_eq_true rfl] at H21a H21b
        refine wp_region_gb (by kernel_rfl) (by kernel_rfl) ?_
        repeat (go_big_quiet_step ((first | (go_at_call 15; first | with_reducible exact H15a.out _ | with_reducible exact H15b.out _) | (go_at_call 21; first | with_reducible exact H21a.out _ | with_reducible exact H21b.out _ | with_reducible exact H21c.out _) | (go_at_call 10; with_reducible exact H10.out _))))
        refine wpQuiet_nil ?_
        rintro wz ⟨z, rfl⟩
        go_wp2
        go_ret
        exact ⟨rfl, HFIN.out z⟩
      · subst h1
        have e2 : (la == lf) = false := by simpa using h2
        have e2' : (la.toArray == lf.toArray) = false := by simpa using h2
        rw [decide_eq_true rfl] at H21a
        rw [decide_eq_false h2] at H21b
        refine wp_region_gb (by kernel_rfl) (by kernel_rfl) ?_
        repeat (go_big_quiet_step ((first | (go_at_call 15; first | with_reducible exact H15a.out _ | with_reducible exact H15b.out _) | (go_at_call 21; first | with_reducible exact H21a.out _ | with_reducible exact H21b.out _ | with_reducible exact H21c.out _) | (go_at_call 10; with_reducible exact H10.out _))))
        refine wpQuiet_nil ?_
        rintro wz ⟨z, rfl⟩
        go_wp2
        go_ret
        exact ⟨rfl, HFIN.out z⟩
      · subst h2
        have e1 : (la == lb) = false := by simpa using h1
        have e1' : (la.toArray == lb.toArray) = false := by simpa using h1
        rw [decide_eq_false h1] at H21a
        rw [decide_eq_true rfl] at H21b
        refine wp_region_gb (by kernel_rfl) (by kernel_rfl) ?_
        repeat (go_big_quiet_step ((first | (go_at_call 15; first | with_reducible exact H15a.out _ | with_reducible exact H15b.out _) | (go_at_call 21; first | with_reducible exact H21a.out _ | with_reducible exact H21b.out _ | with_reducible exact H21c.out _) | (go_at_call 10; with_reducible exact H10.out _))))
        refine wpQuiet_nil ?_
        rintro wz ⟨z, rfl⟩
        go_wp2
        go_ret
        exact ⟨rfl, HFIN.out z⟩
      · have e1 : (la == lb) = false := by simpa using h1
        have e1' : (la.toArray == lb.toArray) = false := by simpa using h1
        have e2 : (la == lf) = false := by simpa using h2
        have e2' : (la.toArray == lf.toArray) = false := by simpa using h2
        rw [decide_eq_false h1] at H21a
        rw [decide_eq_false h2] at H21b
        refine wp_region_gb (by kernel_rfl) (by kernel_rfl) ?_
        repeat (go_big_quiet_step ((first | (go_at_call 15; first | with_reducible exact H15a.out _ | with_reducible exact H15b.out _) | (go_at_call 21; first | with_reducible exact H21a.out _ | with_reducible exact H21b.out _ | with_reducible exact H21c.out _) | (go_at_call 10; with_reducible exact H10.out _))))
        refine wpQuiet_nil ?_
        rintro wz ⟨z, rfl⟩
        go_wp2
        go_ret
        exact ⟨rfl, HFIN.out z⟩
theorem copies_any (p : Int) (v : Value) (L : List KA) (x y : KA) (w : World) (hL : Acts w v L) (hok : ∀ e ∈ L, KA.ok w e) (hx : KA.ok w x) (hy : KA.ok w y) : Calls Try.prog 5 #[.int .i64 p, v, .agg (two2 x y)] w (OkB w) := by
  by_cases h1 : p < 1
  · exact copies_works p v L x y w (.inl h1) hL hok hx hy
  by_cases h2 : 2 < p
  · exact copies_works p v L x y w (.inr (.inl h2)) hL hok hx hy
  by_cases h3 : fewB L 8 = true
  · by_cases h4 : fewB [x, y] 2 = true
    · obtain ⟨A, c, rfl, -⟩ := (show Acts w v L from hL)
      obtain ⟨pg, rfl⟩ : ∃ pg : Nat, p = (pg : Int) := ⟨p.toNat, by omega⟩
      exact copies_good pg A c L x y w (by omega) (by omega) h3 h4 hL hok hx hy
    · exact copies_works p v L x y w (.inr (.inr (.inr (by simpa using h4)))) hL hok hx hy
  · exact copies_works p v L x y w (.inr (.inr (.inl (by simpa using h3)))) hL hok hx hy
end Go.Proofs.Ytmnlkejhhdbhlaa
