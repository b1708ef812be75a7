/- The walk of MappingCopies. No condition. -/
import Derived.Test.YteiemegkdnjpgaaYF
import Derived.Deep.DeepCutAuto
import Derived.Deep.RegionHeld3
namespace Go.Proofs.Yteiemegkdnjpgaa
open Go.RowKit Go.Shelf
set_option linter.unusedVariables false
set_option maxHeartbeats 40000000
set_option maxRecDepth 100000
theorem min_nat (n : Nat) (many : Int) : ∃ k : Nat, min (n : Int) (max 1 many) = (k : Int) ∧ k ≤ n ∧ (max 1 many).toNat.min n = k := by
  refine ⟨(max 1 many).toNat.min n, ?_, Nat.min_le_right _ _, rfl⟩
  show min (n : Int) (max 1 many) = ((min (max 1 many).toNat n : Nat) : Int)
  omega
theorem rdl_take_true {many : Int} {L : List (Int × Int)} {k : Nat} (h : (max 1 many).toNat.min L.length = k) : rdl true many L = L.take k := by
  unfold rdl
  rw [show (L.map fun x => if true then x else (x.2, x.1)) = L by simp, List.take_eq_take_iff, ← h]
  show min (max 1 many).toNat L.length = min (min (max 1 many).toNat L.length) L.length
  omega
theorem rdl_take_false {many : Int} {l : List (Int × Int)} {k : Nat} (h : (max 1 many).toNat.min (l.map fun x => (x.2, x.1)).length = k) : rdl false many l = (l.map fun x => (x.2, x.1)).take k := by
  unfold rdl
  rw [show (l.map fun x => if false then x else (x.2, x.1)) = l.map fun x => (x.2, x.1) by simp, List.take_eq_take_iff, ← h]
  show min (max 1 many).toNat (l.map fun x => (x.2, x.1)).length = min (min (max 1 many).toNat (l.map fun x => (x.2, x.1)).length) (l.map fun x => (x.2, x.1)).length
  omega
theorem copies_main (s b p : Nat) (v : Value) (ls : List (List (Int × Int))) (u0 u1 : Value) (l0 l1 : List (Int × Int)) (a5 a6 : Int) (w : World) (hF : Fits s b p []) (hs : s ≤ 30) (hbk : b ≤ 8) (hpg : p ≤ 8) (h : Lol w v ls) (hR : ∀ l ∈ ls, Rng l) (hu0 : Ent w u0 l0) (hR0 : Rng l0) (hu1 : Ent w u1 l1) (hR1 : Rng l1)
    (hf : fewB ls 20 = true) (hf2 : fewB [l0, l1] 2 = true) (hv : valB s b p = true) : Calls Try.prog 4 #[.int .i64 (s : Int), .int .i64 (b : Int), .int .i64 (p : Int), v, .agg #[u0, u1], .int .i64 a5, .int .i64 a6] w (OkB w) := by
  have b0 := below_alloc w (.cells #[u0, u1] 39)
  obtain ⟨hl1, hl2⟩ := few_len hf
  have hl0 := (few_len hf2).2 l0 (by simp)
  have hl3 := (few_len hf2).2 l1 (by simp)
  have HL2 := Lib.hid hl2
  have HF1 := Lib.hid (few_any v ls 20 _ (h.below b0) (by omega))
  have HF2 := Lib.hid (few_any _ [l0, l1] 2 _ (lol_two (heap_alloc_new w (.cells #[u0, u1] 39)) (hu0.below b0) (hu1.below b0)) (by omega))
  rw [hf] at HF1
  rw [hf2] at HF2
  have HW := Lib.hid (fun W => works_any W)
  have HR := Lib.hid hR
  have HR0 := Lib.hid hR0
  have HR1 := Lib.hid hR1
  have HE0 := Lib.hid (hu0.below b0)
  have HE1 := Lib.hid (hu1.below b0)
  have HTR := Lib.hid (heap_alloc_new w (.cells #[u0, u1] 39))
  have HLL := h.below b0
  have HB0 := Lib.hid b0
  have hTl : w.heap.size < (w.alloc (.cells #[u0, u1] 39)).heap.size := by simp
  have HTL := Lib.hid hTl
  obtain ⟨A, c, rfl, hr⟩ := HLL
  have HL := Lib.hid hr
  have HRN := Lib.hid (fun W : World => (show Calls Try.prog 9 #[.int .i64 (s : Int), .int .i64 (b : Int), .int .i64 (p : Int)] W fun e w' => e = .returned (.tuple #[.agg #[.int .i64 (s : Int), .int .i64 (b : Int), .int .i64 (p : Int), .slice none 0 0], .int .i64 0]) ∧ Below W.heap.size W w' from rnew_ok W hv))
  obtain ⟨A4, c4, rfl, -⟩ := hu0.form
  obtain ⟨A5, c5, rfl, -⟩ := hu1.form
  have hs2 : (s : Int) ≤ 30 := by omega
  have hb2 : (b : Int) ≤ 8 := by omega
  have hp2 : (p : Int) ≤ 8 := by omega
  have hpn := fun W : World => fun f a b => run_eql_func_nil (P := Try.prog) W 41 f a b Try.underlying41
  clear hf hf2 hv hl2 hR hR0 hR1 hu0 hu1 h b0 hTl hr
  go_enter Try.func4, Try.ntmps4
  go_upto_region 1 with fail
  obtain ⟨w1, hw1⟩ : ∃ w1, w1 = w.alloc (.cells #[.slice A4 l0.length c4, .slice A5 l1.length c5] 39) := ⟨_, rfl⟩
  obtain ⟨T, hT⟩ : ∃ T, T = w.heap.size := ⟨_, rfl⟩
  rw [← hw1] at HF1 HF2 HE0 HE1 HTR HL HB0 HTL ⊢
  rw [← hT] at HF2 HTR HTL ⊢
  clear hw1 hT
  have HN := Lib.hid (new_ws (w := w1) (Below.refl _ _) hF)
  clear hF
  go_wp2_with (first
    | ((go_at_call 11; with_reducible refine HF1.out.mono ?_); rintro e w' ⟨rfl, rfl⟩)
    | ((go_at_call 11; with_reducible refine HF2.out.mono ?_); rintro e w' ⟨rfl, rfl⟩)
    | ((go_at_call 8; with_reducible refine HN.out.mono ?_); rintro e w2 ⟨bb, m1, m2, g, cap, rfl, hS⟩; have S0 := Lib.hid hS; clear hS)
    | ((go_at_call 9; with_reducible refine (HRN.out w2).mono ?_); rintro e w3 ⟨rfl, hb⟩; have HBW := Lib.hid hb; clear hb)
    | ((go_at_call 10; with_reducible refine (num_any _ _).mono ?_); rintro e w' ⟨rfl, rfl⟩))
  obtain ⟨X, hX⟩ : ∃ X, X = w3.heap.size := ⟨_, rfl⟩
  have HP0 : Hid (WS w1 bb m1 m2 g cap s b p [] (w3.alloc (.cells #[.int .i64 (s : Int), .int .i64 (b : Int), .int .i64 (p : Int), .slice none 0 0] 29)) ∧ Rf X s b p (Fs bb m1 m2 g) (.slice none 0 0) [] (w3.alloc (.cells #[.int .i64 (s : Int), .int .i64 (b : Int), .int .i64 (p : Int), .slice none 0 0] 29))) := Lib.hid
    ⟨S0.out.later (HBW.out.trans ((below_alloc w3 _).mono HBW.out.size)), by rw [hX]; exact ⟨heap_alloc_new w3 _, Ent.nil _ _ _, fun h => absurd h (by simp), fun hf => by have := fs_lt S0.out _ hf; have := HBW.out.size; omega⟩⟩
  have HXW := Lib.hid (show w1.heap.size ≤ X from by rw [hX]; exact Nat.le_trans S0.out.2.size HBW.out.size)
  rw [← hX]
  clear hX HBW S0 HN HRN HF1 HF2
  go_loopw [18, 19] (fun _ i wr => ∃ (k : Nat) (L : List (Int × Int)) (u : Value), k ≤ ls.length ∧ i = .int .i64 k ∧ Hid (WS w1 bb m1 m2 g cap s b p L wr ∧ Rf X s b p (Fs bb m1 m2 g) u L wr)) (fun _ i _ => ls.length - (RowKit.intOf i).toNat)
  case atStart => exact ⟨0, _, _, Nat.zero_le _, rfl, HP0⟩
  case round =>
    clear HP0
    obtain ⟨k, L, u, hk, rfl, HP⟩ := hrel
    obtain ⟨Au, cu, hue, -⟩ := HP.out.2.ent.form
    subst hue
    have x0 := HP.out.2.c0
    have x1 := HP.out.2.c1
    have x2 := HP.out.2.c2
    have x3 := HP.out.2.c3
    by_cases hlt : k < ls.length
    · obtain ⟨g', o, rfl, hg', hc⟩ := HL.out (by omega)
      obtain ⟨ux, h1, h2⟩ := hc k hlt
      have hcx := (HP.out.1.bel.cell (p := ⟨g', o + k, none⟩) hg').trans h1
      have HG := Lib.hid hg'
      have H1 := Lib.hid h1
      have HXE := Lib.hid h2
      have HRK := Lib.hid (HR.out _ (List.getElem_mem hlt))
      have HLK := Lib.hid (HL2.out _ (List.getElem_mem hlt))
      obtain ⟨A2, c2, hux, -⟩ := h2.form
      subst hux
      clear h1 h2 hc
      generalize ls[k] = xs at *
      have H13 := Lib.hid (fun (W' : World) (hW : Below wr.heap.size wr W') => (show Calls Try.prog 13 #[.agg #[.int .i64 (s : Int), .int .i64 (b : Int), .int .i64 (p : Int), (.slice Au L.length cu)], .slice A2 xs.length c2] W' fun e w' => ∃ u', e = .returned (.tuple #[.agg #[.int .i64 (s : Int), .int .i64 (b : Int), .int .i64 (p : Int), u'], .int .i64 (appE s b p L xs)]) ∧ Ent w' u' (appS s b p L L xs) ∧ (u' = (.slice Au L.length cu) ∨ (0 < (appS s b p L L xs).length → ∀ k, u'.ownBlock = some k → W'.heap.size ≤ k)) ∧ Below W'.heap.size W' w' from rapply_any s b p HP.out.1.1.fit (HP.out.2.ent.below hW) ((HXE.out.below HP.out.1.bel).below hW) (by have := HLK.out; omega) HRK.out))
      have H14 := Lib.hid (fun (W : World) (u' : Value) (L' : List (Int × Int)) (hp : WS w1 bb m1 m2 g cap s b p L W ∧ Rf X s b p (Fs bb m1 m2 g) u' L' W) => ws_play hp.1 hp.2 HXE.out (by have := HLK.out; omega) HRK.out)
      generalize appS s b p L L xs = L1 at *
      generalize appE s b p L xs = E1 at *
      generalize xs.length = nx at *
      clear HXE HRK HLK
      go_upto_region 12 with fail
      go_cut [18] from 84 to 92 (fun f wx => ∃ u' : Value, f = .int .i64 E1 ∧ Hid (WS w1 bb m1 m2 g cap s b p L wx ∧ Rf X s b p (Fs bb m1 m2 g) u' L1 wx))
      case first =>
        have hXl := HP.out.2.lt
        have hgl : g' < wr.heap.size := Nat.lt_of_lt_of_le hg' HP.out.1.bel.size
        have hk0 : (0 : Int) ≤ (k : Int) := by omega
        have hk1 : (k : Int) < (ls.length : Int) := by omega
        have Bd0 := Lib.hid (show Below wr.heap.size wr wr.drew from (Below.refl _ _).drew)
        go_region_with ((go_at_call 13; with_reducible refine (H13.out _ Bd0.out).mono ?_); rintro e w5 ⟨u', rfl, he5, ho5, hb5⟩; obtain ⟨A6, n6, hv5, -⟩ := he5.form; subst hv5; have HP5 : Hid (WS w1 bb m1 m2 g cap s b p L w5 ∧ Rf X s b p (Fs bb m1 m2 g) (.slice Au L.length cu) L w5) := Lib.hid ⟨HP.out.1.later (Bd0.out.trans hb5), HP.out.2.later (Bd0.out.trans hb5)⟩; have HQ : Hid (WS w1 bb m1 m2 g cap s b p L ((((w5.setCell ⟨X, 0, none⟩ (.int .i64 (s : Int))).setCell ⟨X, 1, none⟩ (.int .i64 (b : Int))).setCell ⟨X, 2, none⟩ (.int .i64 (p : Int))).setCell ⟨X, 3, none⟩ (.slice A6 L1.length n6)) ∧ Rf X s b p (Fs bb m1 m2 g) (.slice A6 L1.length n6) L1 ((((w5.setCell ⟨X, 0, none⟩ (.int .i64 (s : Int))).setCell ⟨X, 1, none⟩ (.int .i64 (b : Int))).setCell ⟨X, 2, none⟩ (.int .i64 (p : Int))).setCell ⟨X, 3, none⟩ (.slice A6 L1.length n6))) := Lib.hid ⟨ws_put HP5.out.1 HP5.out.2.nx HXW.out _ _ _ _, HP5.out.2.put he5 (rap_apart HP.out.2 he5 ho5 (Nat.le_refl _) (fs_lt HP.out.1))⟩; have y0 := HP5.out.2.c0; have y1 := HP5.out.2.c1; have y2 := HP5.out.2.c2; have y3 := HP5.out.2.c3; have yf0 := HP5.out.2.free 0; have yf1 := HP5.out.2.free 1; have yf2 := HP5.out.2.free 2; have yf3 := HP5.out.2.free 3; clear he5 ho5 hb5)
        all_goals
          go_wp2
          go_meet
          case rel => exact ⟨_, rfl, HQ⟩
      case rest =>
        obtain ⟨u', rfl, HP6⟩ := hcut
        clear hcx x0 x1 x2 x3
        have hcx := (HP6.out.1.bel.cell (p := ⟨g', o + k, none⟩) HG.out).trans H1.out
        go_wp2_with (first
          | ((go_at_call 14; with_reducible refine (H14.out _ _ _ HP6.out).mono ?_); rintro e W7 ⟨rfl, hs7, hr7⟩; have HP7 : Hid (WS w1 bb m1 m2 g cap s b p L1 W7 ∧ Rf X s b p (Fs bb m1 m2 g) u' L1 W7) := Lib.hid ⟨hs7, hr7⟩; clear hs7 hr7)
          | ((go_at_call 10; with_reducible refine (num_any _ _).mono ?_); rintro e w' ⟨rfl, rfl⟩))
        go_roundw
        case rel => exact ⟨k + 1, L1, _, by omega, by go_num, HP7⟩
        case measure => simp [RowKit.intOf]; omega
    · have hkl : k = ls.length := by omega
      subst hkl
      have HFL := Lib.hid HP.out.1.1.fit
      have HLs := Lib.hid HFL.out.len
      have HAL := Lib.hid (All_any HP.out.1.mg)
      clear x0 x1 x2 x3
      go_wp2_with fail
      refine HAL.out.mono ?_
      rintro e Wa ⟨B1, sv1, rfl, hB1, hbx1, hen1, hvo1, hba⟩
      have Q1a := Lib.hid (sq_of hB1 hbx1 hen1 hvo1 (fs_lt HP.out.1))
      have HPa : Hid (WS w1 bb m1 m2 g cap s b p L Wa ∧ Rf X s b p (Fs bb m1 m2 g) (.slice Au L.length cu) L Wa) := Lib.hid ⟨HP.out.1.later hba, HP.out.2.later hba⟩
      clear hB1 hbx1 hen1 hvo1 hba HAL
      have HPG := Lib.hid (Pages_any HPa.out.1.mg a5)
      have HPLN := Lib.hid (prs_len b p L a5)
      have HOP := Lib.hid (ofl_prs b p L a5)
      have HOLN := Lib.hid (ofl_length b p L a5)
      have HOFF := Lib.hid (fun (W : World) (he : Ent W (.slice Au L.length cu) L) => (show Calls Try.prog 19 #[.agg #[.int .i64 (s : Int), .int .i64 (b : Int), .int .i64 (p : Int), (.slice Au L.length cu)], .int .i64 a5] W (LisP W (ofl b p L a5)) from rof_any s b p he (by have := HLs.out; have := HFL.out.hs; omega) HFL.out.hb.2 HFL.out.hp a5))
      generalize prs (look (flip L)) (pgl b p a5) = pl at HPG HPLN HOP
      generalize ofl b p L a5 = ol at HOP HOLN HOFF
      go_wp2_with fail
      refine HPG.out.mono ?_
      rintro e Wb ⟨B2, sv2, rfl, hB2, hbx2, hen2, hvo2, hbb⟩
      have Q2b := Lib.hid (sq_of hB2 hbx2 hen2 hvo2 (fs_lt HPa.out.1))
      have Q1b := Lib.hid (Q1a.out.later hbb)
      have HPb : Hid (WS w1 bb m1 m2 g cap s b p L Wb ∧ Rf X s b p (Fs bb m1 m2 g) (.slice Au L.length cu) L Wb) := Lib.hid ⟨HPa.out.1.later hbb, HPa.out.2.later hbb⟩
      clear hB2 hbx2 hen2 hvo2 hbb HPG
      have HCP := Lib.hid (Copy_any HPb.out.1.mg)
      go_wp2_with fail
      refine HCP.out.mono ?_
      rintro e Wc ⟨cb, c1, c2, cg, ccap, rfl, hmq, hbc⟩
      have hqt : ∀ k, FsP (⟨cb, c1, c2, cg, ccap⟩ : Pt) k → Wb.heap.size ≤ k := fun k hk => (mq_fs (P := (⟨cb, c1, c2, cg, ccap⟩ : Pt)) hmq hk).1
      have HUc : Hid (Rf X s b p (S12 (⟨bb, m1, m2, g, cap⟩ : Pt) (⟨cb, c1, c2, cg, ccap⟩ : Pt)) (.slice Au L.length cu) L Wc) := Lib.hid ((HPb.out.2.widen hqt).later hbc)
      have Q1c : Hid (Sq B1 sv1 L (S12 (⟨bb, m1, m2, g, cap⟩ : Pt) (⟨cb, c1, c2, cg, ccap⟩ : Pt)) Wc) := Lib.hid ((Q1b.out.widen hqt).later hbc)
      have Q2c : Hid (Sq B2 sv2 pl (S12 (⟨bb, m1, m2, g, cap⟩ : Pt) (⟨cb, c1, c2, cg, ccap⟩ : Pt)) Wc) := Lib.hid ((Q2b.out.widen hqt).later hbc)
      have HMc : Hid (WS w1 bb m1 m2 g cap s b p L Wc) := Lib.hid (HPb.out.1.later hbc)
      have HOc : Hid (Mq Wc Wb.heap.size (⟨cb, c1, c2, cg, ccap⟩ : Pt) s b p L) := Lib.hid hmq
      have HLO : Hid (∀ k, FsP (⟨bb, m1, m2, g, cap⟩ : Pt) k → k < Wb.heap.size) := Lib.hid (fs_lt HPb.out.1)
      have HAA := Lib.hid HPb.out.1.bel.size
      have HS12 : Hid (∀ k, S12 (⟨bb, m1, m2, g, cap⟩ : Pt) (⟨cb, c1, c2, cg, ccap⟩ : Pt) k → k < Wc.heap.size) := Lib.hid fun k hk => hk.elim (fun h => fs_lt HMc.out k h) (fun h => (mq_fs (P := (⟨cb, c1, c2, cg, ccap⟩ : Pt)) hmq h).2)
      have HTc := Lib.hid (((HMc.out.bel.block T HTL.out).trans HTR.out))
      have H13x := Lib.hid (show Calls Try.prog 13 #[.agg #[.int .i64 (s : Int), .int .i64 (b : Int), .int .i64 (p : Int), (.slice Au L.length cu)], .slice A4 l0.length c4] Wc fun e w' => ∃ u', e = .returned (.tuple #[.agg #[.int .i64 (s : Int), .int .i64 (b : Int), .int .i64 (p : Int), u'], .int .i64 (appE s b p L l0)]) ∧ Ent w' u' (appS s b p L L l0) ∧ (u' = (.slice Au L.length cu) ∨ (0 < (appS s b p L L l0).length → ∀ k, u'.ownBlock = some k → Wc.heap.size ≤ k)) ∧ Below Wc.heap.size Wc w' from rapply_any s b p HFL.out HUc.out.ent (HE0.out.below HMc.out.bel) (by omega) HR0.out)
      have H13y := Lib.hid (fun (W : World) (hW : Below Wc.heap.size Wc W) => (show Calls Try.prog 13 #[.agg #[.int .i64 (s : Int), .int .i64 (b : Int), .int .i64 (p : Int), (.slice Au L.length cu)], .slice A5 l1.length c5] W fun e w' => ∃ u', e = .returned (.tuple #[.agg #[.int .i64 (s : Int), .int .i64 (b : Int), .int .i64 (p : Int), u'], .int .i64 (appE s b p L l1)]) ∧ Ent w' u' (appS s b p L L l1) ∧ (u' = (.slice Au L.length cu) ∨ (0 < (appS s b p L L l1).length → ∀ k, u'.ownBlock = some k → W.heap.size ≤ k)) ∧ Below W.heap.size W w' from rapply_any s b p HFL.out (HUc.out.ent.below hW) ((HE1.out.below HMc.out.bel).below hW) (by omega) HR1.out))
      have HAP1 := Lib.hid (fun (W : World) (y1 y2 : Nat) (ux uy : Value) (K1 K2 : List (Int × Int)) (h : Cs w1 Wb.heap.size T X y1 y2 B1 B2 (⟨bb, m1, m2, g, cap⟩ : Pt) (⟨cb, c1, c2, cg, ccap⟩ : Pt) s b p (.slice A4 l0.length c4) (.slice A5 l1.length c5) (.slice Au L.length cu) ux uy sv1 sv2 L L L K1 K2 pl W) => h.ap1 HE0.out (by omega) HR0.out)
      have HAP2 := Lib.hid (fun (W : World) (y1 y2 : Nat) (ux uy : Value) (M K1 K2 : List (Int × Int)) (h : Cs w1 Wb.heap.size T X y1 y2 B1 B2 (⟨bb, m1, m2, g, cap⟩ : Pt) (⟨cb, c1, c2, cg, ccap⟩ : Pt) s b p (.slice A4 l0.length c4) (.slice A5 l1.length c5) (.slice Au L.length cu) ux uy sv1 sv2 M L L K1 K2 pl W) => h.ap2 HE1.out (by omega) HR1.out)
      clear hmq hbc hqt HCP Q1a Q1b Q2b HPa HPb HP
      have HL1 := Lib.hid (HFL.out.app l0 L HFL.out).len
      have HL2' := Lib.hid (HFL.out.app l1 L HFL.out).len
      generalize appS s b p L L l0 = L1 at *
      generalize appS s b p L L l1 = L2 at *
      generalize appE s b p L l0 = E1 at *
      generalize appE s b p L l1 = E2 at *
      have x0 := HUc.out.c0
      have x1 := HUc.out.c1
      have x2 := HUc.out.c2
      have x3 := HUc.out.c3
      have t0 : Wc.cell? ⟨T, 0, none⟩ = some (.slice A4 l0.length c4) := by rw [cell_of_row Wc _ 0 _ _ _ HTc.out]; rfl
      go_wp2_with fail
      refine H13x.out.mono ?_
      rintro e Wd ⟨ux, rfl, hex, hox, hbd⟩
      obtain ⟨A6, n6, hvx, -⟩ := hex.form
      subst hvx
      have HXe := Lib.hid (rap_new HUc.out hex hox (Nat.le_refl _) HS12.out hbd.size)
      have HBe := Lib.hid (hbd.trans ((below_alloc Wd (.cells #[.int .i64 (s : Int), .int .i64 (b : Int), .int .i64 (p : Int), (.slice A6 L1.length n6)] 29)).mono hbd.size))
      clear hex hox hbd x0 x1 x2 x3 t0
      go_upto_region 20 with fail
      obtain ⟨We, hWe⟩ : ∃ We, We = Wd.alloc (.cells #[.int .i64 (s : Int), .int .i64 (b : Int), .int .i64 (p : Int), (.slice A6 L1.length n6)] 29) := ⟨_, rfl⟩
      obtain ⟨Y1, hY1⟩ : ∃ Y1, Y1 = Wd.heap.size := ⟨_, rfl⟩
      rw [← hWe] at HXe HBe ⊢
      rw [← hY1] at HXe ⊢
      clear hWe hY1
      have HUe := Lib.hid (HUc.out.later HBe.out)
      have HTe := Lib.hid ((HBe.out.block T (Array.getElem?_eq_some_iff.1 HTc.out).1).trans HTc.out)
      have x0 := HUe.out.c0
      have x1 := HUe.out.c1
      have x2 := HUe.out.c2
      have x3 := HUe.out.c3
      have t1 : We.cell? ⟨T, 1, none⟩ = some (.slice A5 l1.length c5) := by rw [cell_of_row We _ 1 _ _ _ HTe.out]; rfl
      go_wp2_with fail
      refine (H13y.out _ HBe.out).mono ?_
      rintro e Wf ⟨uy, rfl, hey, hoy, hbf⟩
      obtain ⟨A7, n7, hvy, -⟩ := hey.form
      subst hvy
      have HYg := Lib.hid (rap_new HUe.out hey hoy (Nat.le_refl _) (fun k hk => Nat.lt_of_lt_of_le (HS12.out k hk) HBe.out.size) hbf.size)
      have HBg := Lib.hid (hbf.trans ((below_alloc Wf (.cells #[.int .i64 (s : Int), .int .i64 (b : Int), .int .i64 (p : Int), (.slice A7 L2.length n7)] 29)).mono hbf.size))
      clear hey hoy hbf x0 x1 x2 x3 t1
      go_upto_region 21 with fail
      obtain ⟨Wg, hWg⟩ : ∃ Wg, Wg = Wf.alloc (.cells #[.int .i64 (s : Int), .int .i64 (b : Int), .int .i64 (p : Int), (.slice A7 L2.length n7)] 29) := ⟨_, rfl⟩
      obtain ⟨Y2, hY2⟩ : ∃ Y2, Y2 = Wf.heap.size := ⟨_, rfl⟩
      rw [← hWg] at HYg HBg ⊢
      rw [← hY2] at HYg ⊢
      clear hWg hY2
      have hcg : Below Wc.heap.size Wc Wg := HBe.out.trans (HBg.out.mono HBe.out.size)
      have HC1 : Hid (Cs w1 Wb.heap.size T X Y1 Y2 B1 B2 (⟨bb, m1, m2, g, cap⟩ : Pt) (⟨cb, c1, c2, cg, ccap⟩ : Pt) s b p (.slice A4 l0.length c4) (.slice A5 l1.length c5) (.slice Au L.length cu) (.slice A6 L1.length n6) (.slice A7 L2.length n7) sv1 sv2 L L L L1 L2 pl Wg) := Lib.hid ⟨(hcg.block T (Array.getElem?_eq_some_iff.1 HTc.out).1).trans HTc.out, Mg.below HMc.out.mg hcg, Mg.below HOc.out hcg, HUc.out.later hcg, HXe.out.later HBg.out, HYg.out, Q1c.out.later hcg, Q2c.out.later hcg, HMc.out.bel.trans (hcg.mono HMc.out.bel.size), HLO.out, HTL.out, HAA.out⟩
      clear hcg HUc HUe HTc HTe HXe HYg HBe HBg HMc HOc Q1c Q2c HLO HS12 H13x H13y
      have HCD := Lib.hid (HC1.out.later (Below.refl Wg.heap.size Wg).drew)
      have H14m := Lib.hid (show Calls Try.prog 14 #[.pointer (some ⟨bb, 0, none⟩), (.slice A4 l0.length c4)] Wg.drew fun e w' => e = .returned (.int .i64 E1) ∧ (Cs w1 Wb.heap.size T X Y1 Y2 B1 B2 (⟨bb, m1, m2, g, cap⟩ : Pt) (⟨cb, c1, c2, cg, ccap⟩ : Pt) s b p (.slice A4 l0.length c4) (.slice A5 l1.length c5) (.slice Au L.length cu) (.slice A6 L1.length n6) (.slice A7 L2.length n7) sv1 sv2 L1 L L L1 L2 pl w') from HAP1.out _ _ _ _ _ _ _ HCD.out)
      have H14o := Lib.hid (fun (W : World) (hW : Cs w1 Wb.heap.size T X Y1 Y2 B1 B2 (⟨bb, m1, m2, g, cap⟩ : Pt) (⟨cb, c1, c2, cg, ccap⟩ : Pt) s b p (.slice A4 l0.length c4) (.slice A5 l1.length c5) (.slice Au L.length cu) (.slice A6 L1.length n6) (.slice A7 L2.length n7) sv1 sv2 L1 L L L1 L2 pl W) => (show Calls Try.prog 14 #[.pointer (some ⟨cb, 0, none⟩), (.slice A5 l1.length c5)] W fun e w' => e = .returned (.int .i64 E2) ∧ (Cs w1 Wb.heap.size T X Y1 Y2 B1 B2 (⟨bb, m1, m2, g, cap⟩ : Pt) (⟨cb, c1, c2, cg, ccap⟩ : Pt) s b p (.slice A4 l0.length c4) (.slice A5 l1.length c5) (.slice Au L.length cu) (.slice A6 L1.length n6) (.slice A7 L2.length n7) sv1 sv2 L1 L2 L L1 L2 pl w') from HAP2.out _ _ _ _ _ _ _ _ hW))
      have HTD := Lib.hid (show Wg.drew.cell? ⟨T, 0, none⟩ = some (.slice A4 l0.length c4) ∧ Wg.drew.cell? ⟨T, 1, none⟩ = some (.slice A5 l1.length c5) from ⟨HCD.out.t0, HCD.out.t1⟩)
      go_region_held3 (fun W => W.cell? ⟨T, 0, none⟩ = some (.slice A4 l0.length c4) ∧ W.cell? ⟨T, 1, none⟩ = some (.slice A5 l1.length c5)) (first | assumption | exact HTD.out)
        (first
          | ((go_at_call 14; with_reducible refine H14m.out.mono ?_); rintro e Wh ⟨rfl, hch⟩; have HC2 := Lib.hid hch; have ht2 : Wh.cell? ⟨T, 0, none⟩ = some (.slice A4 l0.length c4) ∧ Wh.cell? ⟨T, 1, none⟩ = some (.slice A5 l1.length c5) := ⟨hch.t0, hch.t1⟩; clear hch)
          | ((go_at_call 10; with_reducible refine (num_any _ _).mono ?_); rintro e w' ⟨rfl, rfl⟩)
          | ((go_at_call 14; with_reducible refine (H14o.out _ HC2.out).mono ?_); rintro e Wi ⟨rfl, hci⟩; have HC3 := Lib.hid hci; have ht3 : Wi.cell? ⟨T, 0, none⟩ = some (.slice A4 l0.length c4) ∧ Wi.cell? ⟨T, 1, none⟩ = some (.slice A5 l1.length c5) := ⟨hci.t0, hci.t1⟩; clear hci))
      clear ht2 ht3 HC1 HCD H14m H14o HTD HC2 HAP1 HAP2 HE0 HE1 HR0 HR1
      obtain ⟨n9, hn9, hn9L, hn9m⟩ := min_nat L.length a6
      obtain ⟨k9, hk9, hk9L, hk9m⟩ := min_nat ol.length a6
      have HN9 := Lib.hid hn9m
      have HK9 := Lib.hid hk9m
      clear hn9m hk9m
      have HX22 : Hid (∀ W, Bel Wi W → Bel Wi W ∧ W.cell? ⟨X, 0, none⟩ = some (.int .i64 (s : Int)) ∧ W.cell? ⟨X, 1, none⟩ = some (.int .i64 (b : Int)) ∧ W.cell? ⟨X, 2, none⟩ = some (.int .i64 (p : Int)) ∧ W.cell? ⟨X, 3, none⟩ = some (.slice Au L.length cu)) := Lib.hid fun W hW => ⟨hW, (HC3.out.later hW).u.c0, (HC3.out.later hW).u.c1, (HC3.out.later hW).u.c2, (HC3.out.later hW).u.c3⟩
      have H19 := Lib.hid (fun (W : World) (hW : Bel Wi W ∧ W.cell? ⟨X, 0, none⟩ = some (.int .i64 (s : Int)) ∧ W.cell? ⟨X, 1, none⟩ = some (.int .i64 (b : Int)) ∧ W.cell? ⟨X, 2, none⟩ = some (.int .i64 (p : Int)) ∧ W.cell? ⟨X, 3, none⟩ = some (.slice Au L.length cu)) => (show Calls Try.prog 19 #[.agg #[.int .i64 (s : Int), .int .i64 (b : Int), .int .i64 (p : Int), (.slice Au L.length cu)], .int .i64 a5] W fun e w' => ∃ r, e = .returned r ∧ Ent w' r ol ∧ Bel Wi w' ∧ w'.cell? ⟨X, 0, none⟩ = some (.int .i64 (s : Int)) ∧ w'.cell? ⟨X, 1, none⟩ = some (.int .i64 (b : Int)) ∧ w'.cell? ⟨X, 2, none⟩ = some (.int .i64 (p : Int)) ∧ w'.cell? ⟨X, 3, none⟩ = some (.slice Au L.length cu) from (HOFF.out W (HC3.out.later hW.1).u.ent).mono fun e w' ⟨r, h1, h2, _, h3⟩ => ⟨r, h1, h2, HX22.out w' (hW.1.step h3)⟩))
      have HD22 := Lib.hid (HX22.out _ (Bel.refl Wi).drew)
      go_upto_region 22 with fail
      go_cut [29, 30] from 143 to 155 (fun x y wx => x = .int .i64 (n9 : Int) ∧ y = .int .i64 (k9 : Int) ∧ Hid (Bel Wi wx))
      case first =>
        go_region_held3 (fun W => Bel Wi W ∧ W.cell? ⟨X, 0, none⟩ = some (.int .i64 (s : Int)) ∧ W.cell? ⟨X, 1, none⟩ = some (.int .i64 (b : Int)) ∧ W.cell? ⟨X, 2, none⟩ = some (.int .i64 (p : Int)) ∧ W.cell? ⟨X, 3, none⟩ = some (.slice Au L.length cu)) (first | assumption | exact HD22.out)
          (((go_at_call 19; with_reducible refine (H19.out _ (by assumption)).mono ?_); rintro e Wj ⟨r, rfl, her, hwj⟩; obtain ⟨Ar, cr, hvr, -⟩ := her.form; subst hvr; clear her))
        all_goals
          go_wp2
          go_meet
          case rel => exact ⟨rfl, rfl, Lib.hid hwj.1⟩
      case rest =>
        obtain ⟨rfl, rfl, HBk⟩ := hcut
        obtain ⟨Wk, hWk⟩ : ∃ Wk, Wk = wc := ⟨_, rfl⟩
        subst hWk
        have HC4 := Lib.hid (HC3.out.later HBk.out)
        clear HC3 HX22 H19 HD22 HBk
        have hcu : L.length ≤ cu := by
          obtain ⟨A', c', e, h⟩ := HC4.out.u.ent.form
          injection e with _ _ e
          omega
        obtain ⟨V9, ev9, hV9⟩ := ent_slice_h (hi := n9) HC4.out.u.ent hn9L hcu
        have HV9 := Lib.hid hV9
        clear hV9 hcu
        have HX23 : Hid (∀ W, Bel Wk W → Bel Wk W ∧ W.cell? ⟨Y1, 0, none⟩ = some (.int .i64 (s : Int)) ∧ W.cell? ⟨Y1, 1, none⟩ = some (.int .i64 (b : Int)) ∧ W.cell? ⟨Y1, 2, none⟩ = some (.int .i64 (p : Int)) ∧ W.cell? ⟨Y1, 3, none⟩ = some (.slice A6 L1.length n6) ∧ W.cell? ⟨Y2, 0, none⟩ = some (.int .i64 (s : Int)) ∧ W.cell? ⟨Y2, 1, none⟩ = some (.int .i64 (b : Int)) ∧ W.cell? ⟨Y2, 2, none⟩ = some (.int .i64 (p : Int)) ∧ W.cell? ⟨Y2, 3, none⟩ = some (.slice A7 L2.length n7) ∧ W.cell? ⟨X, 0, none⟩ = some (.int .i64 (s : Int)) ∧ W.cell? ⟨X, 1, none⟩ = some (.int .i64 (b : Int)) ∧ W.cell? ⟨X, 2, none⟩ = some (.int .i64 (p : Int)) ∧ W.cell? ⟨X, 3, none⟩ = some (.slice Au L.length cu)) := Lib.hid fun W hW => by
          have h := HC4.out.later hW
          exact ⟨hW, h.x.c0, h.x.c1, h.x.c2, h.x.c3, h.y.c0, h.y.c1, h.y.c2, h.y.c3, h.u.c0, h.u.c1, h.u.c2, h.u.c3⟩
        have C15a := Lib.hid (fun (W : World) (hW : Bel Wk W ∧ W.cell? ⟨Y1, 0, none⟩ = some (.int .i64 (s : Int)) ∧ W.cell? ⟨Y1, 1, none⟩ = some (.int .i64 (b : Int)) ∧ W.cell? ⟨Y1, 2, none⟩ = some (.int .i64 (p : Int)) ∧ W.cell? ⟨Y1, 3, none⟩ = some (.slice A6 L1.length n6) ∧ W.cell? ⟨Y2, 0, none⟩ = some (.int .i64 (s : Int)) ∧ W.cell? ⟨Y2, 1, none⟩ = some (.int .i64 (b : Int)) ∧ W.cell? ⟨Y2, 2, none⟩ = some (.int .i64 (p : Int)) ∧ W.cell? ⟨Y2, 3, none⟩ = some (.slice A7 L2.length n7) ∧ W.cell? ⟨X, 0, none⟩ = some (.int .i64 (s : Int)) ∧ W.cell? ⟨X, 1, none⟩ = some (.int .i64 (b : Int)) ∧ W.cell? ⟨X, 2, none⟩ = some (.int .i64 (p : Int)) ∧ W.cell? ⟨X, 3, none⟩ = some (.slice Au L.length cu)) => (show Calls Try.prog 15 #[.pointer (some ⟨bb, 0, none⟩), .agg #[.int .i64 (s : Int), .int .i64 (b : Int), .int .i64 (p : Int), (.slice A6 L1.length n6)]] W fun e w' => e = .returned (.bool true) ∧ Bel Wk w' ∧ w'.cell? ⟨Y1, 0, none⟩ = some (.int .i64 (s : Int)) ∧ w'.cell? ⟨Y1, 1, none⟩ = some (.int .i64 (b : Int)) ∧ w'.cell? ⟨Y1, 2, none⟩ = some (.int .i64 (p : Int)) ∧ w'.cell? ⟨Y1, 3, none⟩ = some (.slice A6 L1.length n6) ∧ w'.cell? ⟨Y2, 0, none⟩ = some (.int .i64 (s : Int)) ∧ w'.cell? ⟨Y2, 1, none⟩ = some (.int .i64 (b : Int)) ∧ w'.cell? ⟨Y2, 2, none⟩ = some (.int .i64 (p : Int)) ∧ w'.cell? ⟨Y2, 3, none⟩ = some (.slice A7 L2.length n7) ∧ w'.cell? ⟨X, 0, none⟩ = some (.int .i64 (s : Int)) ∧ w'.cell? ⟨X, 1, none⟩ = some (.int .i64 (b : Int)) ∧ w'.cell? ⟨X, 2, none⟩ = some (.int .i64 (p : Int)) ∧ w'.cell? ⟨X, 3, none⟩ = some (.slice Au L.length cu) from (is_any (HC4.out.later hW.1).m (HC4.out.later hW.1).x.ent).mono fun e w' ⟨h1, h2⟩ => ⟨h1, HX23.out w' (hW.1.step h2)⟩))
        have C15b := Lib.hid (fun (W : World) (hW : Bel Wk W ∧ W.cell? ⟨Y1, 0, none⟩ = some (.int .i64 (s : Int)) ∧ W.cell? ⟨Y1, 1, none⟩ = some (.int .i64 (b : Int)) ∧ W.cell? ⟨Y1, 2, none⟩ = some (.int .i64 (p : Int)) ∧ W.cell? ⟨Y1, 3, none⟩ = some (.slice A6 L1.length n6) ∧ W.cell? ⟨Y2, 0, none⟩ = some (.int .i64 (s : Int)) ∧ W.cell? ⟨Y2, 1, none⟩ = some (.int .i64 (b : Int)) ∧ W.cell? ⟨Y2, 2, none⟩ = some (.int .i64 (p : Int)) ∧ W.cell? ⟨Y2, 3, none⟩ = some (.slice A7 L2.length n7) ∧ W.cell? ⟨X, 0, none⟩ = some (.int .i64 (s : Int)) ∧ W.cell? ⟨X, 1, none⟩ = some (.int .i64 (b : Int)) ∧ W.cell? ⟨X, 2, none⟩ = some (.int .i64 (p : Int)) ∧ W.cell? ⟨X, 3, none⟩ = some (.slice Au L.length cu)) => (show Calls Try.prog 15 #[.pointer (some ⟨cb, 0, none⟩), .agg #[.int .i64 (s : Int), .int .i64 (b : Int), .int .i64 (p : Int), (.slice A7 L2.length n7)]] W fun e w' => e = .returned (.bool true) ∧ Bel Wk w' ∧ w'.cell? ⟨Y1, 0, none⟩ = some (.int .i64 (s : Int)) ∧ w'.cell? ⟨Y1, 1, none⟩ = some (.int .i64 (b : Int)) ∧ w'.cell? ⟨Y1, 2, none⟩ = some (.int .i64 (p : Int)) ∧ w'.cell? ⟨Y1, 3, none⟩ = some (.slice A6 L1.length n6) ∧ w'.cell? ⟨Y2, 0, none⟩ = some (.int .i64 (s : Int)) ∧ w'.cell? ⟨Y2, 1, none⟩ = some (.int .i64 (b : Int)) ∧ w'.cell? ⟨Y2, 2, none⟩ = some (.int .i64 (p : Int)) ∧ w'.cell? ⟨Y2, 3, none⟩ = some (.slice A7 L2.length n7) ∧ w'.cell? ⟨X, 0, none⟩ = some (.int .i64 (s : Int)) ∧ w'.cell? ⟨X, 1, none⟩ = some (.int .i64 (b : Int)) ∧ w'.cell? ⟨X, 2, none⟩ = some (.int .i64 (p : Int)) ∧ w'.cell? ⟨X, 3, none⟩ = some (.slice Au L.length cu) from (is_any (HC4.out.later hW.1).o (HC4.out.later hW.1).y.ent).mono fun e w' ⟨h1, h2⟩ => ⟨h1, HX23.out w' (hW.1.step h2)⟩))
        have C21a := Lib.hid (fun (W : World) (hW : Bel Wk W ∧ W.cell? ⟨Y1, 0, none⟩ = some (.int .i64 (s : Int)) ∧ W.cell? ⟨Y1, 1, none⟩ = some (.int .i64 (b : Int)) ∧ W.cell? ⟨Y1, 2, none⟩ = some (.int .i64 (p : Int)) ∧ W.cell? ⟨Y1, 3, none⟩ = some (.slice A6 L1.length n6) ∧ W.cell? ⟨Y2, 0, none⟩ = some (.int .i64 (s : Int)) ∧ W.cell? ⟨Y2, 1, none⟩ = some (.int .i64 (b : Int)) ∧ W.cell? ⟨Y2, 2, none⟩ = some (.int .i64 (p : Int)) ∧ W.cell? ⟨Y2, 3, none⟩ = some (.slice A7 L2.length n7) ∧ W.cell? ⟨X, 0, none⟩ = some (.int .i64 (s : Int)) ∧ W.cell? ⟨X, 1, none⟩ = some (.int .i64 (b : Int)) ∧ W.cell? ⟨X, 2, none⟩ = some (.int .i64 (p : Int)) ∧ W.cell? ⟨X, 3, none⟩ = some (.slice Au L.length cu)) => (show Calls Try.prog 21 #[.func (.func 50) #[] #[.pointer (some ⟨B1, 0, none⟩)], .bool true, .int .i64 a6] W fun e w' => ∃ r, e = .returned r ∧ Ent w' r (L.take n9) ∧ Bel Wk w' ∧ w'.cell? ⟨Y1, 0, none⟩ = some (.int .i64 (s : Int)) ∧ w'.cell? ⟨Y1, 1, none⟩ = some (.int .i64 (b : Int)) ∧ w'.cell? ⟨Y1, 2, none⟩ = some (.int .i64 (p : Int)) ∧ w'.cell? ⟨Y1, 3, none⟩ = some (.slice A6 L1.length n6) ∧ w'.cell? ⟨Y2, 0, none⟩ = some (.int .i64 (s : Int)) ∧ w'.cell? ⟨Y2, 1, none⟩ = some (.int .i64 (b : Int)) ∧ w'.cell? ⟨Y2, 2, none⟩ = some (.int .i64 (p : Int)) ∧ w'.cell? ⟨Y2, 3, none⟩ = some (.slice A7 L2.length n7) ∧ w'.cell? ⟨X, 0, none⟩ = some (.int .i64 (s : Int)) ∧ w'.cell? ⟨X, 1, none⟩ = some (.int .i64 (b : Int)) ∧ w'.cell? ⟨X, 2, none⟩ = some (.int .i64 (p : Int)) ∧ w'.cell? ⟨X, 3, none⟩ = some (.slice Au L.length cu) from ((HC4.out.later hW.1).q1.read (by have := HLs.out; omega) true a6).mono fun e w' ⟨r, h1, h2, _, h3⟩ => ⟨r, h1, by rw [rdl_take_true HN9.out] at h2; exact h2, HX23.out w' (hW.1.step h3)⟩))
        have C20a := Lib.hid (fun (W : World) (hW : Bel Wk W ∧ W.cell? ⟨Y1, 0, none⟩ = some (.int .i64 (s : Int)) ∧ W.cell? ⟨Y1, 1, none⟩ = some (.int .i64 (b : Int)) ∧ W.cell? ⟨Y1, 2, none⟩ = some (.int .i64 (p : Int)) ∧ W.cell? ⟨Y1, 3, none⟩ = some (.slice A6 L1.length n6) ∧ W.cell? ⟨Y2, 0, none⟩ = some (.int .i64 (s : Int)) ∧ W.cell? ⟨Y2, 1, none⟩ = some (.int .i64 (b : Int)) ∧ W.cell? ⟨Y2, 2, none⟩ = some (.int .i64 (p : Int)) ∧ W.cell? ⟨Y2, 3, none⟩ = some (.slice A7 L2.length n7) ∧ W.cell? ⟨X, 0, none⟩ = some (.int .i64 (s : Int)) ∧ W.cell? ⟨X, 1, none⟩ = some (.int .i64 (b : Int)) ∧ W.cell? ⟨X, 2, none⟩ = some (.int .i64 (p : Int)) ∧ W.cell? ⟨X, 3, none⟩ = some (.slice Au L.length cu)) (r : Value) (hr : Ent W r (L.take n9)) => (show Calls Try.prog 20 #[r, V9] W fun e w' => e = .returned (.bool true) ∧ Bel Wk w' ∧ w'.cell? ⟨Y1, 0, none⟩ = some (.int .i64 (s : Int)) ∧ w'.cell? ⟨Y1, 1, none⟩ = some (.int .i64 (b : Int)) ∧ w'.cell? ⟨Y1, 2, none⟩ = some (.int .i64 (p : Int)) ∧ w'.cell? ⟨Y1, 3, none⟩ = some (.slice A6 L1.length n6) ∧ w'.cell? ⟨Y2, 0, none⟩ = some (.int .i64 (s : Int)) ∧ w'.cell? ⟨Y2, 1, none⟩ = some (.int .i64 (b : Int)) ∧ w'.cell? ⟨Y2, 2, none⟩ = some (.int .i64 (p : Int)) ∧ w'.cell? ⟨Y2, 3, none⟩ = some (.slice A7 L2.length n7) ∧ w'.cell? ⟨X, 0, none⟩ = some (.int .i64 (s : Int)) ∧ w'.cell? ⟨X, 1, none⟩ = some (.int .i64 (b : Int)) ∧ w'.cell? ⟨X, 2, none⟩ = some (.int .i64 (p : Int)) ∧ w'.cell? ⟨X, 3, none⟩ = some (.slice Au L.length cu) from (same_any hr (HV9.out.below hW.1) (by rw [List.length_take]; have := HLs.out; omega) (by rw [List.length_take]; have := HLs.out; omega)).mono fun e w' ⟨h1, h2⟩ => ⟨by rw [h1, decide_eq_true rfl], HX23.out w' (hW.1.step h2)⟩))
        have C21b := Lib.hid (fun (W : World) (hW : Bel Wk W ∧ W.cell? ⟨Y1, 0, none⟩ = some (.int .i64 (s : Int)) ∧ W.cell? ⟨Y1, 1, none⟩ = some (.int .i64 (b : Int)) ∧ W.cell? ⟨Y1, 2, none⟩ = some (.int .i64 (p : Int)) ∧ W.cell? ⟨Y1, 3, none⟩ = some (.slice A6 L1.length n6) ∧ W.cell? ⟨Y2, 0, none⟩ = some (.int .i64 (s : Int)) ∧ W.cell? ⟨Y2, 1, none⟩ = some (.int .i64 (b : Int)) ∧ W.cell? ⟨Y2, 2, none⟩ = some (.int .i64 (p : Int)) ∧ W.cell? ⟨Y2, 3, none⟩ = some (.slice A7 L2.length n7) ∧ W.cell? ⟨X, 0, none⟩ = some (.int .i64 (s : Int)) ∧ W.cell? ⟨X, 1, none⟩ = some (.int .i64 (b : Int)) ∧ W.cell? ⟨X, 2, none⟩ = some (.int .i64 (p : Int)) ∧ W.cell? ⟨X, 3, none⟩ = some (.slice Au L.length cu)) => (show Calls Try.prog 21 #[.func (.func 50) #[] #[.pointer (some ⟨B2, 0, none⟩)], .bool false, .int .i64 a6] W fun e w' => ∃ r, e = .returned r ∧ Ent w' r (ol.take k9) ∧ Bel Wk w' ∧ w'.cell? ⟨Y1, 0, none⟩ = some (.int .i64 (s : Int)) ∧ w'.cell? ⟨Y1, 1, none⟩ = some (.int .i64 (b : Int)) ∧ w'.cell? ⟨Y1, 2, none⟩ = some (.int .i64 (p : Int)) ∧ w'.cell? ⟨Y1, 3, none⟩ = some (.slice A6 L1.length n6) ∧ w'.cell? ⟨Y2, 0, none⟩ = some (.int .i64 (s : Int)) ∧ w'.cell? ⟨Y2, 1, none⟩ = some (.int .i64 (b : Int)) ∧ w'.cell? ⟨Y2, 2, none⟩ = some (.int .i64 (p : Int)) ∧ w'.cell? ⟨Y2, 3, none⟩ = some (.slice A7 L2.length n7) ∧ w'.cell? ⟨X, 0, none⟩ = some (.int .i64 (s : Int)) ∧ w'.cell? ⟨X, 1, none⟩ = some (.int .i64 (b : Int)) ∧ w'.cell? ⟨X, 2, none⟩ = some (.int .i64 (p : Int)) ∧ w'.cell? ⟨X, 3, none⟩ = some (.slice Au L.length cu) from ((HC4.out.later hW.1).q2.read (by have := HPLN.out; omega) false a6).mono fun e w' ⟨r, h1, h2, _, h3⟩ => ⟨r, h1, by rw [rdl_take_false (k := k9) (by rw [← HOP.out]; exact HK9.out), ← HOP.out] at h2; exact h2, HX23.out w' (hW.1.step h3)⟩))
        have C19 := Lib.hid (fun (W : World) (hW : Bel Wk W ∧ W.cell? ⟨Y1, 0, none⟩ = some (.int .i64 (s : Int)) ∧ W.cell? ⟨Y1, 1, none⟩ = some (.int .i64 (b : Int)) ∧ W.cell? ⟨Y1, 2, none⟩ = some (.int .i64 (p : Int)) ∧ W.cell? ⟨Y1, 3, none⟩ = some (.slice A6 L1.length n6) ∧ W.cell? ⟨Y2, 0, none⟩ = some (.int .i64 (s : Int)) ∧ W.cell? ⟨Y2, 1, none⟩ = some (.int .i64 (b : Int)) ∧ W.cell? ⟨Y2, 2, none⟩ = some (.int .i64 (p : Int)) ∧ W.cell? ⟨Y2, 3, none⟩ = some (.slice A7 L2.length n7) ∧ W.cell? ⟨X, 0, none⟩ = some (.int .i64 (s : Int)) ∧ W.cell? ⟨X, 1, none⟩ = some (.int .i64 (b : Int)) ∧ W.cell? ⟨X, 2, none⟩ = some (.int .i64 (p : Int)) ∧ W.cell? ⟨X, 3, none⟩ = some (.slice Au L.length cu)) => (show Calls Try.prog 19 #[.agg #[.int .i64 (s : Int), .int .i64 (b : Int), .int .i64 (p : Int), (.slice Au L.length cu)], .int .i64 a5] W fun e w' => ∃ r, e = .returned r ∧ Ent w' r ol ∧ Below W.heap.size W w' ∧ Bel Wk w' ∧ w'.cell? ⟨Y1, 0, none⟩ = some (.int .i64 (s : Int)) ∧ w'.cell? ⟨Y1, 1, none⟩ = some (.int .i64 (b : Int)) ∧ w'.cell? ⟨Y1, 2, none⟩ = some (.int .i64 (p : Int)) ∧ w'.cell? ⟨Y1, 3, none⟩ = some (.slice A6 L1.length n6) ∧ w'.cell? ⟨Y2, 0, none⟩ = some (.int .i64 (s : Int)) ∧ w'.cell? ⟨Y2, 1, none⟩ = some (.int .i64 (b : Int)) ∧ w'.cell? ⟨Y2, 2, none⟩ = some (.int .i64 (p : Int)) ∧ w'.cell? ⟨Y2, 3, none⟩ = some (.slice A7 L2.length n7) ∧ w'.cell? ⟨X, 0, none⟩ = some (.int .i64 (s : Int)) ∧ w'.cell? ⟨X, 1, none⟩ = some (.int .i64 (b : Int)) ∧ w'.cell? ⟨X, 2, none⟩ = some (.int .i64 (p : Int)) ∧ w'.cell? ⟨X, 3, none⟩ = some (.slice Au L.length cu) from (HOFF.out W (HC4.out.later hW.1).u.ent).mono fun e w' ⟨r, h1, h2, _, h3⟩ => ⟨r, h1, h2, h3, HX23.out w' (hW.1.step h3)⟩))
        have C20b := Lib.hid (fun (W : World) (hW : Bel Wk W ∧ W.cell? ⟨Y1, 0, none⟩ = some (.int .i64 (s : Int)) ∧ W.cell? ⟨Y1, 1, none⟩ = some (.int .i64 (b : Int)) ∧ W.cell? ⟨Y1, 2, none⟩ = some (.int .i64 (p : Int)) ∧ W.cell? ⟨Y1, 3, none⟩ = some (.slice A6 L1.length n6) ∧ W.cell? ⟨Y2, 0, none⟩ = some (.int .i64 (s : Int)) ∧ W.cell? ⟨Y2, 1, none⟩ = some (.int .i64 (b : Int)) ∧ W.cell? ⟨Y2, 2, none⟩ = some (.int .i64 (p : Int)) ∧ W.cell? ⟨Y2, 3, none⟩ = some (.slice A7 L2.length n7) ∧ W.cell? ⟨X, 0, none⟩ = some (.int .i64 (s : Int)) ∧ W.cell? ⟨X, 1, none⟩ = some (.int .i64 (b : Int)) ∧ W.cell? ⟨X, 2, none⟩ = some (.int .i64 (p : Int)) ∧ W.cell? ⟨X, 3, none⟩ = some (.slice Au L.length cu)) (r V : Value) (hr : Ent W r (ol.take k9)) (hV : Ent W V (ol.take k9)) => (show Calls Try.prog 20 #[r, V] W fun e w' => e = .returned (.bool true) ∧ Bel Wk w' ∧ w'.cell? ⟨Y1, 0, none⟩ = some (.int .i64 (s : Int)) ∧ w'.cell? ⟨Y1, 1, none⟩ = some (.int .i64 (b : Int)) ∧ w'.cell? ⟨Y1, 2, none⟩ = some (.int .i64 (p : Int)) ∧ w'.cell? ⟨Y1, 3, none⟩ = some (.slice A6 L1.length n6) ∧ w'.cell? ⟨Y2, 0, none⟩ = some (.int .i64 (s : Int)) ∧ w'.cell? ⟨Y2, 1, none⟩ = some (.int .i64 (b : Int)) ∧ w'.cell? ⟨Y2, 2, none⟩ = some (.int .i64 (p : Int)) ∧ w'.cell? ⟨Y2, 3, none⟩ = some (.slice A7 L2.length n7) ∧ w'.cell? ⟨X, 0, none⟩ = some (.int .i64 (s : Int)) ∧ w'.cell? ⟨X, 1, none⟩ = some (.int .i64 (b : Int)) ∧ w'.cell? ⟨X, 2, none⟩ = some (.int .i64 (p : Int)) ∧ w'.cell? ⟨X, 3, none⟩ = some (.slice Au L.length cu) from (same_any hr hV (by rw [List.length_take]; have := HOLN.out; omega) (by rw [List.length_take]; have := HOLN.out; omega)).mono fun e w' ⟨h1, h2⟩ => ⟨by rw [h1, decide_eq_true rfl], HX23.out w' (hW.1.step h2)⟩))
        have C21c := Lib.hid (fun (W : World) (hW : Bel Wk W ∧ W.cell? ⟨Y1, 0, none⟩ = some (.int .i64 (s : Int)) ∧ W.cell? ⟨Y1, 1, none⟩ = some (.int .i64 (b : Int)) ∧ W.cell? ⟨Y1, 2, none⟩ = some (.int .i64 (p : Int)) ∧ W.cell? ⟨Y1, 3, none⟩ = some (.slice A6 L1.length n6) ∧ W.cell? ⟨Y2, 0, none⟩ = some (.int .i64 (s : Int)) ∧ W.cell? ⟨Y2, 1, none⟩ = some (.int .i64 (b : Int)) ∧ W.cell? ⟨Y2, 2, none⟩ = some (.int .i64 (p : Int)) ∧ W.cell? ⟨Y2, 3, none⟩ = some (.slice A7 L2.length n7) ∧ W.cell? ⟨X, 0, none⟩ = some (.int .i64 (s : Int)) ∧ W.cell? ⟨X, 1, none⟩ = some (.int .i64 (b : Int)) ∧ W.cell? ⟨X, 2, none⟩ = some (.int .i64 (p : Int)) ∧ W.cell? ⟨X, 3, none⟩ = some (.slice Au L.length cu)) => (show Calls Try.prog 21 #[.func (.func 50) #[] #[.pointer (some ⟨B1, 0, none⟩)], .bool true, .int .i64 1073741824] W fun e w' => ∃ r, e = .returned r ∧ Ent w' r L ∧ Bel Wk w' ∧ w'.cell? ⟨Y1, 0, none⟩ = some (.int .i64 (s : Int)) ∧ w'.cell? ⟨Y1, 1, none⟩ = some (.int .i64 (b : Int)) ∧ w'.cell? ⟨Y1, 2, none⟩ = some (.int .i64 (p : Int)) ∧ w'.cell? ⟨Y1, 3, none⟩ = some (.slice A6 L1.length n6) ∧ w'.cell? ⟨Y2, 0, none⟩ = some (.int .i64 (s : Int)) ∧ w'.cell? ⟨Y2, 1, none⟩ = some (.int .i64 (b : Int)) ∧ w'.cell? ⟨Y2, 2, none⟩ = some (.int .i64 (p : Int)) ∧ w'.cell? ⟨Y2, 3, none⟩ = some (.slice A7 L2.length n7) ∧ w'.cell? ⟨X, 0, none⟩ = some (.int .i64 (s : Int)) ∧ w'.cell? ⟨X, 1, none⟩ = some (.int .i64 (b : Int)) ∧ w'.cell? ⟨X, 2, none⟩ = some (.int .i64 (p : Int)) ∧ w'.cell? ⟨X, 3, none⟩ = some (.slice Au L.length cu) from ((HC4.out.later hW.1).q1.read (by have := HLs.out; omega) true 1073741824).mono fun e w' ⟨r, h1, h2, _, h3⟩ => ⟨r, h1, by rw [rdl_true (by have := HLs.out; omega)] at h2; exact h2, HX23.out w' (hW.1.step h3)⟩))
        have C20c := Lib.hid (fun (W : World) (hW : Bel Wk W ∧ W.cell? ⟨Y1, 0, none⟩ = some (.int .i64 (s : Int)) ∧ W.cell? ⟨Y1, 1, none⟩ = some (.int .i64 (b : Int)) ∧ W.cell? ⟨Y1, 2, none⟩ = some (.int .i64 (p : Int)) ∧ W.cell? ⟨Y1, 3, none⟩ = some (.slice A6 L1.length n6) ∧ W.cell? ⟨Y2, 0, none⟩ = some (.int .i64 (s : Int)) ∧ W.cell? ⟨Y2, 1, none⟩ = some (.int .i64 (b : Int)) ∧ W.cell? ⟨Y2, 2, none⟩ = some (.int .i64 (p : Int)) ∧ W.cell? ⟨Y2, 3, none⟩ = some (.slice A7 L2.length n7) ∧ W.cell? ⟨X, 0, none⟩ = some (.int .i64 (s : Int)) ∧ W.cell? ⟨X, 1, none⟩ = some (.int .i64 (b : Int)) ∧ W.cell? ⟨X, 2, none⟩ = some (.int .i64 (p : Int)) ∧ W.cell? ⟨X, 3, none⟩ = some (.slice Au L.length cu)) (r : Value) (hr : Ent W r L) => (show Calls Try.prog 20 #[r, (.slice Au L.length cu)] W fun e w' => e = .returned (.bool true) ∧ Bel Wk w' ∧ w'.cell? ⟨Y1, 0, none⟩ = some (.int .i64 (s : Int)) ∧ w'.cell? ⟨Y1, 1, none⟩ = some (.int .i64 (b : Int)) ∧ w'.cell? ⟨Y1, 2, none⟩ = some (.int .i64 (p : Int)) ∧ w'.cell? ⟨Y1, 3, none⟩ = some (.slice A6 L1.length n6) ∧ w'.cell? ⟨Y2, 0, none⟩ = some (.int .i64 (s : Int)) ∧ w'.cell? ⟨Y2, 1, none⟩ = some (.int .i64 (b : Int)) ∧ w'.cell? ⟨Y2, 2, none⟩ = some (.int .i64 (p : Int)) ∧ w'.cell? ⟨Y2, 3, none⟩ = some (.slice A7 L2.length n7) ∧ w'.cell? ⟨X, 0, none⟩ = some (.int .i64 (s : Int)) ∧ w'.cell? ⟨X, 1, none⟩ = some (.int .i64 (b : Int)) ∧ w'.cell? ⟨X, 2, none⟩ = some (.int .i64 (p : Int)) ∧ w'.cell? ⟨X, 3, none⟩ = some (.slice Au L.length cu) from (same_any hr (HC4.out.later hW.1).u.ent (by have := HLs.out; omega) (by have := HLs.out; omega)).mono fun e w' ⟨h1, h2⟩ => ⟨by rw [h1, decide_eq_true rfl], HX23.out w' (hW.1.step h2)⟩))
        have C12 := Lib.hid (fun (W : World) (hW : Bel Wk W ∧ W.cell? ⟨Y1, 0, none⟩ = some (.int .i64 (s : Int)) ∧ W.cell? ⟨Y1, 1, none⟩ = some (.int .i64 (b : Int)) ∧ W.cell? ⟨Y1, 2, none⟩ = some (.int .i64 (p : Int)) ∧ W.cell? ⟨Y1, 3, none⟩ = some (.slice A6 L1.length n6) ∧ W.cell? ⟨Y2, 0, none⟩ = some (.int .i64 (s : Int)) ∧ W.cell? ⟨Y2, 1, none⟩ = some (.int .i64 (b : Int)) ∧ W.cell? ⟨Y2, 2, none⟩ = some (.int .i64 (p : Int)) ∧ W.cell? ⟨Y2, 3, none⟩ = some (.slice A7 L2.length n7) ∧ W.cell? ⟨X, 0, none⟩ = some (.int .i64 (s : Int)) ∧ W.cell? ⟨X, 1, none⟩ = some (.int .i64 (b : Int)) ∧ W.cell? ⟨X, 2, none⟩ = some (.int .i64 (p : Int)) ∧ W.cell? ⟨X, 3, none⟩ = some (.slice Au L.length cu)) => (show Calls Try.prog 12 #[] W fun e w' => e = .returned (.bool true) ∧ Bel Wk w' ∧ w'.cell? ⟨Y1, 0, none⟩ = some (.int .i64 (s : Int)) ∧ w'.cell? ⟨Y1, 1, none⟩ = some (.int .i64 (b : Int)) ∧ w'.cell? ⟨Y1, 2, none⟩ = some (.int .i64 (p : Int)) ∧ w'.cell? ⟨Y1, 3, none⟩ = some (.slice A6 L1.length n6) ∧ w'.cell? ⟨Y2, 0, none⟩ = some (.int .i64 (s : Int)) ∧ w'.cell? ⟨Y2, 1, none⟩ = some (.int .i64 (b : Int)) ∧ w'.cell? ⟨Y2, 2, none⟩ = some (.int .i64 (p : Int)) ∧ w'.cell? ⟨Y2, 3, none⟩ = some (.slice A7 L2.length n7) ∧ w'.cell? ⟨X, 0, none⟩ = some (.int .i64 (s : Int)) ∧ w'.cell? ⟨X, 1, none⟩ = some (.int .i64 (b : Int)) ∧ w'.cell? ⟨X, 2, none⟩ = some (.int .i64 (p : Int)) ∧ w'.cell? ⟨X, 3, none⟩ = some (.slice Au L.length cu) from (HW.out W).mono fun e w' ⟨h1, h2⟩ => ⟨h1, HX23.out w' (hW.1.step h2)⟩))
        have HD23 := Lib.hid (HX23.out _ (Bel.refl Wk).drew)
        have hk90 : (0 : Int) ≤ (k9 : Int) := by omega
        have hn90 : (0 : Int) ≤ (n9 : Int) := by omega
        clear hn9 hk9
        go_upto_region 23 with fail
        go_region_held3 (fun W => Bel Wk W ∧ W.cell? ⟨Y1, 0, none⟩ = some (.int .i64 (s : Int)) ∧ W.cell? ⟨Y1, 1, none⟩ = some (.int .i64 (b : Int)) ∧ W.cell? ⟨Y1, 2, none⟩ = some (.int .i64 (p : Int)) ∧ W.cell? ⟨Y1, 3, none⟩ = some (.slice A6 L1.length n6) ∧ W.cell? ⟨Y2, 0, none⟩ = some (.int .i64 (s : Int)) ∧ W.cell? ⟨Y2, 1, none⟩ = some (.int .i64 (b : Int)) ∧ W.cell? ⟨Y2, 2, none⟩ = some (.int .i64 (p : Int)) ∧ W.cell? ⟨Y2, 3, none⟩ = some (.slice A7 L2.length n7) ∧ W.cell? ⟨X, 0, none⟩ = some (.int .i64 (s : Int)) ∧ W.cell? ⟨X, 1, none⟩ = some (.int .i64 (b : Int)) ∧ W.cell? ⟨X, 2, none⟩ = some (.int .i64 (p : Int)) ∧ W.cell? ⟨X, 3, none⟩ = some (.slice Au L.length cu)) (first | assumption | exact HD23.out)
          (first
            | ((go_at_call 15; with_reducible refine (C15a.out _ (by assumption)).mono ?_); rintro e Z1 ⟨rfl, hz1⟩)
            | ((go_at_call 15; with_reducible refine (C15b.out _ (by assumption)).mono ?_); rintro e Z2 ⟨rfl, hz2⟩)
            | ((go_at_call 21; with_reducible refine (C21a.out _ (by assumption)).mono ?_); rintro e Z3 ⟨r3, rfl, he3, hz3⟩; have HR3 := Lib.hid he3; clear he3)
            | ((go_at_call 20; with_reducible refine (C20a.out _ (by assumption) _ HR3.out).mono ?_); rintro e Z4 ⟨rfl, hz4⟩)
            | ((go_at_call 21; with_reducible refine (C21b.out _ (by assumption)).mono ?_); rintro e Z5 ⟨r5, rfl, he5, hz5⟩; have HR5 := Lib.hid he5; clear he5)
            | ((go_at_call 19; with_reducible refine (C19.out _ (by assumption)).mono ?_); rintro e Z6 ⟨r6, rfl, he6, hb6, hz6⟩; obtain ⟨Ar, cr, hvr, hcr⟩ := he6.form; subst hvr; obtain ⟨V10, ev10, hV10⟩ := ent_slice_h (hi := k9) he6 hk9L hcr; have HV10 := Lib.hid hV10; have HR6 := Lib.hid (HR5.out.below hb6); clear he6 hb6 hV10 hcr)
            | ((go_at_call 20; with_reducible refine (C20b.out _ (by assumption) _ _ HR6.out HV10.out).mono ?_); rintro e Z7 ⟨rfl, hz7⟩)
            | ((go_at_call 21; with_reducible refine (C21c.out _ (by assumption)).mono ?_); rintro e Z8 ⟨r8, rfl, he8, hz8⟩; have HR8 := Lib.hid he8; clear he8)
            | ((go_at_call 20; with_reducible refine (C20c.out _ (by assumption) _ HR8.out).mono ?_); rintro e Z9 ⟨rfl, hz9⟩)
            | ((go_at_call 12; with_reducible refine (C12.out _ (by assumption)).mono ?_); rintro e Z10 ⟨rfl, hz10⟩))
        go_wp2
        go_ret
        exact ret_true ((HB0.out.trans (HC4.out.bel.mono HB0.out.size)).trans (Below.mono hz10.1 (Nat.le_trans HB0.out.size HC4.out.bel.size)))
theorem copies_any (a0 a1 a2 : Int) (v : Value) (ls : List (List (Int × Int))) (u0 u1 : Value) (l0 l1 : List (Int × Int)) (v4 : Value) (a5 a6 : Int) (w : World) (h : Lol w v ls) (hR : ∀ l ∈ ls, Rng l) (hu0 : Ent w u0 l0 ∧ Rng l0) (hu1 : Ent w u1 l1 ∧ Rng l1) (he : v4 = .agg #[u0, u1]) : Calls Try.prog 4 #[.int .i64 a0, .int .i64 a1, .int .i64 a2, v, v4, .int .i64 a5, .int .i64 a6] w (OkB w) := by
  subst he
  by_cases hx : 30 < a0 ∨ 8 < a1 ∨ 8 < a2 ∨ fewB ls 20 = false ∨ fewB [l0, l1] 2 = false ∨ valB a0 a1 a2 = false
  · exact copies_early a0 a1 a2 v ls u0 u1 l0 l1 a5 a6 w h hu0.1 hu1.1 hx
  · have hv : valB a0 a1 a2 = true := by
      cases e : valB a0 a1 a2
      · exact absurd (.inr (.inr (.inr (.inr (.inr e))))) hx
      · rfl
    have hf : fewB ls 20 = true := by
      cases e : fewB ls 20
      · exact absurd (.inr (.inr (.inr (.inl e)))) hx
      · rfl
    have hf2 : fewB [l0, l1] 2 = true := by
      cases e : fewB [l0, l1] 2
      · exact absurd (.inr (.inr (.inr (.inr (.inl e))))) hx
      · rfl
    have g1 : ¬ 30 < a0 := fun e => hx (.inl e)
    have g2 : ¬ 8 < a1 := fun e => hx (.inr (.inl e))
    have g3 : ¬ 8 < a2 := fun e => hx (.inr (.inr (.inl e)))
    obtain ⟨s, b, p, rfl, rfl, rfl, hF⟩ := valB_nat hv
    exact copies_main s b p v ls u0 u1 l0 l1 a5 a6 w hF (by omega) (by omega) (by omega) h hR hu0.1 hu0.2 hu1.1 hu1.2 hf hf2 hv
end Go.Proofs.Yteiemegkdnjpgaa
