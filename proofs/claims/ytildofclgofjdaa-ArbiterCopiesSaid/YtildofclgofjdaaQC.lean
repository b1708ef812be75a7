/- The walk of ArbiterQueues: the main case. Conditions stand in each theorem. -/
import Derived.Test.YtildofclgofjdaaQB
import Derived.Deep.RegionWith
import Derived.Lib.MinMax
namespace Go.Proofs.Ytildofclgofjdaa
open Go.RowKit Go.Shelf
attribute [local go_sem] Oper.semAt_some
set_option linter.unusedVariables false
set_option maxHeartbeats 8000000
set_option maxRecDepth 100000
/-- Only a normal end. -/
def nrm (Q : Exit → Act → World → Prop) : Exit → Act → World → Prop
  | .normal, a, w => Q .normal a w
  | _, _, _ => False
theorem nrm_le {Q : Exit → Act → World → Prop} : ∀ (e : Exit) (a : Act) (w : World), nrm Q e a w → Q e a w
  | .normal, _, _, h => h
  | .ret, _, _, h => h.elim
  | .exit _, _, _, h => h.elim
  | .goto _, _, _, h => h.elim
  | .panic _, _, _, h => h.elim
  | .outgrown, _, _, h => h.elim
/-- The load and the store of the reference's value, under names of their own. -/
def loadX (p : Addr) : Sem Value := loadVar 35 p
def storeX (p : Addr) (v : Value) : Sem Unit := storeVar 35 p v
theorem loadX_eq (p : Addr) : loadVar 35 p = loadX p := rfl
theorem storeX_eq (p : Addr) (v : Value) : storeVar 35 p v = storeX p v := rfl
attribute [local go_sem ↓ 100000] loadX_eq storeX_eq
theorem QI.load {w W : World} {ba ma bm : Nat} {s : St} {La Lr : List (Int × Int)} {v : Value} {mny : Int} (h : QI w ba ma bm s La Lr v mny W) : (loadX ⟨bm, 0, none⟩).run Try.prog W = .ok (.agg (RC (s.with Lr) v)) W :=
  run_loadVar_row W bm 35 35 _ (0, 0) _ h.row Try.underlying35 rfl info35
theorem QI.store {w W : World} {ba ma bm : Nat} {s : St} {La Lr L' : List (Int × Int)} {v : Value} {mny : Int} (h : QI w ba ma bm s La Lr v mny W) (A : Option Addr) (n c : Nat) :
    (storeX ⟨bm, 0, none⟩ (.agg (RC (s.with L') (.slice A n c)))).run Try.prog W = .ok () (W.setRow bm (RC (s.with L') (.slice A n c))) :=
  run_storeVar_row W bm 35 35 _ _ h.row info35 rfl (RC_one _ _ _ _)
theorem radd_to (s : St) (v : Value) (ws : List Int) (k : Nat) (h : k < ws.length) (W : World) (hl : Lds W v (addTo ws k)) (hm : k ≤ 100000) :
    Calls Try.prog 19 #[.agg (RC (s.with (addTo ws k)) v), .int .i64 ws[k], .int .i64 ((k : Int) % 4)] W fun e w' => ∃ A n c y, e = .returned (.tuple #[.agg (RC (s.with (addTo ws (k + 1))) (.slice A n c)), .int .i64 y]) ∧ Lds w' (.slice A n c) (addTo ws (k + 1)) ∧ Below W.heap.size W w' := by
  refine (radd_any (s.with (addTo ws k)) v ws[k] ((k : Int) % 4) W hl (Nat.le_trans (addTo_len ws k) hm)).mono ?_
  rintro e w' ⟨A, n, c, rfl, h1, h2⟩
  rw [addTo_succ ws k h]
  exact ⟨A, n, c, _, rfl, h1, h2⟩
theorem queues_main (wt : Bool) (bu hi me lo : Int) (A : Option Addr) (c : Nat) (ws : List Int) (mny : Int) (w : World) (hi0 : Ints w (.slice A ws.length c) ws) (hr : ∀ x ∈ ws, I64 x) (hv : valB wt bu hi me lo = true) (hn : ws.length ≤ 30) :
    Calls Try.prog 7 #[.agg #[.bool wt, .int .i64 bu, .int .i64 hi, .int .i64 me, .int .i64 lo], .slice A ws.length c, .int .i64 mny] w (OkPost w) := by
  have HE := Lib.hid (qE_facts w wt bu hi me lo mny)
  have hn1 : ¬ (30 : Int) < ws.length := by omega
  have hn2 : (ws.length : Int) ≤ 30 := by omega
  obtain ⟨k0, k1, k2, k3, k4⟩ := HE.out.cfg.cells
  have HI := Lib.hid hi0
  have HR := Lib.hid hr
  clear hi0 hr
  have hqn := fun (W : World) (f : Fn) (x y : Array Value) => run_eql_func_nil (P := Try.prog) W 59 f x y Try.underlying59
  refine (callsIn_wide (n := 12)).1 ?_
  refine callsIn_of_wp_marks Try.func7 rfl trivial ?_ rfl
  refine wpIn_wide.2 ?_
  simp only [Try.ntmps7, List.size_toArray, List.length_cons, List.length_nil, Nat.reduceAdd, Nat.reduceSub, Array.replicate_succ, Array.replicate_zero, List.push_toArray, List.append_toArray, List.nil_append, List.cons_append]
  go_upto_region 1 with fail
  rw [show ((w.alloc (.cells #[.bool wt, .int .i64 bu, .int .i64 hi, .int .i64 me, .int .i64 lo] 23)).alloc (.cells #[.int .i64 mny] 3)).alloc (.cells #[.bool false] 4) = qE w wt bu hi me lo mny from rfl]
  generalize qE w wt bu hi me lo mny = E at *
  go_wp2_with (first
    | (go_at_call 10; refine (New_ok wt bu hi me lo _ hv).mono ?_; rintro e w1 ⟨ba, ma, rfl, hA, hba, hma, hb1⟩; have HA := Lib.hid hA; have HB1 := Lib.hid hb1; obtain ⟨k10, k11, k12, k13, k14⟩ := (HE.out.cfg.below hb1).cells; clear hb1 hA)
    | (go_at_call 14; refine (rnew_any wt bu hi me lo _).mono ?_; rintro e w2 ⟨he, hb2⟩; have he2 : e = .returned (.agg #[.bool wt, .int .i64 bu, .int .i64 hi, .int .i64 me, .int .i64 lo, .slice none 0 0, .int .i64 (-1), .int .i64 (-1), .int .i64 (-1), .int .i64 (-1), .int .i64 0, .int .i64 hi, .int .i64 me, .int .i64 lo]) := he; subst he2; have HB2 := Lib.hid hb2; have HRW := Lib.hid (heap_alloc_new w2 (.cells #[.bool false, .int .i64 0, .int .i64 0, .int .i64 0, .int .i64 0, .slice none 0 0, .int .i64 0, .int .i64 0, .int .i64 0, .int .i64 0, .int .i64 0, .int .i64 0, .int .i64 0, .int .i64 0] 35)); clear hb2 he)
    | (refine wpList_store_row rfl 35 _ _ rfl w2.heap.size (RC (St.new wt bu hi me lo) (.slice none 0 0)) rfl rfl 35 _ HRW.out info35 rfl (RC_one _ _ _ _) ?_))
  have hz1 := HE.out.size
  have HQ0 := Lib.hid (QI.start (mny := mny) (HA.out.below HB2.out) (HE.out.below.trans ((HB1.out.trans (HB2.out.mono HB1.out.size)).mono (by omega))) ((HE.out.xm.below HB1.out).below HB2.out) ((HE.out.xr.below HB1.out).below HB2.out) (by omega) (by omega) #[.bool false, .int .i64 0, .int .i64 0, .int .i64 0, .int .i64 0, .slice none 0 0, .int .i64 0, .int .i64 0, .int .i64 0, .int .i64 0, .int .i64 0, .int .i64 0, .int .i64 0, .int .i64 0])
  clear k0 k1 k2 k3 k4 k10 k11 k12 k13 k14 HRW HA HB1
  go_loopw [10] (fun i wr => ∃ (k : Nat) (v : Value), k ≤ ws.length ∧ i = .int .i64 k ∧ Hid (QI w ba ma w2.heap.size (St.new wt bu hi me lo) (addTo ws k) (addTo ws k) v mny wr)) (fun i _ => ws.length - (RowKit.intOf i).toNat)
  case atStart => exact ⟨0, _, Nat.zero_le _, rfl, HQ0⟩
  case round =>
    obtain ⟨k, v, hk, rfl, HQ⟩ := hrel
    obtain ⟨Av, cv, ev, _⟩ := HQ.out.lds
    subst ev
    by_cases hlt : k < ws.length
    · obtain ⟨A1, c1, e1, _, hcell⟩ := HI.out
      cases e1
      obtain ⟨g, o, rfl, hg, hcell⟩ := hcell (by omega)
      have HC := Lib.hid (hcell k hlt)
      have HG := Lib.hid hg
      have c1 := (HQ.out.below.cell (p := ⟨g, o + k, none⟩) hg).trans (hcell k hlt)
      have HADD := Lib.hid (Add_any ba ma _ wr HQ.out.arb (addTo_srt ws k) ws[k] ((k : Int) % 4))
      clear hcell hg
      go_wp2_with (go_at_call 16; refine HADD.out.mono ?_; rintro e w3 ⟨rfl, hA3, hc3⟩; have HQ1 : Hid (QI w ba ma w2.heap.size (St.new wt bu hi me lo) (addTo ws (k + 1)) (addTo ws k) (.slice Av (addTo ws k).length cv) mny w3) := Lib.hid (by rw [addTo_succ ws k hlt]; exact HQ.out.add hA3 hc3); clear hA3 hc3)
      clear c1 HADD HQ
      have HQ2 := Lib.hid (HQ1.out.later (Below.refl _ _).drew)
      have c2 := (HQ2.out.below.cell (p := ⟨g, o + k, none⟩) HG.out).trans HC.out
      have HRA := Lib.hid (radd_to (St.new wt bu hi me lo) (.slice Av (addTo ws k).length cv) ws k hlt w3.drew HQ2.out.lds (by omega))
      have hld := HQ2.out.load
      refine Code.wp_mono nrm_le ?_
      go_region_with (go_at_call 19; refine HRA.out.mono ?_; rintro e w4 ⟨A4, n4, k4, y4, rfl, hl4, hb4⟩; have HQ4 := Lib.hid (HQ2.out.later hb4); have HQ5 := Lib.hid (HQ2.out.radd hl4 hb4); have hst := HQ4.out.store (L' := addTo ws (k + 1)) A4 n4 k4; clear hl4 hb4)
      all_goals
        simp only [nrm]
        go_wp2
        go_roundw
        case rel => exact ⟨k + 1, _, by omega, by go_num, HQ5⟩
        case measure => simp [RowKit.intOf]; omega
    · have hkl : k = ws.length := by omega
      have HLN := Lib.hid (addTo_len ws ws.length)
      have HS := Lib.hid (addTo_srt ws ws.length)
      rw [hkl] at HQ ⊢
      generalize addTo ws ws.length = L at *
      clear hk hkl hlt
      have HLS := Lib.hid (show Srt L from HS.out)
      clear HS
      have HQU := Lib.hid (Queues_any ba ma _ wr HQ.out.arb HLS.out)
      go_wp2_with (go_at_call 20; refine HQU.out.mono ?_; rintro e w6 ⟨B4, B3, rfl, hIt, hb6⟩; have HIT := Lib.hid hIt; have HQ6 := Lib.hid (HQ.out.later hb6); have HB6 := Lib.hid hb6; clear hIt hb6)
      have hmw := HQ.out.arb.map.lt
      have hs6 := HB6.out.size
      obtain ⟨lo6, hlo6⟩ : ∃ n, n = wr.heap.size := ⟨_, rfl⟩
      rw [← hlo6] at HIT hmw hs6
      clear HQ HQU HB6 hlo6
      go_loopw [12] (fun i W => ∃ (j : Nat) (La : List (Int × Int)), j ≤ ws.length ∧ i = .int .i64 j ∧ Hid (QI w ba ma w2.heap.size (St.new wt bu hi me lo) La L (.slice Av L.length cv) mny W) ∧ Hid (Srt La) ∧ Hid (Kpt lo6 w6.heap.size w6 W) ∧ w6.heap.size ≤ W.heap.size) (fun i _ => ws.length - (RowKit.intOf i).toNat)
      case atStart => exact ⟨0, L, Nat.zero_le _, rfl, HQ6, HLS, Kpt.refl _ _ _, Nat.le_refl _⟩
      case round =>
        obtain ⟨j, La, hj, rfl, HQ, HSa, HK, hsz⟩ := hrel
        by_cases hlt : j < ws.length
        · obtain ⟨A1, c1, e1, _, hcell⟩ := HI.out
          cases e1
          obtain ⟨g, o, rfl, hg, hcell⟩ := hcell (by omega)
          have c1 := (HQ.out.below.cell (p := ⟨g, o + j, none⟩) hg).trans (hcell j hlt)
          have HREM := Lib.hid (Remove_any ba ma _ _ HQ.out.arb HSa.out ws[j])
          clear hcell hg
          go_wp2_with (go_at_call 21; refine HREM.out.mono ?_; rintro e w7 ⟨rfl, hA7, hc7⟩; have HQ7 := Lib.hid (HQ.out.add hA7 hc7); have HS7 := Lib.hid (HSa.out.rem ws[j]); have HK7 := Lib.hid (HK.out.trans (Kpt.of_chg hc7 hmw hsz)); have hs7 := Nat.le_trans hsz hc7.size; clear hA7 hc7)
          go_roundw
          case rel => exact ⟨j + 1, _, by omega, by go_num, HQ7, HS7, HK7, hs7⟩
          case measure => simp [RowKit.intOf]; omega
        · have hkl : j = ws.length := by omega
          have HIT5 : Hid (It lo6 wr.heap.size wr B4 B3 L) := Lib.hid ((HIT.out.keep HK.out).mono hsz)
          clear HIT HK HSa HQ6 hkl hs6 hmw hsz
          obtain ⟨W5, hW5⟩ : ∃ W5, W5 = wr := ⟨_, rfl⟩
          rw [← hW5] at HIT5 HQ ⊢
          clear hW5
          go_wp2
          refine (wpIn_wide (n := 12)).1 ?_
          refine wpIn_loop_rounds 3 ?_
          rw [roundsIn_succ]
          gi_wp2
          obtain ⟨W7, hW7⟩ : ∃ W7, W7 = (W5.alloc (.cells #[.int .i64 0] 3)).alloc (.cells #[.int .i64 0] 3) := ⟨_, rfl⟩
          have HRI : Hid (RI w W5 W5.heap.size (W5.heap.size + 1) 0 [] 0 W7) := Lib.hid (by rw [hW7]; exact RI.start 0 ⟨List.nodup_nil, fun D h => by cases h⟩)
          have hz7 : W7.heap.size = W5.heap.size + 2 := by rw [hW7]; simp
          rw [← hW7]
          clear hW7
          have hne5 : ¬ W5.heap.size = w.heap.size := by have := HQ.out.arb.lt; have := HQ.out.pb; omega
          have hne5' : ¬ w.heap.size = W5.heap.size := fun e => hne5 e.symm
          have hne6 : ¬ W5.heap.size = w.heap.size + 1 := by have := HQ.out.arb.lt; have := HQ.out.pb; omega
          have hne6' : ¬ w.heap.size + 1 = W5.heap.size := fun e => hne6 e.symm
          refine' wpIn_rangeFunc_ownG rfl (by omega) (gf := 43) (lb := #[.pointer (some ⟨B4, 0, none⟩), .pointer (some ⟨B3, 0, none⟩)]) rfl trivial (enters_of Try.func43 (by kernel_rfl) rfl)
            (iter_stops 11 (by omega) B4 B3 lo6 W5.heap.size L W5 HIT5.out (Nat.le_refl _)) Kpt.trans (fun W l o o' hl hw ho _ k _ hk => World.putObj_heap_other (by omega)) HRI.out.below (fun _ => rfl)
            (fun pre W => pre.map (·.1) <+: L ∧ RI w W5 W5.heap.size (W5.heap.size + 1) 0 [] pre.length W ∧ (pre.length = 0 ∨ (pre.length : Int) < mny))
            (fun cd pre W => (cd = .ret ∧ ¬ pre.map (·.1) <+: L) ∨ (cd = .exit 6 ∧ RI w W5 W5.heap.size (W5.heap.size + 1) 0 [] pre.length W ∧ 1 ≤ pre.length ∧ mny ≤ (pre.length : Int) ∧ (pre.length = 1 ∨ (pre.length : Int) - 1 < mny)))
            (fun pre X Y row hs hg hr => ⟨hs.1, own_ri (fun pre : List QC => pre.length) (by omega) (by simp) pre X Y row hs.2.1 hg hr, hs.2.2⟩)
            (fun cd pre X Y row hs hg hr => hs.imp id fun h => ⟨h.1, own_ri (fun pre : List QC => pre.length) (by omega) (by simp) pre X Y row h.2.1 hg hr, h.2.2⟩)
            ⟨pref_nil L, HRI.out, .inl rfl⟩ _ ?assign ?body ?done ?stop
          case assign =>
            intro l x W K hK
            gi_wp2
            exact hK
          case body =>
            rintro l pre x W ⟨hpre, hri, hlm⟩ hN
            have HQW := Lib.hid (HQ.out.later hri.below)
            have hps := pref_snoc hpre hN x
            obtain ⟨g, o, hAv, _, cy1, cy2⟩ := HQW.out.lds.at pre.length hN
            have c5 := HQW.out.c5
            rw [hAv] at c5
            have cn := hri.xn.cell
            have fn := hri.xn.free
            have ct := hri.xt.cell
            have cm := HQW.out.xm.cell
            have cr := HQW.out.xr.cell
            have fr := HQW.out.xr.free
            have HST := Lib.hid (hri.set (Nat.le_succ _) (by omega))
            have HKF : Hid (∀ p u, KeepsFrom (W5.heap.size + 2) W (W.setCell p u)) := Lib.hid fun p u => (KeepsOthers.setCell _ _ _).from _
            have HKP : Hid (Kpt lo6 W5.heap.size W (W.setCell ⟨W5.heap.size + 1, 0, none⟩ (.int .i64 ((pre.length : Int) + 1)))) := Lib.hid (Kpt.of_below ((Below.refl _ W).setCell (p := ⟨W5.heap.size + 1, 0, none⟩) (Nat.le_succ _) _))
            have cn2 := HST.out.xn.cell
            have ct2 := HST.out.xt.cell
            have cm2 := (HQ.out.later HST.out.below).xm.cell
            rw [show (((pre.length + 1 : Nat) : Int)) = (pre.length : Int) + 1 by omega] at cn2
            have HPS := Lib.hid hps
            have hpl : (pre ++ [x]).length = pre.length + 1 := by simp
            have HPL := Lib.hid hpl
            have HLM := Lib.hid hlm
            have hp30 : (pre.length : Int) ≤ 30 := by have := HLN.out; omega
            have hN2 : ¬ (L.length : Int) ≤ (pre.length : Int) := by omega
            obtain ⟨⟨x1, x2⟩, hx⟩ := x
            clear hri hps hpre hpl hlm
            obtain ⟨y1, hy1⟩ : ∃ y, y = L[pre.length].1 := ⟨_, rfl⟩
            obtain ⟨y2, hy2⟩ : ∃ y, y = L[pre.length].2 := ⟨_, rfl⟩
            rw [← hy1] at cy1
            rw [← hy2] at cy2
            by_cases e1 : y1 = x1
            · by_cases e2 : y2 = x2
              · subst e1 e2
                have hpx : Hid ((pre ++ [(⟨(y1, y2), hx⟩ : QC)]).map (·.1) <+: L) := Lib.hid (HPS.out.2 (Prod.ext hy1 hy2))
                clear hy1 hy2
                by_cases hm : mny ≤ (pre.length : Int) + 1
                · gi_wp2
                  exact ⟨HKF.out _ _, .inr ⟨rfl, by rw [HPL.out]; exact HST.out, by rw [HPL.out]; omega, by rw [HPL.out]; omega, by rw [HPL.out]; have := HLM.out; omega⟩⟩
                · gi_wp2
                  exact ⟨HKF.out _ _, HKP.out, hpx.out, by rw [HPL.out]; exact HST.out, by rw [HPL.out]; omega⟩
              · have hpx : Hid (¬ (pre ++ [(⟨(x1, x2), hx⟩ : QC)]).map (·.1) <+: L) := Lib.hid (fun h => e2 (by rw [hy2, ← HPS.out.1 h]))
                clear hy1 hy2
                subst e1
                gi_wp2
                exact ⟨HKF.out _ _, .inl ⟨rfl, hpx.out⟩⟩
            · have hpx : Hid (¬ (pre ++ [(⟨(x1, x2), hx⟩ : QC)]).map (·.1) <+: L) := Lib.hid (fun h => e1 (by rw [hy1, ← HPS.out.1 h]))
              clear hy1 hy2
              gi_wp2
              exact ⟨HKF.out _ _, .inl ⟨rfl, hpx.out⟩⟩
          case done =>
            rintro D xs W10 hD hS ⟨hpre, hri, hlm⟩ hd
            have hcnt : xs.length = L.length := by rw [← hS]; simp
            rw [hcnt] at hri hlm
            have hE : min (L.length : Int) (max 1 mny) = (L.length : Int) := by omega
            have HQA := Lib.hid (HQ.out.later hri.below)
            have HITA := Lib.hid ((HIT5.out.keep (Kpt.of_below hri.below)).mono hri.below.size)
            have HMA := Lib.hid (Marks.one (n0 := w.heap.size) (by have := HQ.out.below.size; omega) hd)
            have hzA : W5.heap.size + 2 ≤ W10.heap.size := by have := hri.xn.lt; omega
            have HDl := Lib.hid (HMA.out.lt (by simp : D ∈ [D]))
            have c5 := HQA.out.c5
            have cn := hri.xn.cell
            have ct := hri.xt.cell
            have cm := HQA.out.xm.cell
            have hp30 : (L.length : Int) ≤ 30 := by have := HLN.out; omega
            clear hri hlm hpre hS hcnt hd
            gi_wp2
            rw [roundsIn_succ]
            gi_wp2
            obtain ⟨W11, hW11⟩ : ∃ W11, W11 = (W10.alloc (.cells #[.int .i64 1] 3)).alloc (.cells #[.int .i64 0] 3) := ⟨_, rfl⟩
            have HRB : Hid (RI w W10 W10.heap.size (W10.heap.size + 1) 1 [D] 0 W11) := Lib.hid (by rw [hW11]; exact RI.start 1 HMA.out)
            have hz11 : W11.heap.size = W10.heap.size + 2 := by rw [hW11]; simp
            rw [← hW11]
            clear hW11 c5 cn ct cm
            have hneA : ¬ W10.heap.size = w.heap.size := by have := HQA.out.arb.lt; have := HQA.out.pb; omega
            have hneA' : ¬ w.heap.size = W10.heap.size := fun e => hneA e.symm
            have hneB : ¬ W10.heap.size = w.heap.size + 1 := by have := HQA.out.arb.lt; have := HQA.out.pb; omega
            have hneB' : ¬ w.heap.size + 1 = W10.heap.size := fun e => hneB e.symm
            have hDs : ∀ k ∈ [D], k < W11.heap.size := fun k hk => by rw [List.mem_singleton.1 hk]; have := HDl.out; omega
            refine' wpIn_rangeFunc_ownG rfl (by omega) (gf := 43) (lb := #[.pointer (some ⟨B4, 0, none⟩), .pointer (some ⟨B3, 0, none⟩)]) rfl trivial (enters_of Try.func43 (by kernel_rfl) rfl)
              (iter_stops 11 (by omega) B4 B3 lo6 W10.heap.size L W10 HITA.out (Nat.le_refl _)) Kpt.trans (fun W l o o' hl hw ho _ k _ hk => World.putObj_heap_other (by omega)) HRB.out.below (fun _ => rfl)
              (fun pre W => pre.map (·.1) <+: L ∧ RI w W10 W10.heap.size (W10.heap.size + 1) 1 [D] pre.length W)
              (fun cd pre W => cd = .ret ∧ ¬ pre.map (·.1) <+: L)
              (fun pre X Y row hs hg hr => ⟨hs.1, own_ri (fun pre : List QC => pre.length) (by omega) hDs pre X Y row hs.2 hg hr⟩)
              (fun cd pre X Y row hs hg hr => hs)
              ⟨pref_nil L, HRB.out⟩ _ ?assign2 ?body2 ?done2 ?stop2
            case assign2 =>
              intro l x W K hK
              gi_wp2
              exact hK
            case body2 =>
              rintro l pre x W ⟨hpre, hri⟩ hN
              have HQW := Lib.hid (HQA.out.later hri.below)
              have hps := pref_snoc hpre hN x
              obtain ⟨g, o, hAv, _, cy1, cy2⟩ := HQW.out.lds.at pre.length hN
              have c5 := HQW.out.c5
              rw [hAv] at c5
              have cn := hri.xn.cell
              have fn := hri.xn.free
              have ct := hri.xt.cell
              have cm := HQW.out.xm.cell
              have cr := HQW.out.xr.cell
              have fr := HQW.out.xr.free
              have HST := Lib.hid (hri.set (Nat.le_succ _) (by omega))
              have HKF : Hid (∀ p u, KeepsFrom (W10.heap.size + 2) W (W.setCell p u)) := Lib.hid fun p u => (KeepsOthers.setCell _ _ _).from _
              have HKP : Hid (Kpt lo6 W10.heap.size W (W.setCell ⟨W10.heap.size + 1, 0, none⟩ (.int .i64 ((pre.length : Int) + 1)))) := Lib.hid (Kpt.of_below ((Below.refl _ W).setCell (p := ⟨W10.heap.size + 1, 0, none⟩) (Nat.le_succ _) _))
              have cn2 := HST.out.xn.cell
              have ct2 := HST.out.xt.cell
              have cm2 := (HQA.out.later HST.out.below).xm.cell
              rw [show (((pre.length + 1 : Nat) : Int)) = (pre.length : Int) + 1 by omega] at cn2
              have HPS := Lib.hid hps
              have hpl : (pre ++ [x]).length = pre.length + 1 := by simp
              have HPL := Lib.hid hpl
              have hp30 : (pre.length : Int) ≤ 30 := by have := HLN.out; omega
              have hN2 : ¬ (L.length : Int) ≤ (pre.length : Int) := by omega
              obtain ⟨⟨x1, x2⟩, hx⟩ := x
              clear hri hps hpre hpl
              obtain ⟨y1, hy1⟩ : ∃ y, y = L[pre.length].1 := ⟨_, rfl⟩
              obtain ⟨y2, hy2⟩ : ∃ y, y = L[pre.length].2 := ⟨_, rfl⟩
              rw [← hy1] at cy1
              rw [← hy2] at cy2
              by_cases e1 : y1 = x1
              · by_cases e2 : y2 = x2
                · subst e1 e2
                  have hpx : Hid ((pre ++ [(⟨(y1, y2), hx⟩ : QC)]).map (·.1) <+: L) := Lib.hid (HPS.out.2 (Prod.ext hy1 hy2))
                  clear hy1 hy2
                  gi_wp2
                  exact ⟨HKF.out _ _, HKP.out, hpx.out, by rw [HPL.out]; exact HST.out⟩
                · have hpx : Hid (¬ (pre ++ [(⟨(x1, x2), hx⟩ : QC)]).map (·.1) <+: L) := Lib.hid (fun h => e2 (by rw [hy2, ← HPS.out.1 h]))
                  clear hy1 hy2
                  subst e1
                  gi_wp2
                  exact ⟨HKF.out _ _, rfl, hpx.out⟩
              · have hpx : Hid (¬ (pre ++ [(⟨(x1, x2), hx⟩ : QC)]).map (·.1) <+: L) := Lib.hid (fun h => e1 (by rw [hy1, ← HPS.out.1 h]))
                clear hy1 hy2
                gi_wp2
                exact ⟨HKF.out _ _, rfl, hpx.out⟩
            case done2 =>
              rintro D2 xs W12 hD2 hS ⟨hpre, hri⟩ hd
              have hcnt : xs.length = L.length := by rw [← hS]; simp
              rw [hcnt] at hri
              have HQB := Lib.hid (HQA.out.later hri.below)
              have HMB := Lib.hid (Marks.cons hri.mks (n1 := W11.heap.size) (by have := HQA.out.below.size; omega) hD2 hDs hd)
              have c5 := HQB.out.c5
              have cn := hri.xn.cell
              have ct := hri.xt.cell
              clear hri hpre hS hcnt hd
              gi_wp2
              rw [roundsIn_succ]
              gi_wp2
              go_wp2_with (go_at_call 12; refine (known_any _).mono ?_; rintro e w13 ⟨rfl, hb⟩; have hJ : Below W12.heap.size W12 w13 := (below_alloc W12 _).trans (hb.mono (by simp)); have HJ := Lib.hid hJ; have c8 := (HQB.out.later hJ).xr.cell; have f8 := (HQB.out.later hJ).xr.free; clear hb hJ)
              exact law_true (q := w.heap.size + 1 + 1) (Ds := [D2, D]) (HMB.out.below HJ.out) (HQB.out.later HJ.out).below (HQB.out.later HJ.out).xr (by omega) fun W' h => res7 W' _ _ rfl h
            case stop2 =>
              rintro D2 cd pre W12 hD2 hp ⟨rfl, hn⟩ hd
              exact absurd hp hn
          case stop =>
            rintro D cd pre W10 hD hp h hd
            obtain ⟨rfl, hn⟩ | ⟨rfl, hri, h1, h2, h3⟩ := h
            · exact absurd hp hn
            have hle : pre.length ≤ L.length := by have := hp.length_le; simpa using this
            obtain ⟨kk, hkk⟩ : ∃ kk, pre.length = kk := ⟨_, rfl⟩
            rw [hkk] at hri h1 h2 h3 hle
            have hE : min (L.length : Int) (max 1 mny) = (kk : Int) := by omega
            have HQA := Lib.hid (HQ.out.later hri.below)
            have HITA := Lib.hid ((HIT5.out.keep (Kpt.of_below hri.below)).mono hri.below.size)
            have HMA := Lib.hid (Marks.one (n0 := w.heap.size) (by have := HQ.out.below.size; omega) hd)
            have hzA : W5.heap.size + 2 ≤ W10.heap.size := by have := hri.xn.lt; omega
            have HDl := Lib.hid (HMA.out.lt (by simp : D ∈ [D]))
            have c5 := HQA.out.c5
            have cn := hri.xn.cell
            have ct := hri.xt.cell
            have cm := HQA.out.xm.cell
            have hp30 : (L.length : Int) ≤ 30 := by have := HLN.out; omega
            clear hri h1 h2 h3 hp hkk hd
            gi_wp2
            rw [roundsIn_succ]
            gi_wp2
            obtain ⟨W11, hW11⟩ : ∃ W11, W11 = (W10.alloc (.cells #[.int .i64 1] 3)).alloc (.cells #[.int .i64 0] 3) := ⟨_, rfl⟩
            have HRB : Hid (RI w W10 W10.heap.size (W10.heap.size + 1) 1 [D] 0 W11) := Lib.hid (by rw [hW11]; exact RI.start 1 HMA.out)
            have hz11 : W11.heap.size = W10.heap.size + 2 := by rw [hW11]; simp
            rw [← hW11]
            clear hW11 c5 cn ct cm
            have hneA : ¬ W10.heap.size = w.heap.size := by have := HQA.out.arb.lt; have := HQA.out.pb; omega
            have hneA' : ¬ w.heap.size = W10.heap.size := fun e => hneA e.symm
            have hneB : ¬ W10.heap.size = w.heap.size + 1 := by have := HQA.out.arb.lt; have := HQA.out.pb; omega
            have hneB' : ¬ w.heap.size + 1 = W10.heap.size := fun e => hneB e.symm
            have hDs : ∀ k ∈ [D], k < W11.heap.size := fun k hk => by rw [List.mem_singleton.1 hk]; have := HDl.out; omega
            refine' wpIn_rangeFunc_ownG rfl (by omega) (gf := 43) (lb := #[.pointer (some ⟨B4, 0, none⟩), .pointer (some ⟨B3, 0, none⟩)]) rfl trivial (enters_of Try.func43 (by kernel_rfl) rfl)
              (iter_stops 11 (by omega) B4 B3 lo6 W10.heap.size L W10 HITA.out (Nat.le_refl _)) Kpt.trans (fun W l o o' hl hw ho _ k _ hk => World.putObj_heap_other (by omega)) HRB.out.below (fun _ => rfl)
              (fun pre W => pre.map (·.1) <+: L ∧ RI w W10 W10.heap.size (W10.heap.size + 1) 1 [D] pre.length W)
              (fun cd pre W => cd = .ret ∧ ¬ pre.map (·.1) <+: L)
              (fun pre X Y row hs hg hr => ⟨hs.1, own_ri (fun pre : List QC => pre.length) (by omega) hDs pre X Y row hs.2 hg hr⟩)
              (fun cd pre X Y row hs hg hr => hs)
              ⟨pref_nil L, HRB.out⟩ _ ?assign3 ?body3 ?done3 ?stop3
            case assign3 =>
              intro l x W K hK
              gi_wp2
              exact hK
            case body3 =>
              rintro l pre x W ⟨hpre, hri⟩ hN
              have HQW := Lib.hid (HQA.out.later hri.below)
              have hps := pref_snoc hpre hN x
              obtain ⟨g, o, hAv, _, cy1, cy2⟩ := HQW.out.lds.at pre.length hN
              have c5 := HQW.out.c5
              rw [hAv] at c5
              have cn := hri.xn.cell
              have fn := hri.xn.free
              have ct := hri.xt.cell
              have cm := HQW.out.xm.cell
              have cr := HQW.out.xr.cell
              have fr := HQW.out.xr.free
              have HST := Lib.hid (hri.set (Nat.le_succ _) (by omega))
              have HKF : Hid (∀ p u, KeepsFrom (W10.heap.size + 2) W (W.setCell p u)) := Lib.hid fun p u => (KeepsOthers.setCell _ _ _).from _
              have HKP : Hid (Kpt lo6 W10.heap.size W (W.setCell ⟨W10.heap.size + 1, 0, none⟩ (.int .i64 ((pre.length : Int) + 1)))) := Lib.hid (Kpt.of_below ((Below.refl _ W).setCell (p := ⟨W10.heap.size + 1, 0, none⟩) (Nat.le_succ _) _))
              have cn2 := HST.out.xn.cell
              have ct2 := HST.out.xt.cell
              have cm2 := (HQA.out.later HST.out.below).xm.cell
              rw [show (((pre.length + 1 : Nat) : Int)) = (pre.length : Int) + 1 by omega] at cn2
              have HPS := Lib.hid hps
              have hpl : (pre ++ [x]).length = pre.length + 1 := by simp
              have HPL := Lib.hid hpl
              have hp30 : (pre.length : Int) ≤ 30 := by have := HLN.out; omega
              have hN2 : ¬ (L.length : Int) ≤ (pre.length : Int) := by omega
              obtain ⟨⟨x1, x2⟩, hx⟩ := x
              clear hri hps hpre hpl
              obtain ⟨y1, hy1⟩ : ∃ y, y = L[pre.length].1 := ⟨_, rfl⟩
              obtain ⟨y2, hy2⟩ : ∃ y, y = L[pre.length].2 := ⟨_, rfl⟩
              rw [← hy1] at cy1
              rw [← hy2] at cy2
              by_cases e1 : y1 = x1
              · by_cases e2 : y2 = x2
                · subst e1 e2
                  have hpx : Hid ((pre ++ [(⟨(y1, y2), hx⟩ : QC)]).map (·.1) <+: L) := Lib.hid (HPS.out.2 (Prod.ext hy1 hy2))
                  clear hy1 hy2
                  gi_wp2
                  exact ⟨HKF.out _ _, HKP.out, hpx.out, by rw [HPL.out]; exact HST.out⟩
                · have hpx : Hid (¬ (pre ++ [(⟨(x1, x2), hx⟩ : QC)]).map (·.1) <+: L) := Lib.hid (fun h => e2 (by rw [hy2, ← HPS.out.1 h]))
                  clear hy1 hy2
                  subst e1
                  gi_wp2
                  exact ⟨HKF.out _ _, rfl, hpx.out⟩
              · have hpx : Hid (¬ (pre ++ [(⟨(x1, x2), hx⟩ : QC)]).map (·.1) <+: L) := Lib.hid (fun h => e1 (by rw [hy1, ← HPS.out.1 h]))
                clear hy1 hy2
                gi_wp2
                exact ⟨HKF.out _ _, rfl, hpx.out⟩
            case done3 =>
              rintro D2 xs W12 hD2 hS ⟨hpre, hri⟩ hd
              have hcnt : xs.length = L.length := by rw [← hS]; simp
              rw [hcnt] at hri
              have HQB := Lib.hid (HQA.out.later hri.below)
              have HMB := Lib.hid (Marks.cons hri.mks (n1 := W11.heap.size) (by have := HQA.out.below.size; omega) hD2 hDs hd)
              have c5 := HQB.out.c5
              have cn := hri.xn.cell
              have ct := hri.xt.cell
              clear hri hpre hS hcnt hd
              gi_wp2
              rw [roundsIn_succ]
              gi_wp2
              go_wp2_with (go_at_call 12; refine (known_any _).mono ?_; rintro e w13 ⟨rfl, hb⟩; have hJ : Below W12.heap.size W12 w13 := (below_alloc W12 _).trans (hb.mono (by simp)); have HJ := Lib.hid hJ; have c8 := (HQB.out.later hJ).xr.cell; have f8 := (HQB.out.later hJ).xr.free; clear hb hJ)
              exact law_true (q := w.heap.size + 1 + 1) (Ds := [D2, D]) (HMB.out.below HJ.out) (HQB.out.later HJ.out).below (HQB.out.later HJ.out).xr (by omega) fun W' h => res7 W' _ _ rfl h
            case stop3 =>
              rintro D2 cd pre W12 hD2 hp ⟨rfl, hn⟩ hd
              exact absurd hp hn
end Go.Proofs.Ytildofclgofjdaa
