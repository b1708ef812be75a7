/- A device equals its reference: is. Conditions stand in each theorem. -/
import Derived.Test.YtddejcoagcaidaaDF
import Derived.Test.YtddejcoagcaidaaDC
import Derived.Test.YtddejcoagcaidaaDH
import Derived.BigQuiet
import Derived.LoopIn
namespace Go.Proofs.Ytddejcoagcaidaa
open Go.RowKit
set_option linter.unusedVariables false
set_option maxHeartbeats 16000000
set_option maxRecDepth 100000
/-- A drawn region that reads and calls, and the calls may lay blocks. -/
theorem wp_region_gw {P : Program} {id : Nat} {Q : Exit → Act → World → Prop} {a : Act} {w : World} {l : List Oper} (hm : P.follows .mixedOrders = true) (hB : Region.lexB .any l.toArray = true)
    (h : wpQuiet P l.toArray (fun W => ∃ p : Gw w, W = p.W) (fun a' => ∀ w', (∃ p : Gw w, w' = p.W) → Q .normal a' w') l a) : (Code.region id l.toArray true).wp P Q a w :=
  wp_region_quiet (C := fun W => ∃ p : Gw w, W = p.W) hm hB ⟨⟨w.drew, (Below.refl _ _).drew⟩, rfl⟩ (by simpa using h)
theorem gw_ne (w : World) : Nonempty (Gw w) := ⟨⟨w, Below.refl _ _⟩⟩
theorem Gw.cell {w : World} (r : Gw w) {g o : Nat} {v : Value} (hc : w.cell? ⟨g, o, none⟩ = some v) : r.W.cell? ⟨g, o, none⟩ = some v := (r.h.cell (p := ⟨g, o, none⟩) (World.block_lt_of_cell? w _ hc)).trans hc
theorem is_any {w : World} {base b g0 m : Nat} {V : Nat → Value} {fs : List Int} {s : Dev} {vf vp ve : Value} {pb : Int} (h : Dv w base b g0 m V s) (hg : Gd s) (hr : Rd w fs s vf vp ve pb) :
    Calls Try.prog 15 #[.pointer (some ⟨b, 0, none⟩), .agg (rdv s vf vp ve pb)] w (RetB w (.bool true)) := by
  have hnp := hg.np
  have hnb := hg.nb
  have HPW := Lib.hid (fun W (hb : Below w.heap.size w W) => Powered_any (h.below hb))
  have HGE := Lib.hid (fun W (hb : Below w.heap.size w W) => Geometry_any (h.below hb))
  have HOP := Lib.hid (fun W (hb : Below w.heap.size w W) => Operations_any (h.below hb))
  have HNX := Lib.hid (fun W (hb : Below w.heap.size w W) q => Next_any (h.below hb) hg q)
  have HER := Lib.hid (fun W (hb : Below w.heap.size w W) q => Erases_any (h.below hb) hg q)
  have HST := Lib.hid (fun W (hb : Below w.heap.size w W) q p => State_any (h.below hb) hg q p)
  have HRD := Lib.hid (fun W (hb : Below w.heap.size w W) q p => Read_any (h.below hb) hg q p)
  have RNX := Lib.hid (fun W (hb : Below w.heap.size w W) q => rNext_any (hr.below hb) hg q)
  have RST := Lib.hid (fun W (hb : Below w.heap.size w W) q p => rState_any (hr.below hb) hg q p)
  have RRD := Lib.hid (fun W (hb : Below w.heap.size w W) q p => rRead_any (hr.below hb) hg q p)
  have HIQ := Lib.hid (fun (q : Int) => hasB_iff s q)
  obtain ⟨ge, ce, cure, rfl, -, hhe, hre⟩ := hr.ers.at_ (by omega)
  obtain ⟨⟨A1, n1, c1, rfl⟩, -, -⟩ := hr.forms
  obtain ⟨g, c, cur, rfl, -⟩ := id hr.grid
  have HE := Lib.hid (fun W q => rExists_any s (.slice A1 n1 c1) (.slice (some ⟨ge, 0, none⟩) s.nb ce) (some ⟨g, 0, none⟩) c pb q W)
  simp only [rdv] at HE RNX RST RRD ⊢
  have HHE := Lib.hid (And.intro hhe hre)
  have e1 : (s.np : Int) ≤ 512 := by omega
  have e2 : (s.nb : Int) ≤ 4096 := by omega
  have e01 : (0 : Int) ≤ (s.np : Int) := by omega
  have e02 : (0 : Int) ≤ (s.nb : Int) := by omega
  obtain ⟨W0, hW0⟩ : ∃ W0, W0 = w.alloc (.cells #[.int .i64 (s.nb : Int), .int .i64 (s.np : Int), .int .i64 (s.sz : Int), .int .i64 s.en, .slice A1 n1 c1, .slice (some ⟨g, 0, none⟩) s.nb c, .slice (some ⟨ge, 0, none⟩) s.nb ce, .int .i64 s.n, .int .i64 s.po, .int .i64 pb, .bool s.off] 35) := ⟨_, rfl⟩
  have hb0 : Below w.heap.size w W0 := by rw [hW0]; exact balloc w _
  have hbx : W0.heap[w.heap.size]? = some (.cells #[.int .i64 (s.nb : Int), .int .i64 (s.np : Int), .int .i64 (s.sz : Int), .int .i64 s.en, .slice A1 n1 c1, .slice (some ⟨g, 0, none⟩) s.nb c, .slice (some ⟨ge, 0, none⟩) s.nb ce, .int .i64 s.n, .int .i64 s.po, .int .i64 pb, .bool s.off] 35 (0, 0)) := by rw [hW0]; exact heap_alloc_new w _
  have HX := Lib.hid (fun W' (hb : Below W0.heap.size W0 W') => box11 hbx hb)
  have HB0 := Lib.hid hb0
  have HW := Lib.hid hW0
  have hpo : Hid (((!s.off) == s.off) = false) := Lib.hid (by cases s.off <;> rfl)
  obtain ⟨pw, hpw⟩ : ∃ pw, pw = !s.off := ⟨_, rfl⟩
  rw [← hpw] at HPW hpo
  have hpo2 : (pw == s.off) = false := hpo.out
  have hpo3 : decide (pw = s.off) = false := by simpa using hpo2
  clear h hg hr hnp hnb hhe hre hb0 hbx hW0 hpw hpo
  go_enter Try.func15, Try.ntmps15
  go_upto_region 1 with fail
  rw [← HW.out]
  obtain ⟨u0, u1, u2, u3, u4, u5, u6, u7, u8, u9, u10⟩ := HX.out W0 (Below.refl _ _)
  have y0 := fun r : Gw W0 => r.cell u0
  have y1 := fun r : Gw W0 => r.cell u1
  have y2 := fun r : Gw W0 => r.cell u2
  have y3 := fun r : Gw W0 => r.cell u3
  have y7 := fun r : Gw W0 => r.cell u7
  have y10 := fun r : Gw W0 => r.cell u10
  have hne := gw_ne W0
  refine wp_region_gw (by kernel_rfl) (by kernel_rfl) ?_
  repeat (go_big_quiet_step ((first | (go_at_call 25; exact gw_same _ (HPW.out _ (HB0.out.trans ((Gw.h _).mono HB0.out.size)))) | (go_at_call 26; exact gw_of _ (HGE.out _ (HB0.out.trans ((Gw.h _).mono HB0.out.size)))) | (go_at_call 27; exact gw_same _ (HOP.out _ (HB0.out.trans ((Gw.h _).mono HB0.out.size)))))))
  refine wpQuiet_nil ?_
  rintro w7 ⟨⟨W1, hg7⟩, rfl⟩
  have HB1 := Lib.hid hg7
  clear hne y0 y1 y2 y3 y7 y10 u0 u1 u2 u3 u4 u5 u6 u7 u8 u9 u10 hg7 hpo2 hpo3
  go_wp2
  go_loopw [5] (fun v wr => ∃ z : Int, -1 ≤ z ∧ z ≤ (s.nb : Int) + 1 ∧ v = .int .i64 z ∧ Hid (Below W0.heap.size W0 wr)) (fun v _ => ((s.nb : Int) + 1 - RowKit.intOf v).toNat)
  case atStart => exact ⟨-1, by omega, by omega, rfl, HB1⟩
  case round =>
    obtain ⟨z, hz1, hz2, rfl, HBr⟩ := hrel
    obtain ⟨x0, x1, x2, x3, x4, x5, x6, x7, x8, x9, x10⟩ := HX.out wr HBr.out
    clear HB1
    by_cases hlt : z ≤ (s.nb : Int)
    · have HBw : Hid (Below w.heap.size w wr) := Lib.hid (HB0.out.trans (HBr.out.mono HB0.out.size))
      have HQ := Lib.hid (HIQ.out z)
      obtain ⟨qb, hqb⟩ : ∃ qb, qb = s.hasB z := ⟨_, rfl⟩
      have HE1 := Lib.hid (fun W => HE.out W z)
      obtain ⟨er, her⟩ : ∃ er, er = s.ers z := ⟨_, rfl⟩
      rw [← hqb] at HE1 HQ
      have HQB := Lib.hid (And.intro hqb her)
      clear hqb her
      go_upto_if 42 with ((go_at_call 40; with_reducible refine (HE1.out _).mono ?_); rintro e w2 ⟨rfl, hb⟩; have HB2 := Lib.hid (HBw.out.trans (hb.mono HBw.out.size)); have HB02 := Lib.hid (HBr.out.trans (hb.mono HBr.out.size)); clear hb)
      go_cut [6] from 42 (fun a wx => a = .int .i64 er ∧ wx = w2)
      case first =>
        cases qb with
        | false =>
          go_wp2
          go_meet
          case rel =>
            refine ⟨?_, rfl⟩
            rw [HQB.out.2, Dev.ers, if_neg (by rw [← HQB.out.1]; decide)]
        | true =>
          obtain ⟨q0, q1⟩ := of_decide_eq_true HQ.out.symm
          obtain ⟨i, rfl⟩ : ∃ i : Nat, z = (i : Int) := ⟨z.toNat, by omega⟩
          obtain ⟨v0, v1, v2, v3, v4, v5, v6, v7, v8, v9, v10⟩ := HX.out w2 HB02.out
          have z1 : w2.cell? ⟨ge, i, none⟩ = some (.int .i64 er) := (HB2.out.cell (p := ⟨ge, i, none⟩) (Array.getElem?_eq_some_iff.1 HHE.out.1).1).trans ((cell_of_row _ _ i _ _ _ HHE.out.1).trans ((HHE.out.2 i (by omega)).trans (by rw [HQB.out.2, ers_nat (by omega)])))
          go_wp2
          go_meet
          case rel => exact ⟨rfl, rfl⟩
      case rest =>
        obtain ⟨rfl, rfl⟩ := hcut
        clear x0 x1 x2 x3 x4 x5 x6 x7 x8 x9 x10 HE1 HQ
        obtain ⟨u0, u1, u2, u3, u4, u5, u6, u7, u8, u9, u10⟩ := HX.out _ HB02.out
        obtain ⟨W2, hW2⟩ : ∃ W2, W2 = wc := ⟨_, rfl⟩
        subst hW2
        have y0 := fun r : Gw W2 => r.cell u0
        have y1 := fun r : Gw W2 => r.cell u1
        have y2 := fun r : Gw W2 => r.cell u2
        have y3 := fun r : Gw W2 => r.cell u3
        have y4 := fun r : Gw W2 => r.cell u4
        have y5 := fun r : Gw W2 => r.cell u5
        have y6 := fun r : Gw W2 => r.cell u6
        have y7 := fun r : Gw W2 => r.cell u7
        have y8 := fun r : Gw W2 => r.cell u8
        have y9 := fun r : Gw W2 => r.cell u9
        have y10 := fun r : Gw W2 => r.cell u10
        have hne := gw_ne W2
        have HN1 := Lib.hid (fun W hb => HNX.out W hb z)
        have HN2 := Lib.hid (fun W hb => RNX.out W hb z)
        have HN3 := Lib.hid (fun W hb => HER.out W hb z)
        rw [← HQB.out.2] at HN3
        obtain ⟨nz, hnz⟩ : ∃ nz, nz = s.nx z := ⟨_, rfl⟩
        rw [← hnz] at HN1 HN2
        clear hnz
        go_upto_region 9 with fail
        refine wp_region_gw (by kernel_rfl) (by kernel_rfl) ?_
        repeat (go_big_quiet_step ((first | (go_at_call 28; exact gw_same _ (HN1.out _ (HB2.out.trans ((Gw.h _).mono HB2.out.size)))) | (go_at_call 41; exact gw_of _ (HN2.out _ (HB2.out.trans ((Gw.h _).mono HB2.out.size)))) | (go_at_call 29; exact gw_same _ (HN3.out _ (HB2.out.trans ((Gw.h _).mono HB2.out.size)))))))
        refine wpQuiet_nil ?_
        rintro w7 ⟨⟨W3, hg7⟩, rfl⟩
        have HB3 := Lib.hid (HB02.out.trans (hg7.mono HB02.out.size))
        clear hne y0 y1 y2 y3 y4 y5 y6 y7 y8 y9 y10 u0 u1 u2 u3 u4 u5 u6 u7 u8 u9 u10 hg7 HB2 HB02 HN1 HN2 HN3 HBr HBw
        go_wp2
        go_loopw [7] (fun v wr => ∃ y : Int, -1 ≤ y ∧ y ≤ (s.np : Int) + 1 ∧ v = .int .i64 y ∧ Hid (Below W0.heap.size W0 wr)) (fun v _ => ((s.np : Int) + 1 - RowKit.intOf v).toNat)
        case atStart => exact ⟨-1, by omega, by omega, rfl, HB3⟩
        case round =>
          obtain ⟨y, hy1, hy2, rfl, HBr⟩ := hrel
          obtain ⟨x0, x1, x2, x3, x4, x5, x6, x7, x8, x9, x10⟩ := HX.out wr HBr.out
          clear HB3
          by_cases hly : y ≤ (s.np : Int)
          · have HBw : Hid (Below w.heap.size w wr) := Lib.hid (HB0.out.trans (HBr.out.mono HB0.out.size))
            have HR1 := Lib.hid (fun W hb => HRD.out W hb z y)
            have HR2 := Lib.hid (fun W hb => RRD.out W hb z y)
            have HS1 := Lib.hid (fun W hb => HST.out W hb z y)
            have HS2 := Lib.hid (fun W hb => RST.out W hb z y)
            obtain ⟨st, hst⟩ : ∃ st, st = s.stt z y := ⟨_, rfl⟩
            rw [← hst] at HS1 HS2
            unfold ReadPost at HR1
            unfold RrPost at HR2
            obtain ⟨rE, hrE⟩ : ∃ rE, rE = s.rdE z y := ⟨_, rfl⟩
            rw [← hrE] at HR1 HR2
            clear hst hrE
            go_upto_region 16 with (first
              | ((go_at_call 18; with_reducible refine (HR1.out _ HBw.out).mono ?_); rintro e w4 ⟨P1, m1, k1, P2, m2, k2, rfl, hf1, hf2, hb4⟩; have HF1 := Lib.hid hf1.1; have HF2 := Lib.hid hf2.1; have HB4 := Lib.hid (HBw.out.trans (hb4.mono HBw.out.size)); have HB04 := Lib.hid (HBr.out.trans (hb4.mono HBr.out.size)); clear hf1 hf2 hb4; obtain ⟨v0, v1, v2, v3, v4, v5, v6, v7, v8, v9, v10⟩ := HX.out _ HB04.out)
              | ((go_at_call 37; with_reducible refine (HR2.out _ HB4.out).mono ?_); rintro e w5 ⟨P3, m3, k3, P4, m4, k4, rfl, hf3, hf4, hb5⟩; have HF3 := Lib.hid hf3; have HF4 := Lib.hid hf4; have HG1 := Lib.hid (HF1.out.below hb5); have HG2 := Lib.hid (HF2.out.below hb5); have HB5 := Lib.hid (HB4.out.trans (hb5.mono HB4.out.size)); have HB05 := Lib.hid (HB04.out.trans (hb5.mono HB04.out.size)); clear hf3 hf4 hb5))
            clear x0 x1 x2 x3 x4 x5 x6 x7 x8 x9 x10 v0 v1 v2 v3 v4 v5 v6 v7 v8 v9 v10
            obtain ⟨u0, u1, u2, u3, u4, u5, u6, u7, u8, u9, u10⟩ := HX.out _ HB05.out
            have y0 := fun r : Gw w5 => r.cell u0
            have y1 := fun r : Gw w5 => r.cell u1
            have y2 := fun r : Gw w5 => r.cell u2
            have y3 := fun r : Gw w5 => r.cell u3
            have y4 := fun r : Gw w5 => r.cell u4
            have y5 := fun r : Gw w5 => r.cell u5
            have y6 := fun r : Gw w5 => r.cell u6
            have y7 := fun r : Gw w5 => r.cell u7
            have y8 := fun r : Gw w5 => r.cell u8
            have y9 := fun r : Gw w5 => r.cell u9
            have y10 := fun r : Gw w5 => r.cell u10
            have hne := gw_ne w5
            have SM1 : Hid (∀ p : Gw w5, Calls Try.prog 31 #[.slice P1 m1 k1, .slice P3 m3 k3] p.W fun e w' => e = .returned (.bool true) ∧ p.W = w') := Lib.hid (fun p => (same_any _ _ _ _ p.W (HG1.out.1.below p.h) (HF3.out.1.below p.h)).mono fun _ _ ⟨a, b⟩ => ⟨by rw [a, decide_eq_true rfl], b⟩)
            have SM2 : Hid (∀ p : Gw w5, Calls Try.prog 31 #[.slice P2 m2 k2, .slice P4 m4 k4] p.W fun e w' => e = .returned (.bool true) ∧ p.W = w') := Lib.hid (fun p => (same_any _ _ _ _ p.W (HG2.out.1.below p.h) (HF4.out.1.below p.h)).mono fun _ _ ⟨a, b⟩ => ⟨by rw [a, decide_eq_true rfl], b⟩)
            refine wp_region_gw (by kernel_rfl) (by kernel_rfl) ?_
            repeat (go_big_quiet_step ((first | (go_at_call 13; exact gw_same _ (num_any _ _)) | (go_at_call 30; exact gw_same _ (HS1.out _ (HB5.out.trans ((Gw.h _).mono HB5.out.size)))) | (go_at_call 42; exact gw_of _ (HS2.out _ (HB5.out.trans ((Gw.h _).mono HB5.out.size)))) | (go_at_call 31; exact gw_same _ (SM1.out _)) | (go_at_call 31; exact gw_same _ (SM2.out _)))))
            refine wpQuiet_nil ?_
            rintro w7 ⟨⟨W6, hg7⟩, rfl⟩
            have HB6 := Lib.hid (HB05.out.trans (hg7.mono HB05.out.size))
            clear hne y0 y1 y2 y3 y4 y5 y6 y7 y8 y9 y10 u0 u1 u2 u3 u4 u5 u6 u7 u8 u9 u10 hg7
            go_wp2
            go_roundw
            case rel => exact ⟨y + 1, by omega, by omega, by go_num, HB6⟩
            case measure => simp [RowKit.intOf]; omega
          · go_wp2
            go_roundw
            case rel => exact ⟨z + 1, by omega, by omega, by go_num, HBr⟩
            case measure => simp [RowKit.intOf]; omega
    · have hz : z = (s.nb : Int) + 1 := by omega
      have HZ := Lib.hid hz
      clear hz
      go_wp2
      go_ret
      exact ⟨rfl, HB0.out.trans (HBr.out.mono HB0.out.size)⟩
end Go.Proofs.Ytddejcoagcaidaa
