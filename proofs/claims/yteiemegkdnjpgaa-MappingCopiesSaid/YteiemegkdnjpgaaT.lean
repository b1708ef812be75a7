/- The walk of MappingHolds. No condition. -/
import Derived.Test.YteiemegkdnjpgaaS
namespace Go.Proofs.Yteiemegkdnjpgaa
open Go.RowKit Go.Shelf
set_option linter.unusedVariables false
set_option maxHeartbeats 16000000
set_option maxRecDepth 100000
theorem ok_then {w W W' : World} {e : Ending} (h : Below w.heap.size w W) (k : OkB W e W') : OkB w e W' := ⟨k.1, h.trans (k.2.mono h.size)⟩
theorem new_ws {w W : World} {s b p : Nat} (hb : Below w.heap.size w W) (hF : Fits s b p []) : Calls Try.prog 8 #[.int .i64 (s : Int), .int .i64 (b : Int), .int .i64 (p : Int)] W fun e w' => ∃ bb m1 m2 g cap, e = .returned (.tuple #[.pointer (some ⟨bb, 0, none⟩), .int .i64 0]) ∧ WS w bb m1 m2 g cap s b p [] w' :=
  (New_ok s b p W hF).mono fun e w' ⟨bb, m1, m2, g, cap, h1, h2, h3⟩ => ⟨bb, m1, m2, g, cap, h1, h2.rebase hb.size, hb.trans (h3.mono hb.size)⟩
theorem holds_any (s b p : Int) (v : Value) (ls : List (List (Int × Int))) (w : World) (h : Lol w v ls) (hR : ∀ l ∈ ls, Rng l) : Calls Try.prog 7 #[.int .i64 s, .int .i64 b, .int .i64 p, v] w (OkB w) := by
  have HW := Lib.hid (fun W => works_any W)
  have HFW := Lib.hid (few_any v ls 30 w h (by omega))
  have HR := Lib.hid hR
  obtain ⟨A, c, rfl, hr⟩ := h
  have HL := Lib.hid hr
  clear hr hR
  by_cases hs : 30 < s
  · go_enter Try.func7, Try.ntmps7
    go_wp2_with ((go_at_call 12; with_reducible refine (HW.out _).mono ?_); rintro e w1 ⟨rfl, hb⟩; have HB := Lib.hid hb; clear hb)
    go_ret
    exact ⟨rfl, HB.out⟩
  by_cases hbk : 8 < b
  · go_enter Try.func7, Try.ntmps7
    go_wp2_with ((go_at_call 12; with_reducible refine (HW.out _).mono ?_); rintro e w1 ⟨rfl, hb⟩; have HB := Lib.hid hb; clear hb)
    go_ret
    exact ⟨rfl, HB.out⟩
  by_cases hpg : 8 < p
  · go_enter Try.func7, Try.ntmps7
    go_wp2_with ((go_at_call 12; with_reducible refine (HW.out _).mono ?_); rintro e w1 ⟨rfl, hb⟩; have HB := Lib.hid hb; clear hb)
    go_ret
    exact ⟨rfl, HB.out⟩
  cases hf : fewB ls 30
  · rw [hf] at HFW
    clear hf
    go_enter Try.func7, Try.ntmps7
    go_wp2_with (first
      | ((go_at_call 11; with_reducible refine HFW.out.mono ?_); rintro e w' ⟨rfl, rfl⟩)
      | ((go_at_call 12; with_reducible refine (HW.out _).mono ?_); rintro e w1 ⟨rfl, hb⟩; have HB := Lib.hid hb; clear hb))
    go_ret
    exact ⟨rfl, HB.out⟩
  obtain ⟨hl1, hl2⟩ := few_len hf
  have HL2 := Lib.hid hl2
  rw [hf] at HFW
  clear hf hl2
  cases hv : valB s b p
  · have HN := Lib.hid (New_bad s b p w hv)
    clear hv
    go_enter Try.func7, Try.ntmps7
    go_wp2_with (first
      | ((go_at_call 11; with_reducible refine HFW.out.mono ?_); rintro e w' ⟨rfl, rfl⟩)
      | ((go_at_call 8; with_reducible refine HN.out.mono ?_); rintro e w0 ⟨rfl, hb⟩; have HB0 := Lib.hid hb; clear hb)
      | ((go_at_call 10; with_reducible refine (num_any _ _).mono ?_); rintro e w' ⟨rfl, rfl⟩)
      | ((go_at_call 12; with_reducible refine (HW.out _).mono ?_); rintro e w1 hb; have HB := Lib.hid (ok_then HB0.out hb); obtain ⟨rfl, -⟩ := hb))
    go_ret
    exact ⟨rfl, HB.out.2⟩
  obtain ⟨s, b, p, rfl, rfl, rfl, hF⟩ := valB_nat hv
  have HN := Lib.hid (new_ws (w := w) (Below.refl _ _) hF)
  have HF := Lib.hid hF
  have hs2 : (s : Int) ≤ 30 := by omega
  have hb2 : (b : Int) ≤ 8 := by omega
  have hp2 : (p : Int) ≤ 8 := by omega
  have hs0 : 1 ≤ s := hF.hs.1
  have hb0 : 1 ≤ b := by have := hF.hb; omega
  clear hv hF
  go_enter Try.func7, Try.ntmps7
  go_wp2_with (first
    | ((go_at_call 11; with_reducible refine HFW.out.mono ?_); rintro e w' ⟨rfl, rfl⟩)
    | ((go_at_call 8; with_reducible refine HN.out.mono ?_); rintro e W0 ⟨bb, m1, m2, g, cap, rfl, hS⟩; have S0 := Lib.hid hS; clear hS)
    | ((go_at_call 10; with_reducible refine (num_any _ _).mono ?_); rintro e w' ⟨rfl, rfl⟩))
  go_loopw [11] (fun i wr => ∃ (k : Nat) (L : List (Int × Int)), k ≤ ls.length ∧ i = .int .i64 k ∧ Hid (WS w bb m1 m2 g cap s b p L wr)) (fun i _ => ls.length - (RowKit.intOf i).toNat)
  case atStart => exact ⟨0, _, Nat.zero_le _, rfl, S0⟩
  case round =>
    obtain ⟨k, L, hk, rfl, SK⟩ := hrel
    by_cases hlt : k < ls.length
    · obtain ⟨g', o, rfl, hg', hc⟩ := HL.out (by omega)
      obtain ⟨u, h1, h2⟩ := hc k hlt
      have c1 := (SK.out.bel.cell (p := ⟨g', o + k, none⟩) hg').trans h1
      have HAP := Lib.hid (ws_old SK.out h2 (by have := HL2.out _ (List.getElem_mem hlt); omega) (HR.out _ (List.getElem_mem hlt)))
      obtain ⟨A2, c2, rfl, _⟩ := h2.form
      clear h1 h2 hc
      generalize ls[k] = xs at *
      generalize xs.length = nx at *
      generalize appS s b p L L xs = L1 at *
      generalize appE s b p L xs = E1 at *
      go_wp2_with ((go_at_call 14; with_reducible refine HAP.out.mono ?_); rintro e W1 ⟨rfl, hS⟩; have S1 := Lib.hid hS; clear hS)
      have HF1 := Lib.hid S1.out.mg.fit
      have HLE := Lib.hid (show L1.length ≤ s from HF1.out.len)
      have z1 := cntS_zero HF1.out
      have z2 := cntL_zero HF1.out
      have HS0 := Lib.hid z1
      have HL0 := Lib.hid z2
      have hwm1 : 0 ≤ (b : Int) * p := Int.mul_nonneg (by omega) (by omega)
      have hwm2 : (b : Int) * p ≤ 2097152 := by have := HF1.out.n; rw [← Int.natCast_mul]; omega
      clear z1 z2 HAP
      go_loopw [14, 12] (fun i n wr => ∃ k1 : Nat, k1 ≤ s ∧ i = .int .i64 k1 ∧ n = .int .i64 (cntS L1 k1) ∧ Hid (WS w bb m1 m2 g cap s b p L1 wr)) (fun i _ _ => s - (RowKit.intOf i).toNat)
      case atStart => exact ⟨0, Nat.zero_le _, rfl, by rw [show ((0 : Nat) : Int) = 0 from rfl, HS0.out], S1⟩
      case round =>
        obtain ⟨k1, hk1, rfl, rfl, SB⟩ := hrel
        have hn1 := (cntS_le L1 (k1 : Int)).1
        have hn2 := (cntS_le L1 (k1 : Int)).2
        have HLE1 := HLE.out
        have HST := Lib.hid (cntS_step HF1.out.nd (k1 : Int))
        have HAL := Lib.hid (cntS_all HF1.out)
        by_cases hlt1 : k1 < s
        · have hli : (k1 : Int) < s := by omega
          cases hlk : look L1 (k1 : Int) with
          | none =>
            have HAT := Lib.hid (ws_at SB.out (k1 : Int) 0 false (by unfold I64; omega) (by rw [hlk]; rfl) (by rw [hlk]; rfl))
            have HS1 := Lib.hid (show cntS L1 ((k1 : Int) + 1) = cntS L1 (k1 : Int) by rw [HST.out, hlk]; simp)
            clear hlk
            go_wp2_with ((go_at_call 22; with_reducible refine HAT.out.mono ?_); rintro e W2 ⟨rfl, hS⟩; have S2 := Lib.hid hS; clear hS)
            go_roundw
            case rel => exact ⟨k1 + 1, by omega, by go_num, by rw [show (((k1 + 1 : Nat)) : Int) = (k1 : Int) + 1 by omega, HS1.out], S2⟩
            case measure => simp [RowKit.intOf]; omega
          | some pg =>
            have hrg := HF1.out.look_rng hlk
            have hfl := HF1.out.flip_iff.2 (look_mem hlk)
            have HAT := Lib.hid (ws_at SB.out (k1 : Int) pg true (by unfold I64; omega) (by rw [hlk]; rfl) (by rw [hlk]; rfl))
            have HS1 := Lib.hid (show cntS L1 ((k1 : Int) + 1) = cntS L1 (k1 : Int) + 1 by rw [HST.out, hlk]; simp)
            have HSE := Lib.hid (fun (W : World) (h : WS w bb m1 m2 g cap s b p L1 W) => ws_sec h pg (k1 : Int) true (by have := HF1.out.n; unfold I64; omega) (by rw [hfl]; rfl) (by rw [hfl]; rfl))
            have hp0 : ¬ pg < 0 := by omega
            have hp1 : ¬ (b : Int) * p ≤ pg := by have := hrg.2.2.2; rw [Int.natCast_mul] at this; omega
            have d0 : decide (pg < 0) = false := decide_eq_false hp0
            have d1 : decide ((b : Int) * p ≤ pg) = false := decide_eq_false hp1
            clear hlk hrg hfl
            generalize cntS L1 (k1 : Int) = nn at *
            go_wp2_with (first
              | ((go_at_call 22; with_reducible refine HAT.out.mono ?_); rintro e W2 ⟨rfl, hS⟩; have S2 := Lib.hid hS; clear hS)
              | ((go_at_call 23; with_reducible refine (HSE.out _ S2.out).mono ?_); rintro e W3 ⟨rfl, hS⟩; have S3 := Lib.hid hS; clear hS))
            go_roundw
            case rel => exact ⟨k1 + 1, by omega, by go_num, by rw [show (((k1 + 1 : Nat)) : Int) = (k1 : Int) + 1 by omega, HS1.out], S3⟩
            case measure => simp [RowKit.intOf]; omega
        · have hkl : k1 = s := by omega
          subst hkl
          have hal := HAL.out
          rw [hal]
          have HAL2 := Lib.hid hal
          clear hal hn1 hn2 HAL HST
          go_wp2
          go_loopw [19, 13] (fun i n wr => ∃ k2 : Nat, k2 ≤ b ∧ i = .int .i64 k2 ∧ n = .int .i64 (cntL p L1 k2) ∧ Hid (WS w bb m1 m2 g cap k1 b p L1 wr)) (fun i _ _ => b - (RowKit.intOf i).toNat)
          case atStart => exact ⟨0, Nat.zero_le _, rfl, by rw [show ((0 : Nat) : Int) = 0 from rfl, HL0.out], SB⟩
          case round =>
            obtain ⟨k2, hk2, rfl, rfl, SC⟩ := hrel
            by_cases hlt2 : k2 < b
            · have hli2 : (k2 : Int) < b := by omega
              have hm1 := (cntL_le p L1 (k2 : Int)).1
              have hm2 := (cntL_le p L1 (k2 : Int)).2
              have hc1 := cntB_nonneg (p := p) (L := L1) (k2 : Int)
              have hc2 := cntB_le (p := p) (L := L1) (k2 : Int)
              have HVA := Lib.hid (ws_valid SC.out (k2 : Int) (cntB p L1 k2) (valid_at hlt2))
              have HLS := Lib.hid (cntL_step p L1 (k2 : Int))
              generalize cntL p L1 (k2 : Int) = nn at *
              generalize cntB p L1 (k2 : Int) = cc at *
              go_wp2_with ((go_at_call 24; with_reducible refine HVA.out.mono ?_); rintro e W2 ⟨rfl, hS⟩; have S2 := Lib.hid hS; clear hS)
              go_roundw
              case rel => exact ⟨k2 + 1, by omega, by go_num, by rw [show (((k2 + 1 : Nat)) : Int) = (k2 : Int) + 1 by omega, HLS.out], S2⟩
              case measure => simp [RowKit.intOf]; omega
            · have hkl2 : k2 = b := by omega
              subst hkl2
              have hal2 := cntL_all HF1.out
              rw [hal2]
              have HCO := Lib.hid (ws_count SC.out (L1.length : Int) rfl)
              clear hal2
              generalize (L1.length : Int) = nl at *
              go_wp2_with ((go_at_call 25; with_reducible refine HCO.out.mono ?_); rintro e W2 ⟨rfl, hS⟩; have S2 := Lib.hid hS; clear hS)
              go_roundw
              case rel => exact ⟨k + 1, L1, by omega, by go_num, S2⟩
              case measure => simp [RowKit.intOf]; omega
    · have hkl : k = ls.length := by omega
      subst hkl
      go_wp2_with ((go_at_call 12; with_reducible refine (HW.out _).mono ?_); rintro e w1 hb; have HB := Lib.hid (ok_then SK.out.bel hb); obtain ⟨rfl, -⟩ := hb)
      go_ret
      exact HB.out
end Go.Proofs.Yteiemegkdnjpgaa
