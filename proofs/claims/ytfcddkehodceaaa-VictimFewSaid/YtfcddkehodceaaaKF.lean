/- The walk of VictimFew. No condition on the arguments. -/
import Derived.Test.YtfcddkehodceaaaK
namespace Go.Proofs.Ytfcddkehodceaaa
open Go.RowKit
set_option linter.unusedVariables false
set_option maxHeartbeats 8000000
set_option maxRecDepth 100000
theorem few_any (v0 : Value) (ws : List Int) (p a : Int) (w : World) (hv : Ints w v0 ws) : Calls Try.prog 6 #[v0, .int .i64 p, .int .i64 a] w (RetB w (.bool true)) := by
  obtain ⟨A, c, rfl, hA⟩ := hv
  have HA := Lib.hid hA
  have HWK := Lib.hid works_any
  clear hA
  by_cases h1 : 30 < ws.length
  · have h1z : (30 : Int) < (ws.length : Int) := by omega
    go_enter Try.func6, Try.ntmps6
    go_wp2_with ((go_at_call 13; (with_reducible refine (HWK.out _).mono ?_)); rintro e w2 ⟨rfl, hb2⟩; have HB2 := Lib.hid hb2; clear hb2)
    go_ret
    exact ⟨rfl, HB2.out⟩
  have h1z : (ws.length : Int) ≤ 30 := by omega
  by_cases h2 : p < 1
  · go_enter Try.func6, Try.ntmps6
    go_wp2_with ((go_at_call 13; (with_reducible refine (HWK.out _).mono ?_)); rintro e w2 ⟨rfl, hb2⟩; have HB2 := Lib.hid hb2; clear hb2)
    go_ret
    exact ⟨rfl, HB2.out⟩
  by_cases h3 : 512 < p
  · go_enter Try.func6, Try.ntmps6
    go_wp2_with ((go_at_call 13; (with_reducible refine (HWK.out _).mono ?_)); rintro e w2 ⟨rfl, hb2⟩; have HB2 := Lib.hid hb2; clear hb2)
    go_ret
    exact ⟨rfl, HB2.out⟩
  by_cases h4 : a < 0
  · go_enter Try.func6, Try.ntmps6
    go_wp2_with ((go_at_call 13; (with_reducible refine (HWK.out _).mono ?_)); rintro e w2 ⟨rfl, hb2⟩; have HB2 := Lib.hid hb2; clear hb2)
    go_ret
    exact ⟨rfl, HB2.out⟩
  by_cases h5 : 1099511627776 < a
  · go_enter Try.func6, Try.ntmps6
    go_wp2_with ((go_at_call 13; (with_reducible refine (HWK.out _).mono ?_)); rintro e w2 ⟨rfl, hb2⟩; have HB2 := Lib.hid hb2; clear hb2)
    go_ret
    exact ⟨rfl, HB2.out⟩
  go_enter Try.func6, Try.ntmps6
  go_wp2
  go_loopw [7, 8, 9] (fun lst v i wr => ∃ k : Nat, k ≤ ws.length ∧ i = .int .i64 k ∧ lst = .int .i64 (leastK ws p k) ∧ Hid (wr.ownsRow w.heap.size 23 4 v k ((fewL ws p a k).flatMap Cd.cells)) ∧ Hid (Below w.heap.size w wr) ∧ Hid (∀ i (h : i < ws.length), i < k → 0 ≤ ws[i] ∧ ws[i] ≤ p)) (fun lst v i _ => ws.length - (RowKit.intOf i).toNat)
  case atStart => exact ⟨0, Nat.zero_le _, rfl, by simp [leastK], World.ownsRow_nil _ _ _ _, Below.refl _ _, fun i h h2 => absurd h2 (by omega)⟩
  case round =>
    obtain ⟨k, hk, rfl, rfl, HO, HB, HV⟩ := hrel
    have hkz : (k : Int) ≤ (ws.length : Int) := by omega
    by_cases hlt : k < ws.length
    · have hltz : (k : Int) < (ws.length : Int) := by omega
      obtain ⟨g, o, rfl, hg, hc⟩ := HA.out (by omega)
      have hck := (HB.out.cell (p := ⟨g, o + k, none⟩) hg).trans (hc k hlt)
      have hL := leastK_succ ws p k hlt
      have hF := fewL_succ ws p a k hlt
      have hV2 : (0 ≤ ws[k] ∧ ws[k] ≤ p) → ∀ i (h : i < ws.length), i < k + 1 → 0 ≤ ws[i] ∧ ws[i] ≤ p := fun hx i h h2 => by
        by_cases hik : i < k
        · exact HV.out i h hik
        · obtain rfl : i = k := by omega
          exact hx
      have HL := Lib.hid hL
      have HF := Lib.hid hF
      have HV2 := Lib.hid hV2
      clear hc hL hF hV2
      generalize ws[k] = x at *
      by_cases hx : x < 0
      · go_wp2_with ((go_at_call 13; (with_reducible refine (HWK.out _).mono ?_)); rintro e w2 ⟨rfl, hb2⟩; have HB2 := Lib.hid hb2; clear hb2)
        go_ret
        exact ⟨rfl, HB.out.trans (HB2.out.mono HB.out.size)⟩
      by_cases hx2 : p < x
      · go_wp2_with ((go_at_call 13; (with_reducible refine (HWK.out _).mono ?_)); rintro e w2 ⟨rfl, hb2⟩; have HB2 := Lib.hid hb2; clear hb2)
        go_ret
        exact ⟨rfl, HB.out.trans (HB2.out.mono HB.out.size)⟩
      have hlen : (fewL ws p a k).length = k := fewL_len ws p a k hk
      have hO2 := HO.out
      rw [show wr.ownsRow w.heap.size 23 4 u8 k ((fewL ws p a k).flatMap Cd.cells) = wr.ownsRow w.heap.size 23 4 u8 (fewL ws p a k).length ((fewL ws p a k).flatMap Cd.cells) by rw [hlen]] at hO2
      obtain ⟨v3, w3, hrun, ho3, hb3⟩ := app4 (c := ⟨(k : Int), x, p, a⟩) hO2 HB.out.size (by omega)
      rw [← HF.out, hlen] at ho3
      have HRUN := Lib.hid hrun
      have HO3 := Lib.hid ho3
      have HB3 := Lib.hid (HB.out.trans hb3)
      have HX : Hid (0 ≤ x ∧ x ≤ p) := by constructor <;> omega
      clear hrun ho3 hb3 hO2 hlen
      go_wp2_with (at_builtin; refine Lib.wpList_append_run _ rfl (.tmp 59) (.tmp 68) 33 33 rfl _ _ rfl rfl v3 w3 HRUN.out ?_)
      go_roundw
      case rel => exact ⟨k + 1, by omega, by go_num, by rw [HL.out], HO3, HB3, HV2.out HX.out⟩
      case measure => simp [RowKit.intOf]; omega
    · have hkl : k = ws.length := by omega
      subst hkl
      obtain ⟨hln, hcs⟩ := Cs_of_own HO.out
      have hcs0 := hcs
      have hll := fewL_len ws p a ws.length (Nat.le_refl _)
      have HCH := Lib.hid (Choose_any wr _ _ hcs (by omega))
      have HM : Hid (∀ D : List Rk, D.Perm (rankR (fewL ws p a ws.length)) → D.Pairwise Qr → _) := fun D h h' => few_math (by omega) (by omega) (by omega) (by omega) (fun i h => HV.out i h h) h h'
      obtain ⟨A2, c2, rfl, -⟩ := hcs0
      rw [hll]
      rw [hll] at HCH
      generalize leastK ws p ws.length = m at *
      unfold ChPost at HCH
      generalize fewL ws p a ws.length = L at *
      clear hcs hll hln HO
      have hA' : ∀ i (h : i < ws.length), ∃ g o, A = some ⟨g, o, none⟩ ∧ wr.cell? ⟨g, o + i, none⟩ = some (.int .i64 ws[i]) ∧ g < wr.heap.size := fun i h => by
        obtain ⟨g, o, e, hg, hc⟩ := HA.out (by omega)
        exact ⟨g, o, e, (HB.out.cell (p := ⟨g, o + i, none⟩) hg).trans (hc i h), Nat.lt_of_lt_of_le hg HB.out.size⟩
      have HA2 := Lib.hid hA'
      clear hA'
      by_cases hm : m = p
      · go_wp2_with (first
          | ((go_at_call 14; (with_reducible refine HCH.out.mono ?_)); rintro e w2 ⟨hb2, D, hD, hq, rfl⟩; have HB2 := Lib.hid hb2; have hce := (HM.out D hD hq).1 hm; rw [hce]; clear hb2 hce)
          | ((go_at_call 13; (with_reducible refine (HWK.out _).mono ?_)); rintro e w3 ⟨rfl, hb3⟩; have HB3 := Lib.hid hb3; clear hb3))
        go_ret
        exact ⟨rfl, HB.out.trans ((HB2.out.trans (HB3.out.mono HB2.out.size)).mono HB.out.size)⟩
      · go_upto_region 13 with ((go_at_call 14; (with_reducible refine HCH.out.mono ?_)); rintro e w2 ⟨hb2, D, hD, hq, rfl⟩; have HB2 := Lib.hid hb2; obtain ⟨hce, i, hi, hki, hor⟩ := (HM.out D hD hq).2 hm; rw [hce, hki]; clear hb2 hce hki)
        obtain ⟨g, o, rfl, hc, hg⟩ := HA2.out i hi
        have hc2 := (HB2.out.cell (p := ⟨g, o + i, none⟩) hg).trans hc
        have hiz : (i : Int) < (ws.length : Int) := by omega
        have HOR := Lib.hid hor
        clear hc hor hD hq
        generalize ws[i] = x at *
        have hN : ∀ W, Calls Try.prog 10 #[.int .i64 0] W (RetB W (.int .i64 0)) := fun W => retB_of (num_any 0 W)
        have HN := Lib.hid hN
        clear hN
        by_cases hx : x = m
        · go_wp2_with (first
            | ((go_at_call 10; (with_reducible refine (HN.out _).mono ?_)); rintro e w3 ⟨rfl, hb3⟩; have hc3 := (hb3.cell (p := ⟨g, o + i, none⟩) (World.block_lt_of_cell? _ _ hc2)).trans hc2; have HB3 := Lib.hid hb3; clear hb3)
            | ((go_at_call 13; (with_reducible refine (HWK.out _).mono ?_)); rintro e w4 ⟨rfl, hb4⟩; have HB4 := Lib.hid hb4; clear hb4))
          go_ret
          exact ⟨by simp, HB.out.trans (((HB2.out.trans ((HB3.out.trans (HB4.out.mono HB3.out.size)).mono HB2.out.size))).mono HB.out.size)⟩
        · obtain ⟨ha0, hm0⟩ := HOR.out.resolve_left hx
          go_wp2_with (first
            | ((go_at_call 10; (with_reducible refine (HN.out _).mono ?_)); rintro e w3 ⟨rfl, hb3⟩; have hc3 := (hb3.cell (p := ⟨g, o + i, none⟩) (World.block_lt_of_cell? _ _ hc2)).trans hc2; have HB3 := Lib.hid hb3; clear hb3)
            | ((go_at_call 13; (with_reducible refine (HWK.out _).mono ?_)); rintro e w4 ⟨rfl, hb4⟩; have HB4 := Lib.hid hb4; clear hb4))
          go_ret
          exact ⟨by simp, HB.out.trans (((HB2.out.trans ((HB3.out.trans (HB4.out.mono HB3.out.size)).mono HB2.out.size))).mono HB.out.size)⟩
end Go.Proofs.Ytfcddkehodceaaa
