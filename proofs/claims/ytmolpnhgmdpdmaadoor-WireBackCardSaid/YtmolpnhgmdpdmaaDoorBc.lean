/- WireBack's body: every walk through the function. Conditions stand in each theorem. -/
import Derived.Test.YtmolpnhgmdpdmaaDoorBe
import Derived.Deep.RegionLaw
namespace Go.Proofs.YtmolpnhgmdpdmaaDoor
open Go.RowKit
set_option linter.unusedVariables false
set_option maxHeartbeats 2000000

theorem ints_lt {k : IntKind} {w : World} {base n : Nat} {e : TypeId} {v : Value} {xs : List Value} (h : w.ownsRow base e 1 v n xs) : ∀ b, v.ownBlock = some b → b < w.heap.size := fun b hb => (h.lt b hb).2
set_option maxRecDepth 100000 in
theorem back_ok (fv : Value) (fs : List (Int × Int)) (v low width x bit : Int) (w : World) (hF : Fl w fv fs) (hfs : ∀ f ∈ fs, 0 ≤ f.1) (hlen : fs.length ≤ 50) (hk : chk 1048576 fs = 0)
    (hv : 0 ≤ v) (hv2 : v ≤ 18446744073709551615) (hw : width ≤ 9223372036854775807) (hx0 : 0 ≤ x) (hx2 : x ≤ 18446744073709551615) :
    Calls Tryd.prog 9 #[fv, .int .u64 v, .int .i64 low, .int .i64 width, .int .u64 x, .int .i64 bit] w fun e w' => e = .returned (.bool true) ∧ Below w.heap.size w w' := by
  have HI := Lib.hid (ins_cases v low width x hv hv2 hw hx0 hx2)
  have Hv := Lib.hid (And.intro hv hv2)
  clear hv hv2 hw hx0 hx2
  have HF := Lib.hid (show vals (flat fs) 0 (szs fs) = vls fs ∧ okAll (flat fs) 0 (szs fs) ∧ endp 0 (szs fs) = (flat fs).length from back_flat fs [] hfs (chk_each fs _ hk))
  obtain ⟨i3, hi3, hy0, hy1, hy2⟩ := info_parts int_info
  obtain ⟨i22, hi22, hz0, hz1, hz2⟩ := info_parts u64_info
  have hF0 := hF
  obtain ⟨A, c, rfl, hc, hr⟩ := hF
  have hF1 : Fl (w.alloc (.cells #[.slice none 0 0] 52)) (.slice A fs.length c) fs := by
    refine ⟨A, c, rfl, hc, fun h0 => ?_⟩
    obtain ⟨b, o, e, hb, hcell⟩ := hr h0
    have hbel := alloc_below w (.cells #[.slice none 0 0] 52)
    exact ⟨b, o, e, by simp; omega, fun j hj => ⟨(hbel.cell (by exact hb)).trans (hcell j hj).1, (hbel.cell (by exact hb)).trans (hcell j hj).2⟩⟩
  have Hr := Lib.hid hr; clear hr
  have Hadd := Lib.hid (AddAll_fits w.heap.size _ _ [] fs _ w (wr_new w) hF1 hF0 (Nat.le_refl _) (fun b hb => by simp [Value.ownBlock] at hb) hfs (by omega) (by simpa using hk))
  clear hF1 hF0 hfs hk
  go_enter Tryd.func9, Tryd.ntmps9
  go_wp2_with fail
  refine Hadd.out.mono ?_
  rintro e w1 ⟨rfl, v1, hw1, hc1, ha1⟩
  have HB1 := Lib.hid (show Below w.heap.size w w1 from (alloc_below w _).trans (hc1.below (by simp) (fun i hi => by rcases hi with rfl | hi; exact Nat.le_refl _; simp [Value.ownBlock] at hi)))
  rw [List.nil_append] at hw1
  have HW1 := Lib.hid hw1
  clear hw1 hc1 ha1 Hadd
  go_wp2
  go_loopw [14, 15, 16] (fun v14 v15 i wr => ∃ k : Nat, k ≤ fs.length ∧ i = .int .i64 k ∧ Hid (wr.ownsRow w1.heap.size 3 1 v14 k ((szs (fs.take k)).map (Value.int .i64))) ∧ Hid (wr.ownsRow w1.heap.size 22 1 v15 k ((vls (fs.take k)).map (Value.int .u64))) ∧ Hid (Below w1.heap.size w1 wr)) (fun _ _ i _ => fs.length - (intOf i).toNat)
  case atStart => exact ⟨0, Nat.zero_le _, rfl, World.ownsRow_nil _ _ _ _, World.ownsRow_nil _ _ _ _, Below.refl _ _⟩
  case round =>
    obtain ⟨k, hk, rfl, HO1, HO2, HB⟩ := hrel
    by_cases hlt : k < fs.length
    · obtain ⟨b, o, rfl, hb, hcell⟩ := Hr.out (by omega)
      have hb1 : b < w1.heap.size := Nat.lt_of_lt_of_le hb HB1.out.size
      have hck : wr.cell? ⟨b, o + k * 2, none⟩ = some (.int .u64 fs[k].1) := (HB.out.cell (by exact hb1)).trans ((HB1.out.cell (by exact hb)).trans (hcell k hlt).1)
      have hck1 : wr.cell? ⟨b, o + k * 2 + 1, none⟩ = some (.int .i64 fs[k].2) := (HB.out.cell (by exact hb1)).trans ((HB1.out.cell (by exact hb)).trans (hcell k hlt).2)
      have hbr : b < wr.heap.size := Nat.lt_of_lt_of_le hb1 HB.out.size
      have i0 : (0 : Int) ≤ k := by omega
      have i1 : (k : Int) < fs.length := by omega
      obtain ⟨X, hX⟩ : ∃ X, X = fs[k].1 := ⟨_, rfl⟩
      obtain ⟨Y, hY⟩ : ∃ Y, Y = fs[k].2 := ⟨_, rfl⟩
      rw [← hX] at hck
      rw [← hY] at hck1
      have HX := Lib.hid hX; have HY := Lib.hid hY
      have Hsz := Lib.hid (show w1.heap.size ≤ wr.heap.size from HB.out.size)
      have Hb1 := Lib.hid hb1
      clear hcell hX hY hb1 hb HI HF
      go_wp2
      go_region_law (first
         | (refine step_a rfl (.tmp 41) (.tmp 47) 65 rfl 3 .i64 i3 Tryd.underlying65 hi3 hy0 hy1 hy2 w1.heap.size u14 k (szs (fs.take k)) _ Y (by omega) rfl rfl ?_ ?_ ?_ ?_; (focus (refine Ext.own ?_ HO1.out; (repeat (first | exact Ext.refl _ | refine Ext.drew ?_ | refine Ext.alloc ?_ _)); done)); (focus (simp; done)); (focus (have hs0 := Hsz.out; simp; omega; done)); intro va wa hFa; have HP := Lib.hid (other_own (wr := wr) (by (repeat (first | exact Ext.refl _ | refine Ext.drew ?_ | refine Ext.alloc ?_ _))) HO1.out HO2.out (by decide) hFa.out); have HQ := Lib.hid (fun (B : Nat) (xx : Value) (hB : wr.heap.size ≤ B) hcc => other_cell (wr := wr) (B := B) (x := xx) (by (repeat (first | exact Ext.refl _ | refine Ext.drew ?_ | refine Ext.alloc ?_ _))) HO1.out hFa.out hB hcc); have HS := Lib.hid (Nat.le_trans (Nat.le_trans Hsz.out (by simp <;> omega)) hFa.out.grow.size); have hckn := keep_cell (wr := wr) (by (repeat (first | exact Ext.refl _ | refine Ext.drew ?_ | refine Ext.alloc ?_ _))) HO1.out hFa.out Hb1.out hck; have hbn := keep_lt (wr := wr) (by (repeat (first | exact Ext.refl _ | refine Ext.drew ?_ | refine Ext.alloc ?_ _))) hFa.out hbr)
         | (refine step_a rfl (.tmp 49) (.tmp 55) 72 rfl 22 .u64 i22 Tryd.underlying72 hi22 hz0 hz1 hz2 w1.heap.size u15 k (vls (fs.take k)) _ X (by omega) rfl rfl ?_ ?_ ?_ ?_; (focus (refine Ext.own ?_ HO2.out; (repeat (first | exact Ext.refl _ | refine Ext.drew ?_ | refine Ext.alloc ?_ _)); done)); (focus (simp; done)); (focus (have hs0 := Hsz.out; simp; omega; done)); intro vb wb hFb; have HP := Lib.hid (other_own (wr := wr) (by (repeat (first | exact Ext.refl _ | refine Ext.drew ?_ | refine Ext.alloc ?_ _))) HO2.out HO1.out (by decide) hFb.out); have HQ := Lib.hid (fun (B : Nat) (xx : Value) (hB : wr.heap.size ≤ B) hcc => other_cell (wr := wr) (B := B) (x := xx) (by (repeat (first | exact Ext.refl _ | refine Ext.drew ?_ | refine Ext.alloc ?_ _))) HO2.out hFb.out hB hcc); have HS := Lib.hid (Nat.le_trans (Nat.le_trans Hsz.out (by simp <;> omega)) hFb.out.grow.size); have hckn := keep_cell (wr := wr) (by (repeat (first | exact Ext.refl _ | refine Ext.drew ?_ | refine Ext.alloc ?_ _))) HO2.out hFb.out Hb1.out hck1; have hbn := keep_lt (wr := wr) (by (repeat (first | exact Ext.refl _ | refine Ext.drew ?_ | refine Ext.alloc ?_ _))) hFb.out hbr)
         | (refine step_a rfl (.tmp 41) (.tmp 47) 65 rfl 3 .i64 i3 Tryd.underlying65 hi3 hy0 hy1 hy2 w1.heap.size u14 k (szs (fs.take k)) _ Y (by omega) rfl rfl ?_ ?_ ?_ ?_; (focus (refine Ext.own ?_ HP.out; (repeat (first | exact Ext.refl _ | refine Ext.drew ?_ | refine Ext.alloc ?_ _)); done)); (focus (first | (simp; done) | (refine HQ.out _ _ ?_ ?_; (focus omega); simp; done) | (refine HQ.out _ _ ?_ ?_; (focus simp); simp; done); done)); (focus (have hs0 := HS.out; simp; omega; done)); intro va wa hSa)
         | (refine step_a rfl (.tmp 49) (.tmp 55) 72 rfl 22 .u64 i22 Tryd.underlying72 hi22 hz0 hz1 hz2 w1.heap.size u15 k (vls (fs.take k)) _ X (by omega) rfl rfl ?_ ?_ ?_ ?_; (focus (refine Ext.own ?_ HP.out; (repeat (first | exact Ext.refl _ | refine Ext.drew ?_ | refine Ext.alloc ?_ _)); done)); (focus (first | (simp; done) | (refine HQ.out _ _ ?_ ?_; (focus omega); simp; done) | (refine HQ.out _ _ ?_ ?_; (focus simp); simp; done); done)); (focus (have hs0 := HS.out; simp; omega; done)); intro vb wb hSb))
      all_goals first
        | (have hbo := both HB.out HO1.out HO2.out (by decide) (by (repeat (first | exact Ext.refl _ | refine Ext.drew ?_ | refine Ext.alloc ?_ _))) hFa.out (by (repeat (first | exact Ext.refl _ | refine Ext.drew ?_ | refine Ext.alloc ?_ _))) hSb.out
           rw [HX.out, HY.out, ← szs_take hlt, ← vls_take hlt] at hbo
           have H1 := Lib.hid hbo.1; have H2 := Lib.hid hbo.2.1; have H3 := Lib.hid hbo.2.2
           clear hbo hFa hSb HP HQ HS HO1 HO2 HB hckn hbn hck hck1
           go_wp2
           go_roundw
           case rel => exact ⟨k + 1, hlt, by go_num, H1, H2, H3⟩
           case measure => simp [intOf]; omega)
        | (have hbo := both HB.out HO2.out HO1.out (by decide) (by (repeat (first | exact Ext.refl _ | refine Ext.drew ?_ | refine Ext.alloc ?_ _))) hFb.out (by (repeat (first | exact Ext.refl _ | refine Ext.drew ?_ | refine Ext.alloc ?_ _))) hSa.out
           rw [HX.out, HY.out, ← szs_take hlt, ← vls_take hlt] at hbo
           have H1 := Lib.hid hbo.2.1; have H2 := Lib.hid hbo.1; have H3 := Lib.hid hbo.2.2
           clear hbo hFb hSa HP HQ HS HO1 HO2 HB hckn hbn hck hck1
           go_wp2
           go_roundw
           case rel => exact ⟨k + 1, hlt, by go_num, H1, H2, H3⟩
           case measure => simp [intOf]; omega)
    · have He := Lib.hid (show k = fs.length by omega)
      have hO1 := HO1.out; have hO2 := HO2.out
      rw [He.out, List.take_length] at hO1 hO2
      have HI1 := Lib.hid (Ints.of_own hO1); have HI2 := Lib.hid (Ints.of_own hO2); have HL1 := Lib.hid (ints_lt (k := .i64) hO1)
      have HL2 := Lib.hid (show (szs fs).length = fs.length ∧ (vls fs).length = fs.length from ⟨by simp [szs], by simp [vls]⟩)
      clear hO1 hO2 HO1 HO2 Hr
      go_wp2_with fail
      refine (Bytes_any _ v1 _ _ (HW1.out.below HB.out)).mono ?_
      rintro e w2 ⟨⟨b2, rfl, ho⟩, hb2⟩
      have HO := Lib.hid (Byt.of_own ho); have HB2 := Lib.hid hb2; clear ho hb2
      go_wp2_with fail
      refine (NewReader_any b2 _ _ HO.out (Nat.le_trans HW1.out.le (by decide))).mono ?_
      rintro e w3 ⟨⟨g, vd, rfl, hg, hvd, hrd⟩, hb3⟩
      have Hg := Lib.hid (show wr.heap.size ≤ g from Nat.le_trans HB2.out.size hg)
      have HR := Lib.hid hrd
      have HB3 := Lib.hid (show Below wr.heap.size wr w3 from HB2.out.trans (hb3.mono HB2.out.size))
      clear hg hvd hrd hb3 HB2 HO
      go_wp2_with fail
      refine (All_ok g vd _ _ 0 (szs fs) _ HR.out (HI1.out.below HB3.out) (fun b hb => Nat.lt_of_lt_of_le (HL1.out b hb) HB3.out.size) HF.out.2.1 (by rw [HL2.out.1]; omega) (Nat.le_of_eq HF.out.2.2)).mono ?_
      rintro e w4 ⟨⟨v4, rfl, hi4⟩, hrd, hch⟩
      rw [HF.out.1] at hi4
      rw [HF.out.2.2] at hrd
      have HB4 := Lib.hid (show Below wr.heap.size wr w4 from HB3.out.trans (hch.below HB3.out.size (fun i hi => by have := Hg.out; omega)))
      have HI4 := Lib.hid hi4; have HR4 := Lib.hid hrd
      clear hi4 hrd hch HB3 HR HI1 HL1
      go_wp2_with fail
      refine (SameWords_eq v4 _ (vls fs) _ HI4.out (HI2.out.below HB4.out) (by rw [HL2.out.2]; omega)).mono ?_
      rintro e w5 ⟨rfl, hb5⟩
      have HR5 := Lib.hid (HR4.out.below hb5)
      have HB5 := Lib.hid (show Below wr.heap.size wr w5 from HB4.out.trans (hb5.mono HB4.out.size))
      clear hb5 HB4 HI4 HI2 HR4
      have hlf := Left_any g vd _ _ w5 HR5.out
      rw [Int.sub_self] at hlf
      have Hlf := Lib.hid hlf; clear hlf HR5
      go_wp2_with fail
      refine Hlf.out.mono ?_
      rintro e w6 ⟨rfl, n6, rfl⟩
      have Hb := Lib.hid (show Below w.heap.size w (w5.drewN n6) from below_drewN (HB1.out.trans ((HB.out.mono HB1.out.size).trans (HB5.out.mono (Nat.le_trans HB1.out.size HB.out.size)))) n6)
      clear HB5 Hlf HB HB1 HF HL2 Hg HW1 He
      go_wp2_with fail
      refine (Put8 v _ Hv.out.1 Hv.out.2).mono ?_
      rintro e wp ⟨pv, rfl, hB, hb⟩
      have HB := Lib.hid hB; clear hB
      replace Hb := Lib.hid (Hb.out.trans (hb.mono Hb.out.size)); clear hb
      go_wp2_with fail
      refine (Get8 v pv _ Hv.out.1 Hv.out.2 HB.out).mono ?_
      rintro e wg ⟨rfl, rfl⟩
      clear HB
      rcases HI.out with ⟨E, hE, hins⟩ | ⟨Y, hl0, hw1, hlw, hins, hfld, hbit⟩
      · have Hins := Lib.hid hins; clear hins HI
        rcases hE with rfl | rfl
        · go_wp2_with fail
          refine (Hins.out _).mono ?_
          rintro e wi ⟨rfl, rfl⟩
          go_wp2_with fail
          refine (known_any _).mono ?_
          rintro e wk ⟨rfl, hb⟩
          replace Hb := Lib.hid (Hb.out.trans (hb.mono Hb.out.size)); clear hb
          go_wp2
          go_ret
          exact ⟨rfl, Hb.out⟩
        · go_wp2_with fail
          refine (Hins.out _).mono ?_
          rintro e wi ⟨rfl, rfl⟩
          go_wp2_with fail
          refine (known_any _).mono ?_
          rintro e wk ⟨rfl, hb⟩
          replace Hb := Lib.hid (Hb.out.trans (hb.mono Hb.out.size)); clear hb
          go_wp2
          go_ret
          exact ⟨rfl, Hb.out⟩
      · have Hins := Lib.hid hins; have Hfld := Lib.hid hfld; have Hbit := Lib.hid hbit; clear hins hfld hbit HI
        go_wp2_with fail
        refine (Hins.out _).mono ?_
        rintro e wi ⟨rfl, hb⟩
        replace Hb := Lib.hid (Hb.out.trans (hb.mono Hb.out.size)); clear hb
        go_wp2_with fail
        refine (Hfld.out _).mono ?_
        rintro e wf ⟨rfl, hb⟩
        replace Hb := Lib.hid (Hb.out.trans (hb.mono Hb.out.size)); clear hb
        clear Hins Hfld
        by_cases hb0 : bit < 0
        · clear Hbit
          go_wp2_with fail
          refine (known_any _).mono ?_
          rintro e wk ⟨rfl, hb⟩
          replace Hb := Lib.hid (Hb.out.trans (hb.mono Hb.out.size)); clear hb
          go_wp2
          go_ret
          exact ⟨rfl, Hb.out⟩
        · have hb0' : 0 ≤ bit := by omega
          clear hb0
          by_cases hb63 : 63 < bit
          · clear Hbit
            go_wp2_with fail
            refine (known_any _).mono ?_
            rintro e wk ⟨rfl, hb⟩
            replace Hb := Lib.hid (Hb.out.trans (hb.mono Hb.out.size)); clear hb
            go_wp2
            go_ret
            exact ⟨rfl, Hb.out⟩
          · obtain ⟨T, rfl⟩ := Int.eq_ofNat_of_zero_le hb0'
            have hb63' : (T : Int) ≤ 63 := by omega
            clear hb63
            by_cases hin : low ≤ T
            · by_cases hin2 : (T : Int) < low + width
              · clear Hbit
                go_wp2_with fail
                refine (known_any _).mono ?_
                rintro e wk ⟨rfl, hb⟩
                replace Hb := Lib.hid (Hb.out.trans (hb.mono Hb.out.size)); clear hb
                go_wp2
                go_ret
                exact ⟨rfl, Hb.out⟩
              · have hin2' : low + width ≤ T := by omega
                have hq := Hbit.out T (by omega) (by omega)
                have hd : decide (bits .and .u64 (v / 2 ^ T) 1 = bits .and .u64 (Y / 2 ^ T) 1) = true := decide_eq_true hq
                have hd2 : (bits .and .u64 (v / 2 ^ T) 1 == bits .and .u64 (Y / 2 ^ T) 1) = true := beq_iff_eq.2 hq
                clear Hbit hin2
                go_wp2
                go_region_with (go_at_call 14; refine (known_any _).mono ?_; rintro e wk ⟨rfl, hb⟩; replace Hb := Lib.hid (below_known Hb.out hb); clear hb)
                all_goals (go_wp2; go_ret; exact ⟨rfl, Hb.out⟩)
            · have hin' : (T : Int) < low := by omega
              have hq := Hbit.out T (by omega) (by omega)
              have hd : decide (bits .and .u64 (v / 2 ^ T) 1 = bits .and .u64 (Y / 2 ^ T) 1) = true := decide_eq_true hq
              have hd2 : (bits .and .u64 (v / 2 ^ T) 1 == bits .and .u64 (Y / 2 ^ T) 1) = true := beq_iff_eq.2 hq
              clear Hbit hin
              go_wp2
              go_region_with (go_at_call 14; refine (known_any _).mono ?_; rintro e wk ⟨rfl, hb⟩; replace Hb := Lib.hid (below_known Hb.out hb); clear hb)
              all_goals (go_wp2; go_ret; exact ⟨rfl, Hb.out⟩)
end Go.Proofs.YtmolpnhgmdpdmaaDoor
