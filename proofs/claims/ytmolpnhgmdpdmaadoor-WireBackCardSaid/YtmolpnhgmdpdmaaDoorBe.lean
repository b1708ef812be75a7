/- WireBack's body: every walk through the function. Conditions stand in each theorem. -/
import Derived.Test.YtmolpnhgmdpdmaaDoorBm
import Derived.Deep.RegionWith
namespace Go.Proofs.YtmolpnhgmdpdmaaDoor
open Go.RowKit
set_option linter.unusedVariables false
set_option maxHeartbeats 2000000
theorem below_known {a w w' : World} (h : Below a.heap.size a w) (h' : Below w.drew.heap.size w.drew w') : Below a.heap.size a w' :=
  Below.trans (b := w.drew) ⟨h.os, h.tape, h.output, h.size, h.block⟩ (h'.mono h.size)

set_option maxRecDepth 100000 in
theorem back_err (fv : Value) (fs : List (Int × Int)) (v low width x bit : Int) (w : World) (hF : Fl w fv fs) (hlen : fs.length ≤ 50) (hk : chk 1048576 fs ≠ 0)
    (hv : 0 ≤ v) (hv2 : v ≤ 18446744073709551615) (hw : width ≤ 9223372036854775807) (hx0 : 0 ≤ x) (hx2 : x ≤ 18446744073709551615) :
    Calls Tryd.prog 9 #[fv, .int .u64 v, .int .i64 low, .int .i64 width, .int .u64 x, .int .i64 bit] w fun e w' => e = .returned (.bool true) ∧ Below w.heap.size w w' := by
  have HI := Lib.hid (ins_cases v low width x hv hv2 hw hx0 hx2)
  have Hv := Lib.hid (And.intro hv hv2)
  clear hv hv2 hw hx0 hx2
  obtain ⟨A, c, rfl, hc, hr⟩ := hF
  have hF1 : Fl (w.alloc (.cells #[.slice none 0 0] 52)) (.slice A fs.length c) fs := by
    refine ⟨A, c, rfl, hc, fun h0 => ?_⟩
    obtain ⟨b, o, e, hb, hcell⟩ := hr h0
    have hbel := alloc_below w (.cells #[.slice none 0 0] 52)
    exact ⟨b, o, e, by simp; omega, fun j hj => ⟨(hbel.cell (by exact hb)).trans (hcell j hj).1, (hbel.cell (by exact hb)).trans (hcell j hj).2⟩⟩
  clear hr
  have hadd := AddAll_err w.heap.size _ _ [] fs _ (wr_new w) hF1 (by omega) (by simpa using hk)
  have hke : chk (1048576 - (([] : List UInt8).length : Int)) fs = chk 1048576 fs := by simp
  rw [hke] at hadd
  obtain ⟨E0, hE0⟩ : ∃ E0, E0 = chk 1048576 fs := ⟨_, rfl⟩
  rw [← hE0] at hadd hk
  have Hadd := Lib.hid hadd; clear hadd hF1 hE0 hke
  go_enter Tryd.func9, Tryd.ntmps9
  go_wp2_with fail
  refine Hadd.out.mono ?_
  rintro e w1 ⟨rfl, hb⟩
  have Hb := Lib.hid (show Below w.heap.size w w1 from (alloc_below w _).trans (hb.mono (by simp)))
  clear hb Hadd
  go_wp2_with fail
  refine (Put8 v _ Hv.out.1 Hv.out.2).mono ?_
  rintro e wp ⟨pv, rfl, hB, hb⟩
  have HB := Lib.hid hB; clear hB
  replace Hb := Lib.hid (Hb.out.trans (hb.mono Hb.out.size)); clear hb
  go_wp2_with fail
  refine (Get8 v pv _ Hv.out.1 Hv.out.2 HB.out).mono ?_
  rintro e wg ⟨rfl, rfl⟩
  clear HB
  rcases HI.out with ⟨E, hE, hins⟩ | ⟨Y, hl0, hw1, hlw, hins, hfld, hbit⟩
  · have Hins := Lib.hid hins; clear hins HI
    rcases hE with rfl | rfl
    · go_wp2_with fail
      refine (Hins.out _).mono ?_
      rintro e wi ⟨rfl, rfl⟩
      go_wp2_with fail
      refine (known_any _).mono ?_
      rintro e wk ⟨rfl, hb⟩
      replace Hb := Lib.hid (Hb.out.trans (hb.mono Hb.out.size)); clear hb
      go_wp2
      go_ret
      exact ⟨rfl, Hb.out⟩
    · go_wp2_with fail
      refine (Hins.out _).mono ?_
      rintro e wi ⟨rfl, rfl⟩
      go_wp2_with fail
      refine (known_any _).mono ?_
      rintro e wk ⟨rfl, hb⟩
      replace Hb := Lib.hid (Hb.out.trans (hb.mono Hb.out.size)); clear hb
      go_wp2
      go_ret
      exact ⟨rfl, Hb.out⟩
  · have Hins := Lib.hid hins; have Hfld := Lib.hid hfld; have Hbit := Lib.hid hbit; clear hins hfld hbit HI
    go_wp2_with fail
    refine (Hins.out _).mono ?_
    rintro e wi ⟨rfl, hb⟩
    replace Hb := Lib.hid (Hb.out.trans (hb.mono Hb.out.size)); clear hb
    go_wp2_with fail
    refine (Hfld.out _).mono ?_
    rintro e wf ⟨rfl, hb⟩
    replace Hb := Lib.hid (Hb.out.trans (hb.mono Hb.out.size)); clear hb
    clear Hins Hfld
    by_cases hb0 : bit < 0
    · clear Hbit
      go_wp2_with fail
      refine (known_any _).mono ?_
      rintro e wk ⟨rfl, hb⟩
      replace Hb := Lib.hid (Hb.out.trans (hb.mono Hb.out.size)); clear hb
      go_wp2
      go_ret
      exact ⟨rfl, Hb.out⟩
    · have hb0' : 0 ≤ bit := by omega
      clear hb0
      by_cases hb63 : 63 < bit
      · clear Hbit
        go_wp2_with fail
        refine (known_any _).mono ?_
        rintro e wk ⟨rfl, hb⟩
        replace Hb := Lib.hid (Hb.out.trans (hb.mono Hb.out.size)); clear hb
        go_wp2
        go_ret
        exact ⟨rfl, Hb.out⟩
      · obtain ⟨T, rfl⟩ := Int.eq_ofNat_of_zero_le hb0'
        have hb63' : (T : Int) ≤ 63 := by omega
        clear hb63
        by_cases hin : low ≤ T
        · by_cases hin2 : (T : Int) < low + width
          · clear Hbit
            go_wp2_with fail
            refine (known_any _).mono ?_
            rintro e wk ⟨rfl, hb⟩
            replace Hb := Lib.hid (Hb.out.trans (hb.mono Hb.out.size)); clear hb
            go_wp2
            go_ret
            exact ⟨rfl, Hb.out⟩
          · have hin2' : low + width ≤ T := by omega
            have hq := Hbit.out T (by omega) (by omega)
            have hd : decide (bits .and .u64 (v / 2 ^ T) 1 = bits .and .u64 (Y / 2 ^ T) 1) = true := decide_eq_true hq
            have hd2 : (bits .and .u64 (v / 2 ^ T) 1 == bits .and .u64 (Y / 2 ^ T) 1) = true := beq_iff_eq.2 hq
            clear Hbit hin2
            go_wp2
            go_region_with (go_at_call 14; refine (known_any _).mono ?_; rintro e wk ⟨rfl, hb⟩; replace Hb := Lib.hid (below_known Hb.out hb); clear hb)
            all_goals (go_wp2; go_ret; exact ⟨rfl, Hb.out⟩)
        · have hin' : (T : Int) < low := by omega
          have hq := Hbit.out T (by omega) (by omega)
          have hd : decide (bits .and .u64 (v / 2 ^ T) 1 = bits .and .u64 (Y / 2 ^ T) 1) = true := decide_eq_true hq
          have hd2 : (bits .and .u64 (v / 2 ^ T) 1 == bits .and .u64 (Y / 2 ^ T) 1) = true := beq_iff_eq.2 hq
          clear Hbit hin
          go_wp2
          go_region_with (go_at_call 14; refine (known_any _).mono ?_; rintro e wk ⟨rfl, hb⟩; replace Hb := Lib.hid (below_known Hb.out hb); clear hb)
          all_goals (go_wp2; go_ret; exact ⟨rfl, Hb.out⟩)
end Go.Proofs.YtmolpnhgmdpdmaaDoor
