/- The walk of JournalEncodes. No condition on the arguments. -/
import Derived.Test.YtajlddgemkkcdaaOP
namespace Go.Proofs.Ytajlddgemkkcdaa
open Go.RowKit
set_option linter.unusedVariables false
set_option maxHeartbeats 8000000
set_option maxRecDepth 100000
theorem encodes_any (n : Int) (v : Value) (l : List (Int × Int)) (w : World) (hv : Ent w v l) : Calls Try.prog 3 #[.int .i64 n, v] w (LawPost w) := by
  have HWK := Lib.hid works_any
  have hve := hv
  obtain ⟨A, c, rfl, hc, hr⟩ := hv
  clear hc hr
  by_cases h1 : 60 < l.length
  · have h1z : (60 : Int) < (l.length : Int) := by omega
    clear hve
    go_enter Try.func3, Try.ntmps3
    go_wp2_with ((go_at_call 7; (with_reducible refine (HWK.out _).mono ?_)); rintro e w2 ⟨rfl, hb2⟩; have HB2 := Lib.hid hb2; clear hb2)
    go_ret
    exact ⟨rfl, HB2.out⟩
  have h1z : (l.length : Int) ≤ 60 := by omega
  by_cases h2 : 1000 < n ∧ 2 < l.length
  · obtain ⟨h2a, h2b⟩ := h2
    have h2z : (2 : Int) < (l.length : Int) := by omega
    clear hve
    go_enter Try.func3, Try.ntmps3
    go_wp2_with ((go_at_call 7; (with_reducible refine (HWK.out _).mono ?_)); rintro e w2 ⟨rfl, hb2⟩; have HB2 := Lib.hid hb2; clear hb2)
    go_ret
    exact ⟨rfl, HB2.out⟩
  have HE := Lib.hid (encode_any n _ l w hve (by omega))
  have HRE := Lib.hid (fun W (hW : Below w.heap.size w W) => rencode_any n _ l W (hve.below hW) (by omega))
  have HC := Lib.hid (fun W => cap_any n W)
  have HRC := Lib.hid (fun W => rcap_any n W)
  have HP := Lib.hid (fun W => pages_any n (l.length : Int) (by unfold I64; omega) W)
  have HRP := Lib.hid (fun W => rpages_any n (l.length : Int) (by unfold I64; omega) W)
  have HPN : Hid (∀ W, Calls Try.prog 13 #[.int .i64 n, .int .i64 (-1)] W (Ret W (.int .i64 0))) := Lib.hid (fun W => by
    have := pages_any n (-1) (by unfold I64; omega) W
    have e : pgsF n (-1) = 0 := by unfold pgsF; rw [if_pos (.inr (by omega))]
    rwa [e] at this)
  have HST := Lib.hid (fun (W : World) (v : Value) (b : List UInt8) (h : Byt W v b) => run_string (P := Try.prog) 24 9 5 Try.underlying24 Try.underlying5 Try.underlying9 h)
  generalize encL n l = bs at *
  generalize encE n l = ee at *
  generalize capF n = cf at *
  generalize pgsF n (l.length : Int) = pf at *
  clear hve
  by_cases h3 : 1000 < n
  · have h3l : ¬ 2 < l.length := fun h => h2 ⟨h3, h⟩
    have h3z : (l.length : Int) ≤ 2 := by omega
    clear h2
    go_enter Try.func3, Try.ntmps3
    go_upto_region 5 with (first
      | ((go_at_call 8; with_reducible refine HE.out.mono ?_); rintro e w1 ⟨⟨va, rfl, ho⟩, hb⟩; have HA := Lib.hid (Byt.of_own ho); have HB1 := Lib.hid hb; clear ho hb)
      | ((go_at_call 9; with_reducible refine (HRE.out _ HB1.out).mono ?_); rintro e w2 ⟨⟨vb, rfl, hbb⟩, hb⟩; have HBB := Lib.hid hbb; have HB2 := Lib.hid (HB1.out.trans (hb.mono HB1.out.size)); have HA2 := Lib.hid (HA.out.below hb); clear hbb hb))
    have s1 := HST.out _ _ _ HA2.out
    have s2 := HST.out _ _ _ HBB.out
    generalize (⟨bs.toArray⟩ : ByteArray) = st at *
    go_wp2_with (first
      | ((go_at_call 10; with_reducible refine (num_any _ _).mono ?_); rintro e w3 ⟨rfl, hg⟩; have HB3 := Lib.hid (HB2.out.trans (hg.below.mono HB2.out.size)); clear hg)
      | ((go_at_call 11; with_reducible refine (HC.out _).mono ?_); rintro e w4 ⟨rfl, hg⟩; have HB4 := Lib.hid (HB3.out.trans (hg.below.mono HB3.out.size)); clear hg)
      | ((go_at_call 12; with_reducible refine (HRC.out _).mono ?_); rintro e w5 ⟨rfl, hg⟩; have HB5 := Lib.hid (HB4.out.trans (hg.below.mono HB4.out.size)); clear hg)
      | ((go_at_call 13; with_reducible refine (HPN.out _).mono ?_); rintro e w8 ⟨rfl, hg⟩; have HB8 := Lib.hid (HB7.out.trans (hg.below.mono HB7.out.size)); clear hg)
      | ((go_at_call 13; with_reducible refine (HP.out _).mono ?_); rintro e w6 ⟨rfl, hg⟩; have HB6 := Lib.hid (HB5.out.trans (hg.below.mono HB5.out.size)); clear hg)
      | ((go_at_call 14; with_reducible refine (HRP.out _).mono ?_); rintro e w7 ⟨rfl, hg⟩; have HB7 := Lib.hid (HB6.out.trans (hg.below.mono HB6.out.size)); clear hg)
      | ((go_at_call 7; with_reducible refine (HWK.out _).mono ?_); rintro e w9 ⟨rfl, hb⟩; have HB9 := Lib.hid (HB8.out.trans (hb.mono HB8.out.size)); clear hb))
    go_ret
    exact ⟨rfl, HB9.out⟩
  · have h3z : n ≤ 1000 := by omega
    clear h2
    go_enter Try.func3, Try.ntmps3
    go_upto_region 5 with (first
      | ((go_at_call 8; with_reducible refine HE.out.mono ?_); rintro e w1 ⟨⟨va, rfl, ho⟩, hb⟩; have HA := Lib.hid (Byt.of_own ho); have HB1 := Lib.hid hb; clear ho hb)
      | ((go_at_call 9; with_reducible refine (HRE.out _ HB1.out).mono ?_); rintro e w2 ⟨⟨vb, rfl, hbb⟩, hb⟩; have HBB := Lib.hid hbb; have HB2 := Lib.hid (HB1.out.trans (hb.mono HB1.out.size)); have HA2 := Lib.hid (HA.out.below hb); clear hbb hb))
    have s1 := HST.out _ _ _ HA2.out
    have s2 := HST.out _ _ _ HBB.out
    generalize (⟨bs.toArray⟩ : ByteArray) = st at *
    go_wp2_with (first
      | ((go_at_call 10; with_reducible refine (num_any _ _).mono ?_); rintro e w3 ⟨rfl, hg⟩; have HB3 := Lib.hid (HB2.out.trans (hg.below.mono HB2.out.size)); clear hg)
      | ((go_at_call 11; with_reducible refine (HC.out _).mono ?_); rintro e w4 ⟨rfl, hg⟩; have HB4 := Lib.hid (HB3.out.trans (hg.below.mono HB3.out.size)); clear hg)
      | ((go_at_call 12; with_reducible refine (HRC.out _).mono ?_); rintro e w5 ⟨rfl, hg⟩; have HB5 := Lib.hid (HB4.out.trans (hg.below.mono HB4.out.size)); clear hg)
      | ((go_at_call 13; with_reducible refine (HPN.out _).mono ?_); rintro e w8 ⟨rfl, hg⟩; have HB8 := Lib.hid (HB7.out.trans (hg.below.mono HB7.out.size)); clear hg)
      | ((go_at_call 13; with_reducible refine (HP.out _).mono ?_); rintro e w6 ⟨rfl, hg⟩; have HB6 := Lib.hid (HB5.out.trans (hg.below.mono HB5.out.size)); clear hg)
      | ((go_at_call 14; with_reducible refine (HRP.out _).mono ?_); rintro e w7 ⟨rfl, hg⟩; have HB7 := Lib.hid (HB6.out.trans (hg.below.mono HB6.out.size)); clear hg)
      | ((go_at_call 7; with_reducible refine (HWK.out _).mono ?_); rintro e w9 ⟨rfl, hb⟩; have HB9 := Lib.hid (HB8.out.trans (hb.mono HB8.out.size)); clear hb))
    go_ret
    exact ⟨rfl, HB9.out⟩
end Go.Proofs.Ytajlddgemkkcdaa
