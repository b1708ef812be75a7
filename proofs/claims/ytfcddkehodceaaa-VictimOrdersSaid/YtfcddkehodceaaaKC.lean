/- The walk of VictimChooses. No condition on the arguments. -/
import Derived.Test.YtfcddkehodceaaaRO
namespace Go.Proofs.Ytfcddkehodceaaa
open Go.RowKit
set_option linter.unusedVariables false
set_option maxHeartbeats 8000000
set_option maxRecDepth 100000
theorem ch_bad {l : List Cd} {D : List Rk} (hD : D.Perm (rankR l)) (h : ¬ ∀ c ∈ l, c.ok) : chK D = 0 ∧ chE l D = 2 := by
  have h1 : rankR l = [] := by unfold rankR; rw [if_neg h]
  rw [h1] at hD
  obtain rfl := List.perm_nil.1 hD
  exact ⟨rfl, by unfold chE errL; rw [if_pos rfl, if_neg h]⟩
theorem ch_good {l : List Cd} {D : List Rk} (hD : D.Perm (rankR l)) (hq : D.Pairwise Qr) (h : ∀ c ∈ l, c.ok) {O : List Nat} (hO : OutAt l l.length O) : D = O.map (gk l) := by
  have h1 : rankR l = useK (rkL l) l.length := by unfold rankR; rw [if_pos h]; unfold usL; rw [rkL_length]
  rw [h1] at hD
  exact sorted_one (hD.trans hO.pm.symm) hq hO.pw
theorem ch_nil {l : List Cd} {D : List Rk} (hD : D.Perm (rankR l)) (h : ∀ c ∈ l, c.ok) (h0 : D = []) : chK D = 0 ∧ chE l D = 9 := by
  subst h0
  have h1 := List.nil_perm.1 hD
  unfold rankR at h1
  rw [if_pos h] at h1
  exact ⟨rfl, by unfold chE errL; rw [if_pos rfl, if_pos h, if_pos h1]⟩
theorem ch_cons (l : List Cd) {O : List Nat} (h0 : 0 < O.length) : chK (O.map (gk l)) = (O[0] : Int) ∧ chE l (O.map (gk l)) = 0 := by
  cases O with
  | nil => exact absurd h0 (by simp)
  | cons i O => exact ⟨rfl, rfl⟩
theorem chooses_any (w : World) (v : Value) (l : List Cd) (hv : Cs w v l) : Calls Try.prog 4 #[v] w (RetB w (.bool true)) := by
  have HWK := Lib.hid works_any
  have hN : ∀ a W, Calls Try.prog 10 #[.int .i64 a] W (RetB W (.int .i64 a)) := fun a W => retB_of (num_any a W)
  have HN := Lib.hid hN
  clear hN
  by_cases h1 : 30 < l.length
  · have h1z : (30 : Int) < (l.length : Int) := by omega
    obtain ⟨A, c, rfl, -⟩ := hv
    go_enter Try.func4, Try.ntmps4
    go_wp2_with ((go_at_call 13; (with_reducible refine (HWK.out _).mono ?_)); rintro e w2 ⟨rfl, hb2⟩; have HB2 := Lib.hid hb2; clear hb2)
    go_ret
    exact ⟨rfl, HB2.out⟩
  have h1z : (l.length : Int) ≤ 30 := by omega
  have HCH := Lib.hid (Choose_any w v l hv (by omega))
  have HRO : Hid (∀ W, Below w.heap.size w W → Calls Try.prog 15 #[v] W (ROPost W l)) := fun W hb => rorder_any W v l (hv.below hb) (by omega)
  obtain ⟨A, c, rfl, -⟩ := hv
  unfold ChPost at HCH
  unfold ROPost at HRO
  by_cases hok : ∀ c ∈ l, c.ok
  · have HOK := Lib.hid hok
    clear hok
    go_enter Try.func4, Try.ntmps4
    go_upto_region 5 with (first
      | ((go_at_call 14; (with_reducible refine HCH.out.mono ?_)); rintro e w2 ⟨hb2, D, hD, hq, rfl⟩; have HB2 := Lib.hid hb2; have HD := Lib.hid hD; have HQ := Lib.hid hq; obtain ⟨ck, hck⟩ : ∃ ck, ck = chK D := ⟨_, rfl⟩; obtain ⟨ce, hce⟩ : ∃ ce, ce = chE l D := ⟨_, rfl⟩; rw [← hck, ← hce]; have HCK := Lib.hid hck; have HCE := Lib.hid hce; clear hb2 hD hq hck hce)
      | ((go_at_call 15; (with_reducible refine (HRO.out _ HB2.out).mono ?_)); rintro e w3 ⟨hb3, h3⟩; obtain ⟨-, v3, O, rfl, ho3, hO⟩ := h3.resolve_left (fun h => h.1 HOK.out); obtain ⟨A3, c3, rfl⟩ := own3_form ho3; have HO3 := Lib.hid ho3; have HO := Lib.hid hO; have HB3 := Lib.hid (HB2.out.trans (hb3.mono HB2.out.size)); clear hb3 h3 ho3 hO))
    have hDO := ch_good HD.out HQ.out HOK.out HO.out
    have hOl := HO.out.len
    by_cases h0 : O.length = 0
    · have hOn : O = [] := List.length_eq_zero_iff.1 h0
      have hc := ch_nil HD.out HOK.out (by rw [hDO, hOn]; rfl)
      rw [← HCK.out, ← HCE.out] at hc
      obtain ⟨hck, hce⟩ := hc
      clear hDO hOn
      subst hck hce
      go_wp2_with ((go_at_call 13; (with_reducible refine (HWK.out _).mono ?_)); rintro e w4 ⟨rfl, hb4⟩; have HB4 := Lib.hid hb4; clear hb4)
      go_ret
      exact ⟨rfl, HB3.out.trans (HB4.out.mono HB3.out.size)⟩
    · have hOp : 0 < O.length := by omega
      have hOz : 0 < (O.length : Int) := by omega
      have hc := ch_cons l hOp
      rw [← hDO, ← HCK.out, ← HCE.out] at hc
      obtain ⟨hck, hce⟩ := hc
      obtain ⟨-, hI, -⟩ := ints_of_own HO3.out
      obtain ⟨g3, o3, rfl, hg3, hcell⟩ := ints_at hI hOp
      have hc0 := hcell 0 hOp
      rw [Nat.add_zero, ← hck] at hc0
      clear hDO hI hcell hck
      subst hce
      go_wp2_with (first
        | ((go_at_call 10; (with_reducible refine (HN.out _ _).mono ?_)); rintro e w4 ⟨rfl, hb4⟩; have HB4 := Lib.hid hb4; clear hb4)
        | ((go_at_call 13; (with_reducible refine (HWK.out _).mono ?_)); rintro e w5 ⟨rfl, hb5⟩; have HB5 := Lib.hid hb5; clear hb5))
      go_ret
      exact ⟨rfl, HB3.out.trans ((HB4.out.trans (HB5.out.mono HB4.out.size)).mono HB3.out.size)⟩
  · have HOK := Lib.hid hok
    clear hok
    go_enter Try.func4, Try.ntmps4
    go_wp2_with (first
      | ((go_at_call 14; (with_reducible refine HCH.out.mono ?_)); rintro e w2 ⟨hb2, D, hD, hq, rfl⟩; have HB2 := Lib.hid hb2; have hc := ch_bad hD HOK.out; rw [hc.1, hc.2]; clear hb2 hD hq hc)
      | ((go_at_call 15; (with_reducible refine (HRO.out _ HB2.out).mono ?_)); rintro e w3 ⟨hb3, h3⟩; obtain ⟨-, rfl⟩ := h3.resolve_right (fun h => HOK.out h.1); have HB3 := Lib.hid (HB2.out.trans (hb3.mono HB2.out.size)); clear hb3 h3)
      | ((go_at_call 10; (with_reducible refine (HN.out _ _).mono ?_)); rintro e w4 ⟨rfl, hb4⟩; have HB4 := Lib.hid hb4; clear hb4)
      | ((go_at_call 13; (with_reducible refine (HWK.out _).mono ?_)); rintro e w5 ⟨rfl, hb5⟩; have HB5 := Lib.hid hb5; clear hb5))
    go_ret
    exact ⟨rfl, HB3.out.trans ((HB4.out.trans (HB5.out.mono HB4.out.size)).mono HB3.out.size)⟩
end Go.Proofs.Ytfcddkehodceaaa
