/- The small functions of package journal, of the reference and of the law. Conditions stand in each theorem. -/
import Derived.Test.YtajlddgemkkcdaaQT
import Derived.IntWalk
namespace Go.Proofs.Ytajlddgemkkcdaa
open Go.RowKit
set_option linter.unusedVariables false
set_option maxHeartbeats 2000000
set_option maxRecDepth 100000
/-- A bound on an int. -/
def I64 (n : Int) : Prop := -9223372036854775808 ≤ n ∧ n ≤ 9223372036854775807
def wiB (q lo hi : Int) : Bool := decide (lo ≤ q ∧ q ≤ hi)
theorem within_any (q lo hi : Int) (w : World) : Calls Try.prog 28 #[.int .i64 q, .int .i64 lo, .int .i64 hi] w (Ret w (.bool (wiB q lo hi))) := by
  unfold wiB
  by_cases h1 : lo ≤ q <;> by_cases h2 : q ≤ hi
  all_goals
    go_enter Try.func28, Try.ntmps28
    go_wp2
    go_ret
    exact ⟨by simp [h1, h2], Gr.refl _⟩
def kdB (k : Int) : Bool := decide (k = 2 ∨ k = 3)
theorem isKind_any (k : Int) (w : World) : Calls Try.prog 29 #[.int .u8 k] w (Ret w (.bool (kdB k))) := by
  unfold kdB
  by_cases h1 : k = 2
  · subst h1
    go_enter Try.func29, Try.ntmps29
    go_wp2
    go_ret
    exact ⟨by simp, Gr.refl _⟩
  · by_cases h2 : k = 3
    · subst h2
      go_enter Try.func29, Try.ntmps29
      go_wp2
      go_ret
      exact ⟨by simp, Gr.refl _⟩
    · go_enter Try.func29, Try.ntmps29
      go_wp2
      go_ret
      exact ⟨by simp [h1, h2], Gr.refl _⟩
/-- Entries that fit into a page. -/
def capF (n : Int) : Int := if 12 ≤ n ∧ n ≤ 8192 then (n - 4) / 8 else 0
theorem capF_rng (n : Int) : 0 ≤ capF n ∧ capF n ≤ 1023 := by unfold capF; split <;> omega
theorem cap_any (n : Int) (w : World) : Calls Try.prog 11 #[.int .i64 n] w (Ret w (.int .i64 (capF n))) := by
  have HW := Lib.hid (within_any n 12 8192 w)
  by_cases h : 12 ≤ n ∧ n ≤ 8192
  · have e1 : wiB n 12 8192 = true := decide_eq_true h
    have e2 : capF n = (n - 4) / 8 := if_pos h
    obtain ⟨h1, h2⟩ := h
    rw [e1] at HW
    have HE := Lib.hid e2
    clear e1 e2
    go_enter Try.func11, Try.ntmps11
    go_wp2_with ((go_at_call 28; with_reducible refine HW.out.mono ?_); rintro e w' ⟨rfl, hg⟩; have HG := Lib.hid hg; clear hg)
    go_ret
    exact ⟨by rw [HE.out]; rfl, HG.out⟩
  · have e1 : wiB n 12 8192 = false := decide_eq_false h
    have e2 : capF n = 0 := if_neg h
    rw [e1] at HW
    have HE := Lib.hid e2
    clear e1 e2
    go_enter Try.func11, Try.ntmps11
    go_wp2_with ((go_at_call 28; with_reducible refine HW.out.mono ?_); rintro e w' ⟨rfl, hg⟩; have HG := Lib.hid hg; clear hg)
    go_ret
    exact ⟨by rw [HE.out]; rfl, HG.out⟩
theorem rcap_any (n : Int) (w : World) : Calls Try.prog 12 #[.int .i64 n] w (Ret w (.int .i64 (capF n))) := by
  by_cases h1 : n < 12
  · have HE := Lib.hid (show capF n = 0 from if_neg (by omega))
    go_enter Try.func12, Try.ntmps12
    go_wp2
    go_ret
    exact ⟨by rw [HE.out]; rfl, Gr.refl _⟩
  · by_cases h2 : 8192 < n
    · have HE := Lib.hid (show capF n = 0 from if_neg (by omega))
      go_enter Try.func12, Try.ntmps12
      go_wp2
      go_ret
      exact ⟨by rw [HE.out]; rfl, Gr.refl _⟩
    · have HE := Lib.hid (show capF n = (n - 4) / 8 from if_pos (by omega))
      have h3 : 12 ≤ n := by omega
      have h4 : n ≤ 8192 := by omega
      go_enter Try.func12, Try.ntmps12
      go_wp2
      go_ret
      exact ⟨by rw [HE.out]; rfl, Gr.refl _⟩
/-- Pages of a record. -/
def pgsF (n e : Int) : Int := if capF n = 0 ∨ e < 0 then 0 else if e = 0 then 1 else (e - 1) / capF n + 1
theorem num_any (k : Int) (w : World) : Calls Try.prog 10 #[.int .i64 k] w (Ret w (.int .i64 k)) := by
  go_enter Try.func10, Try.ntmps10
  go_wp2
  go_ret
  exact ⟨rfl, Gr.refl _⟩
theorem pages_any (n e : Int) (he : I64 e) (w : World) : Calls Try.prog 13 #[.int .i64 n, .int .i64 e] w (Ret w (.int .i64 (pgsF n e))) := by
  have HC := Lib.hid (cap_any n w)
  obtain ⟨c0, c1⟩ := capF_rng n
  have HP := Lib.hid (show pgsF n e = if capF n = 0 ∨ e < 0 then 0 else if e = 0 then 1 else (e - 1) / capF n + 1 from rfl)
  generalize capF n = c at *
  generalize pgsF n e = R at *
  obtain ⟨b1, b2⟩ := he
  by_cases hc : c = 0
  · have hp := HP.out
    rw [if_pos (.inl hc)] at hp
    have HR := Lib.hid hp
    clear hp HP
    rw [hc] at HC
    clear hc c0 c1
    go_enter Try.func13, Try.ntmps13
    go_wp2_with ((go_at_call 11; with_reducible refine HC.out.mono ?_); rintro e w' ⟨rfl, hg⟩; have HG := Lib.hid hg; clear hg)
    go_ret
    exact ⟨by rw [HR.out]; rfl, HG.out⟩
  · have hcb : (c == 0) = false := by simpa using hc
    by_cases hn : e < 0
    · have hp := HP.out
      rw [if_pos (.inr hn)] at hp
      have HR := Lib.hid hp
      clear hp HP
      go_enter Try.func13, Try.ntmps13
      go_wp2_with ((go_at_call 11; with_reducible refine HC.out.mono ?_); rintro e w' ⟨rfl, hg⟩; have HG := Lib.hid hg; clear hg)
      go_ret
      exact ⟨by rw [HR.out]; rfl, HG.out⟩
    · have hp := HP.out
      rw [if_neg (by omega)] at hp
      by_cases hz : e = 0
      · rw [if_pos hz] at hp
        have HR := Lib.hid hp
        clear hp HP
        subst hz
        go_enter Try.func13, Try.ntmps13
        go_wp2_with ((go_at_call 11; with_reducible refine HC.out.mono ?_); rintro e w' ⟨rfl, hg⟩; have HG := Lib.hid hg; clear hg)
        go_ret
        exact ⟨by rw [HR.out]; rfl, HG.out⟩
      · rw [if_neg hz] at hp
        have h1 : 1 ≤ e := by omega
        have hcp : 0 < c := by omega
        have hq : 0 ≤ (e - 1) / c := Int.ediv_nonneg (by omega) (by omega)
        have hq2 : (e - 1) / c ≤ e - 1 := Int.ediv_le_self _ (by omega)
        have HQ := Lib.hid hq
        have HR := Lib.hid hp
        have hez : (e == 0) = false := by simpa using hz
        clear hp HP hz hn
        go_enter Try.func13, Try.ntmps13
        go_wp2_with ((go_at_call 11; with_reducible refine HC.out.mono ?_); rintro e w' ⟨rfl, hg⟩; have HG := Lib.hid hg; clear hg)
        go_ret
        exact ⟨by rw [HR.out]; rfl, HG.out⟩
theorem pgsF_ref {e c : Int} (hc : 0 < c) (he : 0 < e) : (e - 1) / c + 1 = if 0 < e % c ∨ e / c = 0 then e / c + 1 else e / c := by
  have h1 := Int.emod_add_mul_ediv e c
  have h2 := Int.emod_nonneg e (Int.ne_of_gt hc)
  have h3 := Int.emod_lt_of_pos e hc
  have h6 : 0 ≤ e / c := Int.ediv_nonneg (by omega) (by omega)
  by_cases hr : 0 < e % c
  · rw [if_pos (.inl hr)]
    have : e - 1 = (e % c - 1) + c * (e / c) := by omega
    rw [this, Int.add_mul_ediv_left _ _ (Int.ne_of_gt hc), Int.ediv_eq_zero_of_lt (by omega) (by omega)]
    omega
  · have h4 : e % c = 0 := by omega
    by_cases hz : e / c = 0
    · rw [hz, h4] at h1
      omega
    · rw [if_neg (by omega)]
      have h5 : c * (e / c) = c * (e / c - 1) + c := by rw [Int.mul_sub, Int.mul_one]; omega
      have : e - 1 = (c - 1) + c * (e / c - 1) := by omega
      rw [this, Int.add_mul_ediv_left _ _ (Int.ne_of_gt hc), Int.ediv_eq_zero_of_lt (by omega) (by omega)]
      omega
theorem rpages_any (n e : Int) (he : I64 e) (w : World) : Calls Try.prog 14 #[.int .i64 n, .int .i64 e] w (Ret w (.int .i64 (pgsF n e))) := by
  have HC := Lib.hid (rcap_any n w)
  obtain ⟨c0, c1⟩ := capF_rng n
  have HP := Lib.hid (show pgsF n e = if capF n = 0 ∨ e < 0 then 0 else if e = 0 then 1 else (e - 1) / capF n + 1 from rfl)
  generalize capF n = c at *
  generalize pgsF n e = R at *
  obtain ⟨b1, b2⟩ := he
  by_cases hc : c = 0
  · have hp := HP.out
    rw [if_pos (.inl hc)] at hp
    have HR := Lib.hid hp
    clear hp HP
    rw [hc] at HC
    clear hc c0 c1
    go_enter Try.func14, Try.ntmps14
    go_wp2_with ((go_at_call 12; with_reducible refine HC.out.mono ?_); rintro e w' ⟨rfl, hg⟩; have HG := Lib.hid hg; clear hg)
    go_ret
    exact ⟨by rw [HR.out]; rfl, HG.out⟩
  · have hcb : (c == 0) = false := by simpa using hc
    by_cases hn : e < 0
    · have hp := HP.out
      rw [if_pos (.inr hn)] at hp
      have HR := Lib.hid hp
      clear hp HP
      go_enter Try.func14, Try.ntmps14
      go_wp2_with ((go_at_call 12; with_reducible refine HC.out.mono ?_); rintro e w' ⟨rfl, hg⟩; have HG := Lib.hid hg; clear hg)
      go_ret
      exact ⟨by rw [HR.out]; rfl, HG.out⟩
    · have hp := HP.out
      rw [if_neg (by omega)] at hp
      have hcp : 0 < c := by omega
      have h2 := Int.emod_nonneg e (Int.ne_of_gt hcp)
      have h3 := Int.emod_lt_of_pos e hcp
      have h6 : 0 ≤ e / c := Int.ediv_nonneg (by omega) (by omega)
      have h7 : e / c ≤ e := Int.ediv_le_self _ (by omega)
      have hp2 : R = if 0 < e % c ∨ e / c = 0 then e / c + 1 else e / c := by
        rw [hp]
        by_cases hz : e = 0
        · rw [if_pos hz, hz]; simp
        · rw [if_neg hz]; exact pgsF_ref hcp (by omega)
      have h0 : 0 ≤ e := by omega
      have hed : e.tdiv c = e / c := Int.tdiv_eq_ediv_of_nonneg h0
      have hem : e.tmod c = e % c := Int.tmod_eq_emod_of_nonneg h0
      have HR := Lib.hid hp2
      clear hp HP hp2 hn
      obtain ⟨q, hq⟩ : ∃ q, e / c = q := ⟨_, rfl⟩
      obtain ⟨r, hr⟩ : ∃ r, e % c = r := ⟨_, rfl⟩
      by_cases hr0 : 0 < r
      · have hp3 := HR.out
        rw [hq, hr, if_pos (.inl hr0)] at hp3
        have HR2 := Lib.hid hp3
        rw [hq] at h6 h7
        have hr0' : 0 < e % c := by rw [hr]; exact hr0
        have h8 : q + 1 ≤ 9223372036854775807 := by
          have h9 := Int.emod_add_mul_ediv e c
          have h10 := Int.mul_le_mul_of_nonneg_right (show 1 ≤ c by omega) h6
          rw [Int.one_mul] at h10
          rw [hq] at h9
          omega
        clear hp3 HR hr
        go_enter Try.func14, Try.ntmps14
        go_wp2_with ((go_at_call 12; with_reducible refine HC.out.mono ?_); rintro e w' ⟨rfl, hg⟩; have HG := Lib.hid hg; clear hg)
        go_ret
        exact ⟨by rw [HR2.out]; rfl, HG.out⟩
      · have hr0' : ¬ 0 < e % c := by rw [hr]; exact hr0
        by_cases hq0 : q = 0
        · have hp3 := HR.out
          rw [hq, hr, if_pos (.inr hq0), hq0] at hp3
          have HR2 := Lib.hid hp3
          rw [hq0] at hq
          clear hp3 HR hr hq0
          go_enter Try.func14, Try.ntmps14
          go_wp2_with ((go_at_call 12; with_reducible refine HC.out.mono ?_); rintro e w' ⟨rfl, hg⟩; have HG := Lib.hid hg; clear hg)
          go_ret
          exact ⟨by rw [HR2.out]; rfl, HG.out⟩
        · have hp3 := HR.out
          rw [hq, hr, if_neg (by omega)] at hp3
          have HR2 := Lib.hid hp3
          have hqb : (q == 0) = false := by simpa using hq0
          clear hp3 HR hr
          go_enter Try.func14, Try.ntmps14
          go_wp2_with ((go_at_call 12; with_reducible refine HC.out.mono ?_); rintro e w' ⟨rfl, hg⟩; have HG := Lib.hid hg; clear hg)
          go_ret
          exact ⟨by rw [HR2.out]; rfl, HG.out⟩
end Go.Proofs.Ytajlddgemkkcdaa
