/- The contract of page. Conditions stand in each theorem. -/
import Derived.Test.YtngaifokkkmmcaaY
namespace Go.Proofs.Ytngaifokkkmmcaa
open Go.RowKit
set_option linter.unusedVariables false
set_option maxHeartbeats 2000000
set_option maxRecDepth 100000
section
variable {W W' : World} {base b d cap : Nat} {m : Mm} {g fs sc ct at' : Nat}
theorem page_one (h : Wm W base b d cap m g fs sc ct at') (hfs : fs < 18446744073709551616) (hat : at' < 18446744073709551616) :
    Calls Try.prog 48 #[.pointer (some ⟨g, 0, none⟩), .int .i64 0] W (StP W base b d cap m g fs sc ct (pgE m fs sc ct 0 at')) := by
  have H := Lib.hid h
  obtain ⟨-, c1, -, -, -⟩ := h.cells
  have hr : pgE m fs sc ct 0 at' = if fs % 4 = 0 then .ok (fs, at') else .error 150 := by unfold pgE; rw [if_pos rfl]
  obtain ⟨r, hre⟩ : ∃ r, r = pgE m fs sc ct 0 at' := ⟨_, rfl⟩
  rw [← hre] at hr ⊢
  clear hre
  by_cases hal : fs % 4 = 0
  · rw [if_pos hal] at hr
    have HAL := Lib.hid (fun w => aligned_yes 4 fs 4 rfl w (by decide) hfs hal)
    have HRR := Lib.hid hr
    have HFS := Lib.hid (And.intro hfs hat)
    clear h hr hal hfs hat
    go_enter Try.func48, Try.ntmps48
    go_wp2_with ((go_at_call 64; with_reducible refine (HAL.out _).mono ?_); rintro e w1 ⟨rfl, hb⟩; have HB := Lib.hid hb; clear hb)
    go_ret
    exact ⟨.inl ⟨_, _, HRR.out, rfl, H.out.below HB.out, HFS.out.1, HFS.out.2⟩, Chg.of_below HB.out⟩
  · rw [if_neg hal] at hr
    have HAL := Lib.hid (fun w => aligned_no 4 fs 4 rfl w (by decide) hfs hal)
    have HRR := Lib.hid hr
    clear h hr hal hfs
    go_enter Try.func48, Try.ntmps48
    go_wp2_with ((go_at_call 64; with_reducible refine (HAL.out _).mono ?_); rintro e w1 ⟨rfl, hb⟩; have HB := Lib.hid hb; clear hb)
    exact ⟨rfl, .inr ⟨_, HRR.out, rfl⟩, Chg.of_below HB.out⟩
theorem page_two (h : Wm W base b d cap m g fs sc ct at') (hsc : sc < 18446744073709551616) (hat : at' < 18446744073709551616) (k : Nat) (hk : 0 < k) (hct : ct = 2) (hkm : k ≤ 1000) :
    Calls Try.prog 48 #[.pointer (some ⟨g, 0, none⟩), .int .i64 (k : Int)] W (StP W base b d cap m g fs sc ct (pgE m fs sc ct k at')) := by
  have H := Lib.hid h
  obtain ⟨-, -, c2, c3, -⟩ := h.cells
  have hr : pgE m fs sc ct k at' = if sc % 4096 = 0 then .ok (sc, at') else .error 150 := by unfold pgE; rw [if_neg (by omega), if_pos hct]
  obtain ⟨r, hre⟩ : ∃ r, r = pgE m fs sc ct k at' := ⟨_, rfl⟩
  rw [← hre] at hr ⊢
  have e0 : ((k : Int) == 0) = false := by simp; omega
  have e0' : ¬ (k : Int) = 0 := by omega
  have e0'' : ¬ k = 0 := by omega
  have e1 : ((ct : Int) == 2) = true := by simp [hct]
  have e1' : (ct : Int) = 2 := by omega
  have hki : (k : Int) ≤ 1000 := by omega
  clear hre
  by_cases hal : sc % 4096 = 0
  · rw [if_pos hal] at hr
    have HAL := Lib.hid (fun w => aligned_yes 4096 sc 4096 rfl w (by decide) hsc hal)
    have HRR := Lib.hid hr
    have HFS := Lib.hid (And.intro hsc hat)
    clear h hr hal hsc hat hct hk hkm
    generalize (ct : Int) = CT at *
    go_enter Try.func48, Try.ntmps48
    go_wp2_with ((go_at_call 64; with_reducible refine (HAL.out _).mono ?_); rintro e w1 ⟨rfl, hb⟩; have HB := Lib.hid hb; clear hb)
    go_ret
    exact ⟨.inl ⟨_, _, HRR.out, rfl, H.out.below HB.out, HFS.out.1, HFS.out.2⟩, Chg.of_below HB.out⟩
  · rw [if_neg hal] at hr
    have HAL := Lib.hid (fun w => aligned_no 4096 sc 4096 rfl w (by decide) hsc hal)
    have HRR := Lib.hid hr
    clear h hr hal hsc hat hct hk hkm
    generalize (ct : Int) = CT at *
    go_enter Try.func48, Try.ntmps48
    go_wp2_with ((go_at_call 64; with_reducible refine (HAL.out _).mono ?_); rintro e w1 ⟨rfl, hb⟩; have HB := Lib.hid hb; clear hb)
    exact ⟨rfl, .inr ⟨_, HRR.out, rfl⟩, Chg.of_below HB.out⟩
/-- What stands behind the address that listed has returned. -/
def tl (r : Except Int (Nat × Nat)) : Except Int (Nat × Nat) := match r with | .error q => .error q | .ok (x, a') => if x % 4096 = 0 then .ok (x, a') else .error 150
theorem page_more (h : Wm W base b d cap m g fs sc ct at') (hG : Gm m) (hat : at' < 18446744073709551616) (k : Nat) (hk : 1 < k) (hct : ct ≠ 2) (hkc : k ≤ ct) (hcm : ct ≤ 1000) :
    Calls Try.prog 48 #[.pointer (some ⟨g, 0, none⟩), .int .i64 (k : Int)] W (StP W base b d cap m g fs sc ct (pgE m fs sc ct k at')) := by
  obtain ⟨-, -, -, c3, -⟩ := h.cells
  have hr : pgE m fs sc ct k at' = tl (lstE m at' (ct - k)) := by
    unfold pgE
    rw [if_neg (by omega), if_neg hct, if_neg (by omega), if_neg (show ¬ k = 1 by omega)]
    rfl
  obtain ⟨r, hre⟩ : ∃ r, r = pgE m fs sc ct k at' := ⟨_, rfl⟩
  rw [← hre] at hr ⊢
  have HL := Lib.hid (listed_any h hG hat (ct - k) (by omega))
  rw [show ((ct - k : Nat) : Int) = (ct : Int) - (k : Int) by omega] at HL
  have HRR := Lib.hid hr
  have e0 : ((k : Int) == 0) = false := by simp; omega
  have e0' : ¬ (k : Int) = 0 := by omega
  have e0'' : ¬ k = 0 := by omega
  have e1 : ((ct : Int) == 2) = false := by simp; omega
  have e1' : ¬ (ct : Int) = 2 := by omega
  have e1'' : ¬ ct = 2 := hct
  have e2 : ((k : Int) == 1) = false := by simp; omega
  have e2' : ¬ (k : Int) = 1 := by omega
  have e2'' : ¬ k = 1 := by omega
  have hki : (k : Int) ≤ 1000 := by omega
  have hci : (ct : Int) ≤ 1000 := by omega
  clear hre hr h hG hat hct hk hkc hcm
  generalize lstE m at' (ct - k) = L at *
  go_enter Try.func48, Try.ntmps48
  go_wp2_with fail
  refine HL.out.mono ?_
  rintro e w1 ⟨⟨x, a', hL, rfl, hw, hx, ha'⟩ | ⟨q, hL, rfl⟩, hc⟩
  · have HC := Lib.hid hc
    have HW := Lib.hid (And.intro hw ha')
    have HRR2 := Lib.hid HRR.out
    rw [hL] at HRR2
    by_cases hal : x % 4096 = 0
    · have HAL := Lib.hid (fun w => aligned_yes 4096 x 4096 rfl w (by decide) hx hal)
      have HR3 : Hid (r = .ok (x, a') ∧ x < 18446744073709551616) := Lib.hid ⟨HRR2.out.trans (if_pos hal), hx⟩
      clear hc hw hL HRR hal hx ha'
      go_wp2_with ((go_at_call 64; with_reducible refine (HAL.out _).mono ?_); rintro e w2 ⟨rfl, hb⟩; have HB := Lib.hid hb; clear hb)
      go_ret
      exact ⟨.inl ⟨_, _, HR3.out.1, rfl, HW.out.1.below HB.out, HR3.out.2, HW.out.2⟩, HC.out.then_below HB.out⟩
    · have HAL := Lib.hid (fun w => aligned_no 4096 x 4096 rfl w (by decide) hx hal)
      have HR3 : Hid (r = .error 150) := Lib.hid (HRR2.out.trans (if_neg hal))
      clear hc hw hL HRR hal hx ha'
      go_wp2_with ((go_at_call 64; with_reducible refine (HAL.out _).mono ?_); rintro e w2 ⟨rfl, hb⟩; have HB := Lib.hid hb; clear hb)
      exact ⟨rfl, .inr ⟨_, HR3.out, rfl⟩, HC.out.then_below HB.out⟩
  · have h2 := HRR.out
    rw [hL] at h2
    exact ⟨rfl, .inr ⟨_, h2, rfl⟩, hc⟩
theorem page_first (h : Wm W base b d cap m g fs sc ct at') (hG : Gm m) (hsc : sc < 18446744073709551616) (hct : ct ≠ 2) (hkc : 1 ≤ ct) (hcm : ct ≤ 1000) :
    Calls Try.prog 48 #[.pointer (some ⟨g, 0, none⟩), .int .i64 1] W (StP W base b d cap m g fs sc ct (pgE m fs sc ct 1 at')) := by
  obtain ⟨-, -, c2, c3, c4⟩ := h.cells
  have f4 := h.free 4
  have hr : pgE m fs sc ct 1 at' = if sc % 8 = 0 then tl (lstE m sc (ct - 1)) else .error 150 := by
    unfold pgE
    rw [if_neg (by decide), if_neg hct]
    by_cases h8 : sc % 8 = 0
    · rw [if_neg (by omega), if_pos h8, if_pos rfl]; rfl
    · rw [if_pos ⟨rfl, h8⟩, if_neg h8]
  obtain ⟨r, hre⟩ : ∃ r, r = pgE m fs sc ct 1 at' := ⟨_, rfl⟩
  rw [← hre] at hr ⊢
  have e1 : ((ct : Int) == 2) = false := by simp; omega
  have e1' : ¬ (ct : Int) = 2 := by omega
  have e1'' : ¬ ct = 2 := hct
  have hci : (ct : Int) ≤ 1000 := by omega
  by_cases h8 : sc % 8 = 0
  · rw [if_pos h8] at hr
    have HRR := Lib.hid hr
    have HAL8 := Lib.hid (fun w => aligned_yes 8 sc 8 rfl w (by decide) hsc h8)
    have HL : Hid (∀ W1, Below W.heap.size W W1 → Calls Try.prog 65 #[.pointer (some ⟨g, 0, none⟩), .int .i64 ((ct : Int) - 1)] (W1.setCell ⟨g, 4, none⟩ (.int .u64 (sc : Int))) fun e w' => StP (W1.setCell ⟨g, 4, none⟩ (.int .u64 (sc : Int))) base b d cap m g fs sc ct (lstE m sc (ct - 1)) e w' ∧ Chg (fun k => k = g) W w') := Lib.hid fun W1 hb => by
      have := listed_any ((h.below hb).set sc) hG hsc (ct - 1) (by omega)
      rw [show ((ct - 1 : Nat) : Int) = (ct : Int) - 1 by omega] at this
      exact this.mono fun e w' hp => ⟨hp, (((Chg.of_below (S := fun k => k = g) hb).setCell (p := ⟨g, 4, none⟩) rfl _).also hp.2)⟩
    have cc := fun W1 (hb : Below W.heap.size W W1) => (h.below hb).cells.2.2.2
    have ff := fun W1 (hb : Below W.heap.size W W1) => (h.below hb).free 4
    have hgne : True := trivial
    have HCC := Lib.hid cc
    have HFF := Lib.hid ff
    have HS : Hid (∀ W1, Below W.heap.size W W1 → (W1.setCell ⟨g, 4, none⟩ (.int .u64 (sc : Int))).cell? ⟨g, 3, none⟩ = some (.int .i64 (ct : Int))) := Lib.hid fun W1 hb => ((h.below hb).set sc).cells.2.2.2.1
    clear hre hr h hG hct hkc hcm cc ff h8 hsc
    generalize lstE m sc (ct - 1) = L at *
    go_enter Try.func48, Try.ntmps48
    go_wp2_with fail
    refine (HAL8.out _).mono ?_
    rintro e w1 ⟨rfl, hb⟩
    have d4 := (HCC.out w1 hb).2
    have g4 := HFF.out w1 hb
    have d3 := HS.out w1 hb
    have HL2 := Lib.hid (HL.out w1 hb)
    clear hb
    generalize hW2 : w1.setCell ⟨g, 4, none⟩ (.int .u64 (sc : Int)) = W2 at d3 HL2
    go_wp2_with fail
    rw [hW2] at *
    go_wp2_with fail
    refine HL2.out.mono ?_
    rintro e w3 ⟨⟨⟨x, a', hL, rfl, hw, hx, ha'⟩ | ⟨q, hL, rfl⟩, -⟩, hc⟩
    · have HC := Lib.hid hc
      have HW := Lib.hid (And.intro hw ha')
      have HRR2 := Lib.hid HRR.out
      rw [hL] at HRR2
      by_cases hal : x % 4096 = 0
      · have HAL := Lib.hid (fun w => aligned_yes 4096 x 4096 rfl w (by decide) hx hal)
        have HR3 : Hid (r = .ok (x, a') ∧ x < 18446744073709551616) := Lib.hid ⟨HRR2.out.trans (if_pos hal), hx⟩
        clear hc hw hL HRR hal hx ha'
        go_wp2_with ((go_at_call 64; with_reducible refine (HAL.out _).mono ?_); rintro e w2 ⟨rfl, hb⟩; have HB := Lib.hid hb; clear hb)
        go_ret
        exact ⟨.inl ⟨_, _, HR3.out.1, rfl, HW.out.1.below HB.out, HR3.out.2, HW.out.2⟩, HC.out.then_below HB.out⟩
      · have HAL := Lib.hid (fun w => aligned_no 4096 x 4096 rfl w (by decide) hx hal)
        have HR3 : Hid (r = .error 150) := Lib.hid (HRR2.out.trans (if_neg hal))
        clear hc hw hL HRR hal hx ha'
        go_wp2_with ((go_at_call 64; with_reducible refine (HAL.out _).mono ?_); rintro e w2 ⟨rfl, hb⟩; have HB := Lib.hid hb; clear hb)
        exact ⟨rfl, .inr ⟨_, HR3.out, rfl⟩, HC.out.then_below HB.out⟩
    · have h2 := HRR.out
      rw [hL] at h2
      exact ⟨rfl, .inr ⟨_, h2, rfl⟩, hc⟩
  · rw [if_neg h8] at hr
    have HRR := Lib.hid hr
    have HAL8 := Lib.hid (fun w => aligned_no 8 sc 8 rfl w (by decide) hsc h8)
    clear hre hr h hG hct hkc hcm h8 hsc
    go_enter Try.func48, Try.ntmps48
    go_wp2_with fail
    refine (HAL8.out _).mono ?_
    rintro e w1 ⟨rfl, hb⟩
    exact ⟨rfl, .inr ⟨_, HRR.out, rfl⟩, Chg.of_below hb⟩
theorem page_any (h : Wm W base b d cap m g fs sc ct at') (hG : Gm m) (hfs : fs < 18446744073709551616) (hsc : sc < 18446744073709551616) (hat : at' < 18446744073709551616) (k : Nat) (hk : k < ct) (hcm : ct ≤ 1000) :
    Calls Try.prog 48 #[.pointer (some ⟨g, 0, none⟩), .int .i64 (k : Int)] W (StP W base b d cap m g fs sc ct (pgE m fs sc ct k at')) := by
  by_cases h0 : k = 0
  · subst h0; exact page_one h hfs hat
  · by_cases h2 : ct = 2
    · exact page_two h hsc hat k (by omega) h2 (by omega)
    · by_cases h1 : k = 1
      · subst h1; exact page_first h hG hsc h2 (by omega) hcm
      · exact page_more h hG hat k (by omega) h2 (by omega) hcm
end
end Go.Proofs.Ytngaifokkkmmcaa
