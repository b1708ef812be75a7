/- The walk of PoolPlays. Conditions stand in each theorem. -/
import Derived.Test.YtpojgjbgbbnojaaVS
namespace Go.Proofs.Ytpojgjbgbbnojaa
open Go.RowKit
set_option linter.unusedVariables false
set_option maxHeartbeats 4000000
set_option maxRecDepth 100000
theorem act_lit {w : World} {base b g cap gr cr : Nat} {l : List Blk} (h : Pl w base b g cap l) (hr : Rf w gr l) (wh bl st er : Int) : Calls Try.prog 12 #[.pointer (some ⟨b, 0, none⟩), .slice (some ⟨gr, 0, none⟩) l.length cr, .agg #[.int .i64 wh, .int .i64 bl, .int .i64 st, .int .i64 er]] w (AcP w base b g cap (nx l ⟨wh, bl, st, er⟩)) := act_any h hr ⟨wh, bl, st, er⟩
theorem plays_pre (A0 A1 : Option Addr) (n0 n1 c0 c1 : Nat) (w : World) (h : 20 < n0 ∨ (n0 ≤ 20 ∧ 50 < n1)) : Calls Try.prog 3 #[.slice A0 n0 c0, .slice A1 n1 c1] w (OkB w) := by
  have HW := Lib.hid (works_any w)
  rcases h with h | ⟨h, h2⟩
  · have d1 : (20 : Int) < (n0 : Int) := by omega
    have d2 : decide (20 < n0) = true := decide_eq_true h
    go_enter Try.func3, Try.ntmps3
    go_wp2_with ((go_at_call 8; with_reducible refine HW.out.mono ?_); rintro e W2 ⟨rfl, hb⟩; have HB2 := Lib.hid hb; clear hb)
    go_ret
    exact ⟨rfl, HB2.out⟩
  · have d1 : ¬ (20 : Int) < (n0 : Int) := by omega
    have d2 : decide (20 < n0) = false := decide_eq_false (by omega)
    have d3 : (50 : Int) < (n1 : Int) := by omega
    have d4 : decide (50 < n1) = true := decide_eq_true h2
    go_enter Try.func3, Try.ntmps3
    go_wp2_with ((go_at_call 8; with_reducible refine HW.out.mono ?_); rintro e W2 ⟨rfl, hb⟩; have HB2 := Lib.hid hb; clear hb)
    go_ret
    exact ⟨rfl, HB2.out⟩
theorem plays_bad (A0 A1 : Option Addr) (n0 n1 c0 c1 : Nat) (w : World) (h1 : n0 ≤ 20) (h2 : n1 ≤ 50) (hn : ∀ W, Below w.heap.size w W → Calls Try.prog 9 #[.slice A0 n0 c0] W (NewBad W)) (hm : ∀ W, Below w.heap.size w W → Calls Try.prog 10 #[.slice A0 n0 c0] W (RNb W)) : Calls Try.prog 3 #[.slice A0 n0 c0, .slice A1 n1 c1] w (OkB w) := by
  have HN := Lib.hid (hn w (Below.refl _ _))
  have HM := Lib.hid hm
  have d1 : ¬ (20 : Int) < (n0 : Int) := by omega
  have d2 : ¬ (50 : Int) < (n1 : Int) := by omega
  have dz : (0 : Int) ≤ (n1 : Int) := by omega
  clear hn hm h1 h2
  rcases Nat.eq_zero_or_pos n1 with h0 | h0
  · subst h0
    go_enter Try.func3, Try.ntmps3
    go_wp2_with (first
      | ((go_at_call 9; with_reducible refine HN.out.mono ?_); rintro e W1 ⟨rfl, hb1⟩; have HB1 := Lib.hid hb1; clear hb1)
      | ((go_at_call 10; with_reducible refine (HM.out _ HB1.out).mono ?_); rintro e W2 ⟨rfl, hb2⟩; have HB2 := Lib.hid (HB1.out.trans (hb2.mono HB1.out.size)); clear hb2)
      | ((go_at_call 11; with_reducible refine (num_any _ _).mono ?_); rintro e w' ⟨rfl, rfl⟩))
    refine wp_loop_rounds 1 ?_
    rw [rounds_succ]
    go_wp2_with ((go_at_call 8; with_reducible refine (works_any W2).mono ?_); rintro e W3 ⟨rfl, hb⟩; have HB3 := Lib.hid (HB2.out.trans (hb.mono HB2.out.size)); clear hb)
    go_ret
    exact ⟨rfl, HB3.out⟩
  · have h0' : (0 : Int) < (n1 : Int) := by omega
    go_enter Try.func3, Try.ntmps3
    go_wp2_with (first
      | ((go_at_call 9; with_reducible refine HN.out.mono ?_); rintro e W1 ⟨rfl, hb1⟩; have HB1 := Lib.hid hb1; clear hb1)
      | ((go_at_call 10; with_reducible refine (HM.out _ HB1.out).mono ?_); rintro e W2 ⟨rfl, hb2⟩; have HB2 := Lib.hid (HB1.out.trans (hb2.mono HB1.out.size)); clear hb2)
      | ((go_at_call 11; with_reducible refine (num_any _ _).mono ?_); rintro e w' ⟨rfl, rfl⟩))
    refine wp_loop_rounds 1 ?_
    rw [rounds_succ]
    go_wp2_with ((go_at_call 8; with_reducible refine (works_any W2).mono ?_); rintro e W3 ⟨rfl, hb⟩; have HB3 := Lib.hid (HB2.out.trans (hb.mono HB2.out.size)); clear hb)
    go_ret
    exact ⟨rfl, HB3.out⟩
theorem plays_main (A0 A1 : Option Addr) (n1 c0 c1 : Nat) (xs : List Int) (L : List KA) (w : World) (h0 : Ints w (.slice A0 xs.length c0) xs) (h1 : Acts w (.slice A1 n1 c1) L) (hx1 : 1 ≤ xs.length) (hx2 : xs.length ≤ 20) (hL : L.length ≤ 50) (he : erAll xs = true) :
    Calls Try.prog 3 #[.slice A0 xs.length c0, .slice A1 n1 c1] w (OkB w) := by
  obtain ⟨rfl, hr⟩ := acts_at h1
  have HN := Lib.hid (new_ws (w := w) (.slice A0 xs.length c0) xs (Below.refl _ _) h0 hx1 (by omega) he)
  have HM := Lib.hid (fun W (hW : Below w.heap.size w W) => (show Calls Try.prog 10 #[.slice A0 xs.length c0] W (RN W xs) from (rNew_any _ xs W (h0.below hW) hx1 (by omega)).mono fun e w' h => by unfold RNP at h; rwa [if_pos he] at h))
  have hL2 : ¬ (50 : Int) < L.length := by omega
  have hx3 : ¬ (20 : Int) < xs.length := by omega
  have HL := Lib.hid hL
  have HR := Lib.hid hr
  clear h0 h1 hr he hx1 hx2 hL
  go_enter Try.func3, Try.ntmps3
  go_wp2_with (first
    | ((go_at_call 9; with_reducible refine HN.out.mono ?_); rintro e W1 ⟨b, g, cap, rfl, h⟩; have S0 := Lib.hid h; clear h)
    | ((go_at_call 10; refine (HM.out _ S0.out.2).mono ?_); rintro e W2 ⟨gr, cr, rfl, hrf, hb2⟩; have S1 := Lib.hid (S0.out.later hb2); have R1 := Lib.hid hrf; clear hrf hb2)
    | ((go_at_call 11; with_reducible refine (num_any _ _).mono ?_); rintro e w' ⟨rfl, rfl⟩))
  go_loopw [7, 9] (fun v i wr => ∃ (k gr cr : Nat) (l : List Blk), k ≤ L.length ∧ i = .int .i64 k ∧ v = .slice (some ⟨gr, 0, none⟩) l.length cr ∧ Hid (WS w b g cap l wr) ∧ Hid (Rf wr gr l)) (fun _ i _ => L.length - (RowKit.intOf i).toNat)
  case atStart => exact ⟨0, gr, cr, mk xs, Nat.zero_le _, rfl, rfl, S1, R1⟩
  case round =>
    obtain ⟨k, gr, cr, l, hk, rfl, rfl, HS, HRf⟩ := hrel
    by_cases hlt : k < L.length
    · obtain ⟨ga, o, rfl, hga, hcell⟩ := HR.out (by omega)
      obtain ⟨a0, a1, a2, a3⟩ := hcell k hlt
      have a0 := (HS.out.2.cell (p := ⟨ga, o + k * 4, none⟩) hga).trans a0
      have a1 := (HS.out.2.cell (p := ⟨ga, o + k * 4 + 1, none⟩) hga).trans a1
      have a2 := (HS.out.2.cell (p := ⟨ga, o + k * 4 + 2, none⟩) hga).trans a2
      have a3 := (HS.out.2.cell (p := ⟨ga, o + k * 4 + 3, none⟩) hga).trans a3
      generalize L[k] = x at *
      obtain ⟨wh, bl, st, er⟩ := x
      dsimp only at a0 a1 a2 a3
      have HA := Lib.hid (act_lit (cr := cr) HS.out.1 HRf.out wh bl st er)
      generalize nx l ⟨wh, bl, st, er⟩ = l' at *
      clear hcell
      go_wp2_with (first
        | ((go_at_call 12; with_reducible refine HA.out.mono ?_); rintro e W3 ⟨gr', cr', rfl, hp, hrf, hch⟩; have HS3 := Lib.hid (HS.out.mv ⟨hp, hch⟩); have HR3 := Lib.hid hrf; clear hp hrf hch)
        | ((go_at_call 13; refine (is_any HS3.out.1 HR3.out).mono ?_); rintro e W4 ⟨rfl, hb⟩; have HS4 := Lib.hid (HS3.out.later hb); have HR4 := Lib.hid (HR3.out.below hb); clear hb))
      go_roundw
      case rel => exact ⟨k + 1, gr', cr', l', by omega, by go_num, rfl, HS4, HR4⟩
      case measure => simp [RowKit.intOf]; omega
    · have hkl : k = L.length := by omega
      subst hkl
      go_wp2_with ((go_at_call 8; with_reducible refine (works_any wr).mono ?_); rintro e W3 ⟨rfl, hb⟩; have HB3 := Lib.hid (HS.out.2.trans (hb.mono HS.out.2.size)); clear hb)
      go_ret
      exact ⟨rfl, HB3.out⟩
theorem plays_any (v0 v1 : Value) (xs : List Int) (L : List KA) (w : World) (h0 : Ints w v0 xs) (h1 : Acts w v1 L) : Calls Try.prog 3 #[v0, v1] w (OkB w) := by
  have h0' := h0
  obtain ⟨A0, c0, rfl, _⟩ := h0
  have h1' := h1
  obtain ⟨A1, c1, rfl, _⟩ := h1
  by_cases hp : 20 < xs.length ∨ (xs.length ≤ 20 ∧ 50 < L.length)
  · exact plays_pre A0 A1 _ _ c0 c1 w hp
  · by_cases hx : xs.length = 0
    · exact plays_bad A0 A1 _ _ c0 c1 w (by omega) (by omega) (fun W hW => New_len _ xs W (h0'.below hW) (.inl hx)) (fun W hW => rNew_len _ xs W (h0'.below hW) (.inl hx))
    · cases he : erAll xs
      · refine plays_bad A0 A1 _ _ c0 c1 w (by omega) (by omega) (fun W hW => (New_any _ xs W (h0'.below hW) (by omega) (by omega)).mono fun e w' h => ?_) (fun W hW => (rNew_any _ xs W (h0'.below hW) (by omega) (by omega)).mono fun e w' h => ?_)
        · unfold NewP at h
          rwa [he, if_neg (by decide)] at h
        · unfold RNP at h
          rwa [he, if_neg (by decide)] at h
      · exact plays_main A0 A1 _ c0 c1 xs L w h0' h1' (by omega) (by omega) (by omega) he
end Go.Proofs.Ytpojgjbgbbnojaa
