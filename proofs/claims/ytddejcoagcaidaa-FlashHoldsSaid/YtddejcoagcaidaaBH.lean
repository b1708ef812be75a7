/- FlashHolds, whatever the input. Conditions stand in each theorem. -/
import Derived.Test.YtddejcoagcaidaaBE
namespace Go.Proofs.Ytddejcoagcaidaa
open Go.RowKit
set_option linter.unusedVariables false
set_option maxHeartbeats 4000000
set_option maxRecDepth 100000
theorem few_below {w : World} {vl : Value} {L : List KA} (hL : Acts w vl L) (hok : ∀ e ∈ L, KA.ok w e) : ∀ W, Below w.heap.size w W → Calls Try.prog 9 #[vl, .int .i64 40] W (OkB (fewB L 40) W) :=
  fun W hW => few_any vl L 40 W (hL.below hW) (fun e he => ⟨(hok e he).1.below hW, (hok e he).2.below hW⟩) (by omega)
theorem holds_pre {nb np sz en : Int} {vf vl : Value} {xs : List Int} {L : List KA} {w : World} (hx : Ints w vf xs) (hL : Acts w vl L) (hok : ∀ e ∈ L, KA.ok w e)
    (hc : smB nb np sz en = false ∨ (smB nb np sz en = true ∧ ¬ xs.length ≤ 20) ∨ (smB nb np sz en = true ∧ xs.length ≤ 20 ∧ fewB L 40 = false)) : Calls Try.prog 7 #[.agg #[.int .i64 nb, .int .i64 np, .int .i64 sz, .int .i64 en], vf, vl] w (LawPost w) := by
  have HSM := Lib.hid (fun W => small_any nb np sz en W)
  have HF := Lib.hid (few_below hL hok)
  obtain ⟨Af, cf, ef, _⟩ := hx
  obtain ⟨Al, cl, el, _⟩ := hL
  subst ef
  subst el
  clear hok
  rcases hc with h1 | ⟨h1, h2⟩ | ⟨h1, h2, h3⟩
  · have HSB := Lib.hid h1
    clear h1 HF
    go_enter Try.func7, Try.ntmps7
    go_wp2_with (first
      | ((go_at_call 8; with_reducible refine (HSM.out _).mono ?_); rintro e w1 ⟨he, hb⟩; rw [HSB.out] at he; subst he; have HB1 := Lib.hid ((below_alloc w _).trans (hb.mono (by simp))); clear hb)
      | ((go_at_call 10; with_reducible refine (works_any _).mono ?_); rintro e w5 ⟨rfl, hb5⟩; have HB5 := Lib.hid hb5; clear hb5))
    go_ret
    exact ⟨rfl, HB1.out.trans (HB5.out.mono HB1.out.size)⟩
  · have HSB := Lib.hid h1
    have h20 : (20 : Int) < (xs.length : Int) := by omega
    have d20 : decide ((20 : Int) < (xs.length : Int)) = true := decide_eq_true h20
    clear h1 HF h2
    go_enter Try.func7, Try.ntmps7
    go_wp2_with (first
      | ((go_at_call 8; with_reducible refine (HSM.out _).mono ?_); rintro e w1 ⟨he, hb⟩; rw [HSB.out] at he; subst he; have HB1 := Lib.hid ((below_alloc w _).trans (hb.mono (by simp))); clear hb)
      | ((go_at_call 10; with_reducible refine (works_any _).mono ?_); rintro e w5 ⟨rfl, hb5⟩; have HB5 := Lib.hid hb5; clear hb5))
    go_ret
    exact ⟨rfl, HB1.out.trans (HB5.out.mono HB1.out.size)⟩
  · have HSB := Lib.hid h1
    have HFB := Lib.hid h3
    have h20 : ¬ (20 : Int) < (xs.length : Int) := by omega
    have hx20 : (xs.length : Int) ≤ 20 := by omega
    clear h1 h3 h2
    go_enter Try.func7, Try.ntmps7
    go_wp2_with (first
      | ((go_at_call 8; with_reducible refine (HSM.out _).mono ?_); rintro e w1 ⟨he, hb⟩; rw [HSB.out] at he; subst he; have HB1 := Lib.hid ((below_alloc w _).trans (hb.mono (by simp))); clear hb)
      | ((go_at_call 9; with_reducible refine (HF.out _ HB1.out).mono ?_); rintro e w' ⟨he, hw⟩; rw [HFB.out] at he; subst he; subst hw)
      | ((go_at_call 10; with_reducible refine (works_any _).mono ?_); rintro e w5 ⟨rfl, hb5⟩; have HB5 := Lib.hid hb5; clear hb5))
    go_ret
    exact ⟨rfl, HB1.out.trans (HB5.out.mono HB1.out.size)⟩
/-- No device is made. -/
theorem holds_no {nb np sz en : Int} {vf vl : Value} {xs : List Int} {L : List KA} {w : World} (hx : Ints w vf xs) (hL : Acts w vl L) (hok : ∀ e ∈ L, KA.ok w e) (hs : smB nb np sz en = true) (hl : xs.length ≤ 20) (hf : fewB L 40 = true)
    (hn : ∀ W, Below w.heap.size w W → Calls Try.prog 11 #[.agg #[.int .i64 nb, .int .i64 np, .int .i64 sz, .int .i64 en], vf] W fun e w' => e = .returned (.tuple #[.pointer none, .int .i64 2]) ∧ Below W.heap.size W w') : Calls Try.prog 7 #[.agg #[.int .i64 nb, .int .i64 np, .int .i64 sz, .int .i64 en], vf, vl] w (LawPost w) := by
  have HSM := Lib.hid (fun W => small_any nb np sz en W)
  have HF := Lib.hid (few_below hL hok)
  have HN := Lib.hid hn
  have HSB := Lib.hid hs
  have HFB := Lib.hid hf
  obtain ⟨Af, cf, ef, _⟩ := hx
  obtain ⟨Al, cl, el, _⟩ := hL
  subst ef
  subst el
  have h20 : ¬ (20 : Int) < (xs.length : Int) := by omega
  have hx20 : (xs.length : Int) ≤ 20 := by omega
  clear hok hn hs hf hl
  go_enter Try.func7, Try.ntmps7
  go_wp2_with (first
    | ((go_at_call 8; with_reducible refine (HSM.out _).mono ?_); rintro e w1 ⟨he, hb⟩; rw [HSB.out] at he; subst he; obtain ⟨⟨k0, k1, k2, k3⟩, hwl, hbb⟩ := geo_cells hb; have HB1 := Lib.hid hbb; clear hb hbb)
    | ((go_at_call 9; with_reducible refine (HF.out _ HB1.out).mono ?_); rintro e w' ⟨he, hw⟩; rw [HFB.out] at he; subst he; subst hw)
    | ((go_at_call 11; with_reducible refine (HN.out _ HB1.out).mono ?_); rintro e w2 ⟨rfl, hb2⟩; have HB2 := Lib.hid (HB1.out.trans (hb2.mono HB1.out.size)); clear hb2)
    | ((go_at_call 13; with_reducible refine (num_any _ _).mono ?_); rintro e w' ⟨rfl, rfl⟩)
    | ((go_at_call 10; with_reducible refine (works_any _).mono ?_); rintro e w5 ⟨rfl, hb5⟩; have HB5 := Lib.hid hb5; clear hb5))
  go_ret
  exact ⟨rfl, HB2.out.trans (HB5.out.mono HB2.out.size)⟩
theorem Ints.below {w W : World} {v : Value} {xs : List Int} (hx : Ints w v xs) (hW : Below w.heap.size w W) : Ints W v xs := by
  obtain ⟨A, c, e, h⟩ := hx
  refine ⟨A, c, e, fun h0 => ?_⟩
  obtain ⟨g, o, e', hg, hc⟩ := h h0
  exact ⟨g, o, e', Nat.lt_of_lt_of_le hg hW.size, fun j hj => (hW.cell (p := ⟨g, o + j, none⟩) hg).trans (hc j hj)⟩
theorem holds_any (nb np sz en : Int) (vf vl : Value) (xs : List Int) (L : List KA) (w : World) (hx : Ints w vf xs) (hR : ∀ x ∈ xs, I64 x) (hL : Acts w vl L) (hok : ∀ e ∈ L, KA.ok w e) : Calls Try.prog 7 #[.agg #[.int .i64 nb, .int .i64 np, .int .i64 sz, .int .i64 en], vf, vl] w (LawPost w) := by
  cases h1 : smB nb np sz en
  · exact holds_pre hx hL hok (.inl h1)
  by_cases h2 : xs.length ≤ 20
  · cases h3 : fewB L 40
    · exact holds_pre hx hL hok (.inr (.inr ⟨h1, h2, h3⟩))
    cases hv : valB nb np sz en
    · exact holds_no hx hL hok h1 h2 h3 fun W hW => New_bad nb np sz en vf W hv
    · obtain ⟨a, b, c, rfl, rfl, rfl, _⟩ := valB_nat hv
      cases hp : posB xs
      · refine holds_no hx hL hok h1 h2 h3 fun W hW => (New_ok a b c en vf xs W hv (hx.below hW) hR (by omega)).mono ?_
        rintro e w' h
        rw [NewPost, hp] at h
        exact (h.resolve_right (fun h => by cases h.1)).2
      · exact holds_main a b c en vf vl xs L w hx hR hL hok h1 h2 h3 hv hp
  · exact holds_pre hx hL hok (.inr (.inl ⟨h1, h2⟩))
end Go.Proofs.Ytddejcoagcaidaa
