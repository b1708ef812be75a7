/- writeFurther. Conditions stand in each theorem. -/
import Derived.Test.YtngaifokkkmmcaaBE
namespace Go.Proofs.Ytngaifokkkmmcaa
open Go.RowKit
set_option linter.unusedVariables false
set_option maxHeartbeats 2000000
set_option maxRecDepth 100000
/-- x[:k], which lies in x's block. -/
theorem take64o {w : World} {v : Value} {xs : List Nat} (h : U64s w v xs) (k : Nat) (hk : k ≤ xs.length) (hm : xs.length ≤ 1000000) : ∃ v', (∀ W : World, (Instr.slice 44 v none (some (.int .i64 (k : Int))) none).run Try.prog W = .ok v' W) ∧ (∀ w', U64s w' v xs → U64s w' v' (xs.take k)) ∧ (∃ A c, v' = .slice A k c) ∧ (∀ g, v'.ownBlock = some g → v.ownBlock = some g) := by
  obtain ⟨v', h1, h2, h3⟩ := take64 h k hk hm
  refine ⟨v', h1, h2, h3, fun g hg => ?_⟩
  obtain ⟨i0, hi0, hz0, hz1, hz2⟩ := info_parts u64_info
  obtain ⟨A, c, rfl, hc, hx, hr⟩ := h
  have h4 := h1 default
  rw [run_slice_h (P := Try.prog) (w := default) (t := 44) (a := A) (len := xs.length) (cap := c) (ht := under44e) .i64 (k : Int) (by omega) (by omega)] at h4
  simp [sizeOf, typeInfo, elem44, hi0, hz1, sliced] at h4
  subst h4
  rcases A with _ | a
  · simp [Value.ownBlock] at hg
  · by_cases hc0 : c = 0
    · rw [if_pos hc0] at hg; exact hg
    · rw [if_neg hc0] at hg
      simp only [Option.map_some, Value.ownBlock, Option.some.injEq] at hg ⊢
      rw [← hg]
      obtain ⟨g, o, sp⟩ := a
      unfold Addr.add
      split <;> rfl
/-- What writeFurther leaves. -/
def FuP (w : World) (base b d cap : Nat) (r : Except Int (Mm × Nat)) (e : Ending) (w' : World) : Prop :=
  match r with
  | .ok (m', x) => e = .returned (.int .u64 (x : Int)) ∧ Mem w' base b d cap m' ∧ Chg (fun k => k = b ∨ k = d) w w'
  | .error q => e = Pan q ∧ Below w.heap.size w w'
def fuR (r : Except Int Mm) (x : Nat) : Except Int (Mm × Nat) := match r with | .ok m' => .ok (m', x) | .error q => .error q
section
variable {w : World} {base b d cap : Nat} {m : Mm}
theorem further_0 (h : Mem w base b d cap m) (vl va : Value) (hva : U64s w va []) : Calls Try.prog 38 #[.pointer (some ⟨b, 0, none⟩), vl, va] w (FuP w base b d cap (.ok (m, 0))) := by
  obtain ⟨A, c, rfl, -⟩ := hva
  have H := Lib.hid h
  clear h
  go_enter Try.func38, Try.ntmps38
  go_wp2
  go_ret
  exact ⟨rfl, H.out, Chg.refl _ _⟩
theorem further_1 (h : Mem w base b d cap m) (vl va : Value) (x : Nat) (hva : U64s w va [x]) : Calls Try.prog 38 #[.pointer (some ⟨b, 0, none⟩), vl, va] w (FuP w base b d cap (.ok (m, x))) := by
  obtain ⟨A, c, rfl, -, -, hr⟩ := hva
  obtain ⟨g, o, rfl, hg, hcell⟩ := hr (by simp)
  have c0 := hcell 0 (by simp)
  rw [Nat.add_zero] at c0
  have c1 : w.cell? ⟨g, o, none⟩ = some (.int .u64 (x : Int)) := c0
  have hl : ([x] : List Nat).length = 1 := rfl
  rw [hl]
  have H := Lib.hid h
  clear h hcell c0 hr
  go_enter Try.func38, Try.ntmps38
  go_wp2
  go_ret
  exact ⟨rfl, H.out, Chg.refl _ _⟩
theorem further_none (vl va : Value) (xs : List Nat) (hvl : U64s w vl []) (hva : U64s w va xs) (h2 : 2 ≤ xs.length) (hm : xs.length ≤ 256) : Calls Try.prog 38 #[.pointer (some ⟨b, 0, none⟩), vl, va] w (FuP w base b d cap (.error 7)) := by
  obtain ⟨A, c, rfl, -⟩ := hvl
  obtain ⟨A2, c2, rfl, -⟩ := hva
  have HR := Lib.hid (req1_nB 7)
  have d0 : ((xs.length : Int) == 0) = false := beq_eq_false_iff_ne.2 (by omega)
  have d1 : ((xs.length : Int) == 1) = false := beq_eq_false_iff_ne.2 (by omega)
  have d0' : decide ((xs.length : Int) = 0) = false := decide_eq_false (by omega)
  have d1' : decide ((xs.length : Int) = 1) = false := decide_eq_false (by omega)
  generalize xs.length = N at *
  have hl : ([] : List Nat).length = 0 := rfl
  rw [hl]
  clear h2 hm hl
  go_enter Try.func38, Try.ntmps38
  go_wp2_with fail
  with_reducible refine (HR.out _).mono ?_
  rintro e w1 ⟨rfl, hb⟩
  exact ⟨rfl, rfl, hb⟩
theorem further_full (vl va : Value) (l0 : Nat) (ls xs : List Nat) (hvl : U64s w vl (l0 :: ls)) (hva : U64s w va xs) (h2 : 2 ≤ xs.length) (hm : xs.length ≤ 256) (hml : ls.length ≤ 100000) (hk : ls.length + 1 < lsts l0 ((xs.length : Int) + 1)) : Calls Try.prog 38 #[.pointer (some ⟨b, 0, none⟩), vl, va] w (FuP w base b d cap (.error 7)) := by
  have hl0 := hvl.lt (j := 0) (by simp)
  simp only [List.getElem_cons_zero] at hl0
  obtain ⟨A, c, rfl, -, -, hr⟩ := hvl
  obtain ⟨A2, c2, rfl, -⟩ := hva
  obtain ⟨g, o, rfl, hg, hcell⟩ := hr (by simp)
  have c0 := hcell 0 (by simp)
  rw [Nat.add_zero] at c0
  have c1 : w.cell? ⟨g, o, none⟩ = some (.int .u64 (l0 : Int)) := c0
  have hwr : wrap64 ((xs.length : Int) + 1) = (xs.length : Int) + 1 := by unfold wrap64; omega
  have hwr2 : IntKind.i64.wrap ((xs.length : Int) + 1) = (xs.length : Int) + 1 := by rw [IntKind.wrap_i64]; omega
  have HL := Lib.hid (fun W => Lists_any l0 ((xs.length : Int) + 1) W hl0)
  have HR1 := Lib.hid (req1_yB 7)
  have HR2 := Lib.hid (req1_nB 7)
  have d0 : ((xs.length : Int) == 0) = false := beq_eq_false_iff_ne.2 (by omega)
  have d1 : ((xs.length : Int) == 1) = false := beq_eq_false_iff_ne.2 (by omega)
  have d0' : decide ((xs.length : Int) = 0) = false := decide_eq_false (by omega)
  have d1' : decide ((xs.length : Int) = 1) = false := decide_eq_false (by omega)
  have hll : (l0 :: ls).length = ls.length + 1 := rfl
  rw [hll]
  obtain ⟨M, hM⟩ : ∃ M, M = ls.length + 1 := ⟨_, rfl⟩
  rw [← hM] at hk ⊢
  have d2 : decide ((0 : Int) < (M : Int)) = true := decide_eq_true (by omega)
  have d2' : decide (0 < M) = true := decide_eq_true (by omega)
  have d3 : decide (((lsts l0 ((xs.length : Int) + 1) : Nat) : Int) ≤ (M : Int)) = false := decide_eq_false (by omega)
  have hM2 : (M : Int) ≤ 100001 := by omega
  have hM3 : (0 : Int) < (M : Int) := by omega
  have hM4 : 0 < M := by omega
  generalize lsts l0 ((xs.length : Int) + 1) = K at *
  generalize xs.length = NN at *
  have d4 : decide (K ≤ M) = false := decide_eq_false (by omega)
  have hblw := World.block_lt_of_cell? w _ c1
  clear h2 hm hl0 hml hcell c0 hr hll hM hk
  go_enter Try.func38, Try.ntmps38
  go_wp2_with fail
  with_reducible refine (HR1.out _).mono ?_
  rintro e w1 ⟨rfl, hb⟩
  have HB1 := Lib.hid hb
  have c2 := (hb.cell (p := ⟨g, o, none⟩) hblw).trans c1
  clear hb c1
  go_wp2_with ((go_at_call 24; with_reducible refine (HL.out _).mono ?_); rintro e w' ⟨rfl, rfl⟩)
  with_reducible refine (HR2.out _).mono ?_
  rintro e w2 ⟨rfl, hb⟩
  exact ⟨rfl, rfl, HB1.out.trans (hb.mono HB1.out.size)⟩
theorem further_go (h : Mem w base b d cap m) (vl va : Value) (l0 : Nat) (ls xs : List Nat) (hvl : U64s w vl (l0 :: ls)) (hva : U64s w va xs) (hol : Off2 b d vl 1) (h2 : 2 ≤ xs.length) (hm : xs.length ≤ 256) (hml : ls.length ≤ 100000) (hk : lsts l0 ((xs.length : Int) + 1) ≤ ls.length + 1) (hk0 : 1 ≤ lsts l0 ((xs.length : Int) + 1))
    (r : Except Int Mm)
    (HW : ∀ W v, Below w.heap.size w W → U64s W v ((l0 :: ls).take (lsts l0 ((xs.length : Int) + 1))) → (∀ g, v.ownBlock = some g → ¬ (g = b ∨ g = d)) → Calls Try.prog 61 #[.pointer (some ⟨b, 0, none⟩), v, va] W (WlP W base b d cap r)) :
    Calls Try.prog 38 #[.pointer (some ⟨b, 0, none⟩), vl, va] w (FuP w base b d cap (fuR r l0)) := by
  have hl0 := hvl.lt (j := 0) (by simp)
  simp only [List.getElem_cons_zero] at hl0
  obtain ⟨K, hK⟩ : ∃ K, K = lsts l0 ((xs.length : Int) + 1) := ⟨_, rfl⟩
  rw [← hK] at hk hk0 HW
  obtain ⟨vk, hr1, hu1, ⟨A7, c7, rfl⟩, ho1⟩ := take64o hvl K hk (by simp; omega)
  have hvl' := hvl
  obtain ⟨A, c, rfl, -, -, hr⟩ := hvl
  obtain ⟨A2, c2, rfl, -⟩ := hva
  obtain ⟨g, o, rfl, hg, hcell⟩ := hr (by simp)
  have c0 := hcell 0 (by simp)
  rw [Nat.add_zero] at c0
  have c1 : w.cell? ⟨g, o, none⟩ = some (.int .u64 (l0 : Int)) := c0
  have hgn : ¬ (g = b ∨ g = d) := hol (by omega) g rfl
  have hwr : wrap64 ((xs.length : Int) + 1) = (xs.length : Int) + 1 := by unfold wrap64; omega
  have hwr2 : IntKind.i64.wrap ((xs.length : Int) + 1) = (xs.length : Int) + 1 := by rw [IntKind.wrap_i64]; omega
  have HL := Lib.hid (fun W => Lists_any l0 ((xs.length : Int) + 1) W hl0)
  rw [← hK] at HL
  have HR1 := Lib.hid (req1_yB 7)
  have HR2 := Lib.hid (req1_yB 7)
  have d0 : ((xs.length : Int) == 0) = false := beq_eq_false_iff_ne.2 (by omega)
  have d1 : ((xs.length : Int) == 1) = false := beq_eq_false_iff_ne.2 (by omega)
  have d0' : decide ((xs.length : Int) = 0) = false := decide_eq_false (by omega)
  have d1' : decide ((xs.length : Int) = 1) = false := decide_eq_false (by omega)
  have hll : (l0 :: ls).length = ls.length + 1 := rfl
  have HWW := Lib.hid (fun W (hb : Below w.heap.size w W) => HW W _ hb (hu1 W (hvl'.below hb)) (fun g' hg' => hol (by omega) g' (ho1 g' hg')))
  rw [hll] at hr1 hvl' ⊢
  obtain ⟨M, hM⟩ : ∃ M, M = ls.length + 1 := ⟨_, rfl⟩
  rw [← hM] at hk hr1 ⊢
  have d2 : decide ((0 : Int) < (M : Int)) = true := decide_eq_true (by omega)
  have d2' : decide (0 < M) = true := decide_eq_true (by omega)
  have d3 : decide ((K : Int) ≤ (M : Int)) = true := decide_eq_true (by omega)
  have d4 : decide (K ≤ M) = true := decide_eq_true (by omega)
  have hM2 : (M : Int) ≤ 100001 := by omega
  have hM3 : (0 : Int) < (M : Int) := by omega
  have hM4 : 0 < M := by omega
  generalize xs.length = NN at *
  have hblw := World.block_lt_of_cell? w _ c1
  have HC := Lib.hid (And.intro hblw hgn)
  clear h2 hm hl0 hml hcell c0 hr hll hM hk hk0 HW hK hu1 ho1 hol hgn hvl' h
  go_enter Try.func38, Try.ntmps38
  go_wp2_with fail
  with_reducible refine (HR1.out _).mono ?_
  rintro e w1 ⟨rfl, hb⟩
  have HB1 := Lib.hid hb
  have c2 := (hb.cell (p := ⟨g, o, none⟩) hblw).trans c1
  clear hb c1
  go_wp2_with ((go_at_call 24; with_reducible refine (HL.out _).mono ?_); rintro e w' ⟨rfl, rfl⟩)
  with_reducible refine (HR2.out _).mono ?_
  rintro e w2 ⟨rfl, hb⟩
  have HB2 := Lib.hid (HB1.out.trans (hb.mono HB1.out.size))
  have c3 := (HB2.out.cell (p := ⟨g, o, none⟩) hblw).trans ((HB1.out.cell (p := ⟨g, o, none⟩) hblw).symm.trans c2)
  clear hb c2
  have HWZ := Lib.hid (HWW.out w2 HB2.out)
  go_wp2_with fail
  with_reducible refine HWZ.out.mono ?_
  cases r with
  | error q =>
    rintro e w3 ⟨rfl, hb⟩
    exact ⟨rfl, rfl, HB2.out.trans (hb.mono HB2.out.size)⟩
  | ok m' =>
    rintro e w3 ⟨rfl, hm3, hc3⟩
    have c4 := (hc3.cell (p := ⟨g, o, none⟩) (by have := HB2.out.size; show g < _; have : g < w.heap.size := HC.out.1; omega) HC.out.2).trans c3
    have HM := Lib.hid (And.intro hm3 ((Chg.of_below HB2.out).also hc3))
    clear hm3 hc3 c3
    go_wp2
    go_ret
    exact ⟨rfl, HM.out⟩
end
end Go.Proofs.Ytngaifokkkmmcaa
