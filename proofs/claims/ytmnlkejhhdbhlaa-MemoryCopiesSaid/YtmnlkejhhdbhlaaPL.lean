/- The walk of MemoryPlays. Conditions stand in each theorem. -/
import Derived.Test.YtmnlkejhhdbhlaaPK
import Derived.Test.YtmnlkejhhdbhlaaN
import Derived.Test.YtmnlkejhhdbhlaaKW
import Derived.Deep.RegionHeld3
namespace Go.Proofs.Ytmnlkejhhdbhlaa
open Go.RowKit
set_option linter.unusedVariables false
set_option maxHeartbeats 8000000
set_option maxRecDepth 100000
theorem few_each {L : List KA} {most : Int} (h : fewB L most = true) : (L.length : Int) ≤ most ∧ ∀ e ∈ L, e.l.length ≤ 5000 := by
  unfold fewB at h
  simp only [Bool.and_eq_true, decide_eq_true_eq, List.all_eq_true] at h
  exact h
theorem few_any2 (v : Value) (L : List KA) (most : Int) (w : World) (hL : Acts w v L) (hok : ∀ e ∈ L, KA.ok w e) (hm : most ≤ 4611686018427387904) : Calls Try.prog 9 #[v, .int .i64 most] w fun e w' => e = .returned (.bool (fewB L most)) ∧ w = w' := by
  by_cases h1 : (L.length : Int) ≤ most
  · exact few_any v L most w hL hok (by omega)
  · obtain ⟨A, c, rfl, -⟩ := hL
    unfold fewB
    have g1 : decide ((L.length : Int) > most) = true := decide_eq_true (by omega)
    have g2 : decide (most < (L.length : Int)) = true := decide_eq_true (by omega)
    have HE := Lib.hid (decide_eq_false h1)
    clear hok h1 hm
    go_enter Try.func9, Try.ntmps9
    go_wp2
    go_ret
    exact ⟨by rw [HE.out]; rfl, rfl⟩
theorem plays_works (p : Int) (v : Value) (L : List KA) (many : Int) (w : World) (h : 4 < p ∧ p ≤ 1024 ∨ fewB L 15 = false) (hL : Acts w v L) (hok : ∀ e ∈ L, KA.ok w e) : Calls Try.prog 3 #[.int .i64 p, v, .int .i64 many] w (OkB w) := by
  have HF := Lib.hid (few_any2 v L 15 w hL hok (by decide))
  have HW := Lib.hid (works_any w)
  by_cases h4 : 4 < p
  · have g1 : decide (p > 4) = true := decide_eq_true h4
    have g1' : decide (4 < p) = true := decide_eq_true h4
    by_cases h5 : p ≤ 1024
    · have g2 : decide (p ≤ 1024) = true := decide_eq_true h5
      clear h hL hok
      go_enter Try.func3, Try.ntmps3
      go_wp2_with ((go_at_call 10; with_reducible refine HW.out.mono ?_); rintro e w' ⟨rfl, hb⟩)
      go_ret
      exact ⟨rfl, hb⟩
    · have g2 : decide (p ≤ 1024) = false := decide_eq_false h5
      have hf : fewB L 15 = false := h.resolve_left fun hh => h5 hh.2
      rw [hf] at HF
      clear h hL hok
      go_enter Try.func3, Try.ntmps3
      go_wp2_with (first | ((go_at_call 10; with_reducible refine HW.out.mono ?_); rintro e w' ⟨rfl, hb⟩) | ((go_at_call 9; with_reducible refine HF.out.mono ?_); rintro e w' ⟨rfl, rfl⟩))
      go_ret
      exact ⟨rfl, hb⟩
  · have g1 : decide (p > 4) = false := decide_eq_false h4
    have g1' : decide (4 < p) = false := decide_eq_false h4
    have hf : fewB L 15 = false := h.resolve_left fun hh => h4 hh.1
    rw [hf] at HF
    clear h hL hok
    go_enter Try.func3, Try.ntmps3
    go_wp2_with (first | ((go_at_call 10; with_reducible refine HW.out.mono ?_); rintro e w' ⟨rfl, hb⟩) | ((go_at_call 9; with_reducible refine HF.out.mono ?_); rintro e w' ⟨rfl, rfl⟩))
    go_ret
    exact ⟨rfl, hb⟩
theorem plays_bad (p : Int) (A : Option Addr) (c : Nat) (L : List KA) (many : Int) (w : World) (h : ¬ (1 ≤ p ∧ p ≤ 1024)) (hf : fewB L 15 = true) (hL : Acts w (.slice A L.length c) L) (hok : ∀ e ∈ L, KA.ok w e) (hm : L.length ≤ 4611686018427387904) : Calls Try.prog 3 #[.int .i64 p, .slice A L.length c, .int .i64 many] w (OkB w) := by
  have HF := Lib.hid (few_any _ L 15 w hL hok hm)
  rw [hf] at HF
  have HN := Lib.hid (New_bad p h w)
  have HR := Lib.hid (rNew_bad p h)
  have HW := Lib.hid works_any
  have hg : decide (p > 4) = false ∧ decide (4 < p) = false ∨ decide (p > 4) = true ∧ decide (4 < p) = true ∧ decide (p ≤ 1024) = false := by
    by_cases h4 : 4 < p
    · exact .inr ⟨decide_eq_true h4, decide_eq_true h4, decide_eq_false (by omega)⟩
    · exact .inl ⟨decide_eq_false h4, decide_eq_false h4⟩
  have hll : (L.length : Int) ≤ 15 := (few_each hf).1
  obtain ⟨n, hn⟩ : ∃ n, n = L.length := ⟨_, rfl⟩
  rw [← hn] at HF hll ⊢
  clear hn hL hok hm hf h
  rcases hg with ⟨g1, g2⟩ | ⟨g1, g2, g3⟩
  · go_enter Try.func3, Try.ntmps3
    go_upto_region 3 with ((go_at_call 9; with_reducible refine HF.out.mono ?_); rintro e w' ⟨rfl, rfl⟩)
    go_upto_region 4 with ((go_at_call 11; with_reducible refine HN.out.mono ?_); rintro e w1 ⟨rfl, hb1⟩; have HB1 := Lib.hid hb1; clear hb1)
    go_upto_region 8 with (first | ((go_at_call 12; with_reducible refine (HR.out w1).mono ?_); rintro e w2 ⟨A1, n1, c1, rfl, -, hb2⟩; have HB2 := Lib.hid (HB1.out.trans (hb2.mono HB1.out.size)); clear hb2) | ((go_at_call 13; with_reducible refine (num_any _ _).mono ?_); rintro e w' ⟨rfl, rfl⟩))
    have HB3 := Lib.hid (HB2.out.trans ((below_alloc w2 (.cells #[.slice A1 n1 c1, .slice none 0 0] 32)).mono HB2.out.size))
    generalize w2.alloc (.cells #[.slice A1 n1 c1, .slice none 0 0] 32) = w3 at *
    go_loopw [11] (fun i wr => i = .int .i64 0 ∧ wr = w3) (fun _ _ => 0)
    case atStart => exact ⟨rfl, rfl⟩
    case round =>
      obtain ⟨rfl, rfl⟩ := hrel
      by_cases h0 : 0 < n
      · have h1 : decide ((0 : Int) < (n : Int)) = true := decide_eq_true (by omega)
        have h2 : (0 : Int) < (n : Int) := by omega
        go_wp2_with ((go_at_call 10; with_reducible refine (HW.out _).mono ?_); rintro e w' ⟨rfl, hb⟩)
        go_ret
        exact ⟨rfl, HB3.out.trans (hb.mono HB3.out.size)⟩
      · obtain rfl : n = 0 := by omega
        go_wp2_with ((go_at_call 10; with_reducible refine (HW.out _).mono ?_); rintro e w' ⟨rfl, hb⟩)
        go_ret
        exact ⟨rfl, HB3.out.trans (hb.mono HB3.out.size)⟩
  · go_enter Try.func3, Try.ntmps3
    go_upto_region 3 with ((go_at_call 9; with_reducible refine HF.out.mono ?_); rintro e w' ⟨rfl, rfl⟩)
    go_upto_region 4 with ((go_at_call 11; with_reducible refine HN.out.mono ?_); rintro e w1 ⟨rfl, hb1⟩; have HB1 := Lib.hid hb1; clear hb1)
    go_upto_region 8 with (first | ((go_at_call 12; with_reducible refine (HR.out w1).mono ?_); rintro e w2 ⟨A1, n1, c1, rfl, -, hb2⟩; have HB2 := Lib.hid (HB1.out.trans (hb2.mono HB1.out.size)); clear hb2) | ((go_at_call 13; with_reducible refine (num_any _ _).mono ?_); rintro e w' ⟨rfl, rfl⟩))
    have HB3 := Lib.hid (HB2.out.trans ((below_alloc w2 (.cells #[.slice A1 n1 c1, .slice none 0 0] 32)).mono HB2.out.size))
    generalize w2.alloc (.cells #[.slice A1 n1 c1, .slice none 0 0] 32) = w3 at *
    go_loopw [11] (fun i wr => i = .int .i64 0 ∧ wr = w3) (fun _ _ => 0)
    case atStart => exact ⟨rfl, rfl⟩
    case round =>
      obtain ⟨rfl, rfl⟩ := hrel
      by_cases h0 : 0 < n
      · have h1 : decide ((0 : Int) < (n : Int)) = true := decide_eq_true (by omega)
        have h2 : (0 : Int) < (n : Int) := by omega
        go_wp2_with ((go_at_call 10; with_reducible refine (HW.out _).mono ?_); rintro e w' ⟨rfl, hb⟩)
        go_ret
        exact ⟨rfl, HB3.out.trans (hb.mono HB3.out.size)⟩
      · obtain rfl : n = 0 := by omega
        go_wp2_with ((go_at_call 10; with_reducible refine (HW.out _).mono ?_); rintro e w' ⟨rfl, hb⟩)
        go_ret
        exact ⟨rfl, HB3.out.trans (hb.mono HB3.out.size)⟩
/-- A call of one of the acts. -/
theorem acts_cells {w X : World} {A : Option Addr} {c : Nat} {L : List KA} (hL : Acts w (.slice A L.length c) L) (hb : Below w.heap.size w X) {k : Nat} (hk : k < L.length) : ∃ g o, A = some ⟨g, o, none⟩ ∧ g < w.heap.size ∧ X.cell? ⟨g, o + k * 5, none⟩ = some (.int .i64 L[k].wh) ∧ X.cell? ⟨g, o + k * 5 + 1, none⟩ = some (.int .i64 L[k].n) ∧ X.cell? ⟨g, o + k * 5 + 2, none⟩ = some (.int .u64 (L[k].ad : Int)) ∧ X.cell? ⟨g, o + k * 5 + 3, none⟩ = some L[k].vb ∧ X.cell? ⟨g, o + k * 5 + 4, none⟩ = some (.int .u8 (L[k].x.toNat : Int)) := by
  obtain ⟨A', c', e, hr⟩ := hL
  injection e with e1 e2 e3
  subst e1
  obtain ⟨g, o, hA, hg, hc⟩ := hr (by omega)
  obtain ⟨h0, h1, h2, h3, h4⟩ := hc k hk
  have key := fun j => hb.cell (p := ⟨g, o + k * 5 + j, none⟩) hg
  exact ⟨g, o, hA, hg, (key 0).trans h0, (key 1).trans h1, (key 2).trans h2, (key 3).trans h3, (key 4).trans h4⟩
theorem plays_start (pg : Nat) (h1 : 1 ≤ pg) (h2 : pg ≤ 4) {w w1 w2 : World} {b d : Nat} {A1 : Option Addr} {n1 c1 : Nat} (hm : Mem w1 w.heap.size b d (pg * 4096) (Mm.new (pg * 4096))) (hb1 : Below w.heap.size w w1) (hr : Rf w2 (fun j => j < w1.heap.size) A1 n1 c1 none 0 0 (Mm.new (pg * 4096))) (hb2 : Below w1.heap.size w1 w2) :
    Pl w w2.heap.size 0 b (w2.alloc (.cells #[.slice A1 n1 c1, .slice none 0 0] 32)) := by
  have hbt := below_alloc w2 (.cells #[.slice A1 n1 c1, .slice none 0 0] 32)
  have hs1 := hb1.size
  have hs2 := hb2.size
  have hbl := hm.lt
  have hdl := hm.dlt
  exact ⟨d, _, _, A1, n1, c1, none, 0, 0, (hm.below hb2).below hbt, Gm.new (by omega) (by omega), by simp [Mm.new], ((hr.or (hr.newer (T := fun j => w2.heap.size ≤ j) fun j hj => hj)).mono fun j hj => by
    rcases hj with rfl | rfl | rfl
    · exact .inl hbl
    · exact .inl hdl
    · exact .inr (Nat.le_refl _)).below hbt, heap_alloc_new w2 _, by omega, hb1.trans ((hb2.trans (hbt.mono hs2)).mono hs1)⟩
theorem plays_good (pg : Nat) (A : Option Addr) (c : Nat) (L : List KA) (many : Int) (w : World) (h1 : 1 ≤ pg) (h2 : pg ≤ 4) (hf : fewB L 15 = true) (hL : Acts w (.slice A L.length c) L) (hok : ∀ e ∈ L, KA.ok w e) (hm : L.length ≤ 4611686018427387904) : Calls Try.prog 3 #[.int .i64 (pg : Int), .slice A L.length c, .int .i64 many] w (OkB w) := by
  have HF := Lib.hid (few_any _ L 15 w hL hok hm)
  rw [hf] at HF
  have HN := Lib.hid (New_ok pg h1 (by omega) w)
  have HR := Lib.hid (rNew_ok pg h1 (by omega))
  have HW := Lib.hid works_any
  have HST := Lib.hid (And.intro h1 h2)
  have HFE := Lib.hid (few_each hf)
  have HL := Lib.hid hL
  have HOK := Lib.hid hok
  have g1 : decide ((pg : Int) > 4) = false := decide_eq_false (by omega)
  have g2 : decide ((4 : Int) < (pg : Int)) = false := decide_eq_false (by omega)
  have g3 : decide (4 < pg) = false := decide_eq_false (by omega)
  have hll : (L.length : Int) ≤ 15 := HFE.out.1
  have HLN := Lib.hid (show L.length ≤ 15 by omega)
  clear hL hok hm hf h1 h2
  go_enter Try.func3, Try.ntmps3
  go_upto_region 3 with ((go_at_call 9; with_reducible refine HF.out.mono ?_); rintro e w' ⟨rfl, rfl⟩)
  go_upto_region 4 with ((go_at_call 11; with_reducible refine HN.out.mono ?_); rintro e w1 ⟨b0, d0, rfl, hm1, hb1⟩; have HM1 := Lib.hid hm1; have HB1 := Lib.hid hb1; clear hm1 hb1)
  go_upto_region 8 with (first | ((go_at_call 12; with_reducible refine (HR.out w1).mono ?_); rintro e w2 ⟨A1, n1, c1, rfl, hr2, hb2⟩; have HPL := Lib.hid (plays_start pg HST.out.1 HST.out.2 HM1.out HB1.out hr2 hb2); clear hb2 hr2) | ((go_at_call 13; with_reducible refine (num_any _ _).mono ?_); rintro e w' ⟨rfl, rfl⟩))
  generalize w2.alloc (.cells #[.slice A1 n1 c1, .slice none 0 0] 32) = w3 at *
  obtain ⟨q, hq⟩ : ∃ q, q = w2.heap.size := ⟨_, rfl⟩
  rw [← hq] at HPL ⊢
  clear hq HN HF HR HM1 HB1
  go_loopw [7, 11, 12, 13, 14] (fun t7 i t12 t13 t14 wr => ∃ k b : Nat, k ≤ L.length ∧ i = .int .i64 k ∧ t7 = .pointer (some ⟨b, 0, none⟩) ∧ Hid (Pl w q k b wr)) (fun _ i _ _ _ _ => L.length - (RowKit.intOf i).toNat)
  case atStart => exact ⟨0, b0, Nat.zero_le _, rfl, rfl, HPL⟩
  case round =>
    obtain ⟨k, b, hk, rfl, rfl, HP⟩ := hrel
    by_cases hlt : k < L.length
    · obtain ⟨d, cap, m, B1, p1, e1, B2, p2, e2, hm, hG, hmk, hr, h9, hq9, hbw⟩ := HP.out
      obtain ⟨g, o, rfl, hg, k0, k1, k2, k3, k4⟩ := acts_cells HL.out hbw hlt
      have hok := HOK.out L[k] (List.getElem_mem hlt)
      have hle := HFE.out.2 L[k] (List.getElem_mem hlt)
      have HAC := Lib.hid (fun Y hY => play_act hm hG (by have := HLN.out; omega) hr h9 hbw L[k] hok hle Y hY)
      have hnx := nx_ok hG (by have := HLN.out; omega) L[k]
      have HNX := Lib.hid (show Gm (nx m L[k]) ∧ (nx m L[k]).L.length ≤ k + 1 from ⟨hnx.1, by omega⟩)
      generalize nx m L[k] = m' at HAC HNX
      obtain ⟨⟨Av, cv, hvb, -⟩, -⟩ := hok
      rw [hvb] at k3
      unfold KA.cells at HAC
      rw [hvb] at HAC
      generalize L[k].wh = wh at k0 HAC
      generalize L[k].n = n at k1 HAC
      generalize (L[k].ad : Int) = ad at k2 HAC
      generalize (L[k].x.toNat : Int) = xi at k4 HAC
      generalize L[k].l.length = lv at k3 HAC
      have HA1 := Lib.hid (HAC.out wr.drew (Below.refl _ _).drew)
      have HA2 := Lib.hid (HAC.out (wr.alloc (.cells #[.slice none 0 0, .slice none 0 0] 32)).drew (below_alloc _ _).drew)
      have u0 := cell_of_row wr q 0 _ 32 (0, 0) h9
      have u1 := cell_of_row wr q 1 _ 32 (0, 0) h9
      have HMM := Lib.hid hm
      have H9 := Lib.hid h9
      have HQ9 := Lib.hid hq9
      have HBW := Lib.hid hbw
      have hlti : (k : Int) < (L.length : Int) := by omega
      have HCE : Hid (∀ Y w', Below wr.heap.size wr Y → Chg (fun j => j = b ∨ j = d) Y w' → (w'.cell? ⟨q, 0, none⟩ = some (.slice B1 p1 e1) ∧ w'.cell? ⟨q, 1, none⟩ = some (.slice B2 p2 e2) ∧ w'.cell? ⟨g, o + k * 5, none⟩ = some (.int .i64 wh) ∧ w'.cell? ⟨g, o + k * 5 + 1, none⟩ = some (.int .i64 n) ∧ w'.cell? ⟨g, o + k * 5 + 2, none⟩ = some (.int .u64 ad) ∧ w'.cell? ⟨g, o + k * 5 + 3, none⟩ = some (.slice Av lv cv) ∧ w'.cell? ⟨g, o + k * 5 + 4, none⟩ = some (.int .u8 xi)) ∧ w'.frozen? ⟨q, 0, none⟩ = false ∧ w'.frozen? ⟨q, 1, none⟩ = false) := Lib.hid fun Y w' hY hc => by
        have hqw := (HMM.out.below hY).keepTy hc ((hY.block _ (Array.getElem?_eq_some_iff.1 H9.out).1).trans H9.out) (by decide) (by decide)
        have h3 := HMM.out.hb
        have h4 := HMM.out.row.1
        have hs := HBW.out.size
        have key := fun j (y : Value) (hy : wr.cell? ⟨g, j, none⟩ = some y) => (hc.cell (p := ⟨g, j, none⟩) (by show g < _; have := hY.size; omega) (by show ¬ (g = b ∨ g = d); omega)).trans ((hY.cell (p := ⟨g, j, none⟩) (by show g < _; omega)).trans hy)
        exact ⟨⟨cell_of_row w' q 0 _ 32 (0, 0) hqw, cell_of_row w' q 1 _ 32 (0, 0) hqw, key _ _ k0, key _ _ k1, key _ _ k2, key _ _ k3, key _ _ k4⟩, frozen_of_row w' q 0 _ 32 hqw, frozen_of_row w' q 1 _ 32 hqw⟩
      have hqn : q ≠ wr.heap.size := by have := (Array.getElem?_eq_some_iff.1 H9.out).1; omega
      have hgn : g ≠ wr.heap.size := by have := HBW.out.size; omega
      clear hm hG hmk hr h9 hq9 hbw hle hnx hvb hg
      go_upto_region 10 with fail
      go_region_held3 (fun w' => w'.cell? ⟨q, 0, none⟩ = some (.slice B1 p1 e1) ∧ w'.cell? ⟨q, 1, none⟩ = some (.slice B2 p2 e2) ∧ w'.cell? ⟨g, o + k * 5, none⟩ = some (.int .i64 wh) ∧ w'.cell? ⟨g, o + k * 5 + 1, none⟩ = some (.int .i64 n) ∧ w'.cell? ⟨g, o + k * 5 + 2, none⟩ = some (.int .u64 ad) ∧ w'.cell? ⟨g, o + k * 5 + 3, none⟩ = some (.slice Av lv cv) ∧ w'.cell? ⟨g, o + k * 5 + 4, none⟩ = some (.int .u8 xi))
        (first | (refine ⟨?_, ?_, ?_, ?_, ?_, ?_, ?_⟩ <;> assumption) | (refine ⟨?_, ?_, ?_, ?_, ?_, ?_, ?_⟩ <;> exact cell_alloc (by assumption)) | (refine ⟨?_, ?_, ?_, ?_, ?_, ?_, ?_⟩ <;> exact cell_put2 (by assumption) (by omega)))
        (first
          | ((go_at_call 14; with_reducible refine HA1.out.mono ?_); rintro e w' ⟨b', d', cap', C1, x1, y1, C2, x2, y2, rfl, hm', hr', hc', hbd'⟩; have hpm := pm_a HMM.out H9.out HBW.out HQ9.out HNX.out.1 HNX.out.2 (Below.refl _ _).drew hm' hr' hc'; have HPM := Lib.hid hpm; obtain ⟨⟨o0, o1, o2, o3, o4, o5, o6⟩, of0, of1⟩ := HCE.out _ w' (Below.refl _ _).drew hc'; clear hm' hr' hc' hbd' hpm)
          | ((go_at_call 14; with_reducible refine HA2.out.mono ?_); rintro e w' ⟨b', d', cap', C1, x1, y1, C2, x2, y2, rfl, hm', hr', hc', hbd'⟩; obtain ⟨hz, hpm⟩ := pm_b HMM.out H9.out HBW.out HQ9.out HNX.out.1 HNX.out.2 rfl hm' hr' hc'; have HPM := Lib.hid hpm; have z0 := cell_of_row w' wr.heap.size 0 _ 32 (0, 0) hz; have z1 := cell_of_row w' wr.heap.size 1 _ 32 (0, 0) hz; have zf := fun j => frozen_of_row w' wr.heap.size j _ 32 hz; obtain ⟨⟨o0, o1, o2, o3, o4, o5, o6⟩, of0, of1⟩ := HCE.out _ w' (below_alloc _ _).drew hc'; clear hm' hr' hc' hbd' hpm hz))
      all_goals
        rename_i hh
        clear hh HA1 HA2 HCE HAC
        have HIS := Lib.hid (HPM.out.is many)
        have HNP := Lib.hid HPM.out.next
        obtain ⟨dd, cc, mm, v0, v1, -, -, -, -, h94, h134, -, -⟩ := HPM.out
        have a0 := cell_of_row _ q 0 _ 32 (0, 0) h94
        have a1 := cell_of_row _ q 1 _ 32 (0, 0) h94
        have af := fun j => frozen_of_row _ q j _ 32 h94
        have b0 := cell_of_row _ _ 0 _ 32 (0, 0) h134
        have b1 := cell_of_row _ _ 1 _ 32 (0, 0) h134
        have e0 := cell_of_row _ q 0 _ 32 (0, 0) (set2 _ q v0 v1 (.slice C1 x1 y1) (.slice C2 x2 y2) 32 h94)
        have e1' := cell_of_row _ q 1 _ 32 (0, 0) (set2 _ q v0 v1 (.slice C1 x1 y1) (.slice C2 x2 y2) 32 h94)
        clear h94 h134 HPM o0 o1 o2 o3 o4 o5 o6 of0 of1 k0 k1 k2 k3 k4 u0 u1
        first
          | (obtain ⟨w4, hw4⟩ : ∃ w4, w4 = w'.alloc (.cells #[.slice C1 x1 y1, .slice C2 x2 y2] 32) := ⟨_, rfl⟩
             rw [← hw4] at HIS HNP a0 a1 af b0 b1 e0 e1' ⊢)
          | (obtain ⟨w4, hw4⟩ : ∃ w4, w4 = (w'.setCell ⟨wr.heap.size, 0, none⟩ (.slice C1 x1 y1)).setCell ⟨wr.heap.size, 1, none⟩ (.slice C2 x2 y2) := ⟨_, rfl⟩
             rw [← hw4] at HIS HNP a0 a1 af b0 b1 e0 e1' ⊢
             clear z0 z1 zf)
        clear hw4
        go_upto_region 11 with fail
        go_region
        have HIS5 := Lib.hid (HIS.out ((w4.setCell ⟨q, 0, none⟩ (.slice C1 x1 y1)).setCell ⟨q, 1, none⟩ (.slice C2 x2 y2)).drew (Below.refl _ _).drew)
        have HNP5 := Lib.hid (HNP.out.below (Y := ((w4.setCell ⟨q, 0, none⟩ (.slice C1 x1 y1)).setCell ⟨q, 1, none⟩ (.slice C2 x2 y2)).drew) (Below.refl _ _).drew)
        have j0 : ((w4.setCell ⟨q, 0, none⟩ (.slice C1 x1 y1)).setCell ⟨q, 1, none⟩ (.slice C2 x2 y2)).drew.cell? ⟨q, 0, none⟩ = some (.slice C1 x1 y1) := e0
        have j1 : ((w4.setCell ⟨q, 0, none⟩ (.slice C1 x1 y1)).setCell ⟨q, 1, none⟩ (.slice C2 x2 y2)).drew.cell? ⟨q, 1, none⟩ = some (.slice C2 x2 y2) := e1'
        clear HIS HNP a0 a1 af b0 b1 e0 e1'
        obtain ⟨w5, hw5⟩ : ∃ w5, w5 = ((w4.setCell ⟨q, 0, none⟩ (.slice C1 x1 y1)).setCell ⟨q, 1, none⟩ (.slice C2 x2 y2)).drew := ⟨_, rfl⟩
        rw [← hw5] at HIS5 HNP5 j0 j1 ⊢
        clear hw5
        go_wp2_with ((go_at_call 15; with_reducible refine HIS5.out.mono ?_); rintro e w6 ⟨rfl, hb6⟩; have HN6 := Lib.hid (HNP5.out.below hb6); clear hb6)
        go_roundw
        case rel => exact ⟨k + 1, b', by omega, by go_num, rfl, HN6⟩
        case measure => simp [RowKit.intOf]; omega
    · obtain rfl : k = L.length := by omega
      have hlti : ¬ ((L.length : Int) < (L.length : Int)) := by omega
      go_wp2_with ((go_at_call 10; with_reducible refine (HW.out _).mono ?_); rintro e w' ⟨rfl, hb⟩)
      go_ret
      obtain ⟨d, cap, m, B1, p1, e1, B2, p2, e2, -, -, -, -, -, -, hbw⟩ := HP.out
      exact ⟨rfl, hbw.trans (hb.mono hbw.size)⟩
theorem plays_any (p : Int) (v : Value) (L : List KA) (many : Int) (w : World) (hL : Acts w v L) (hok : ∀ e ∈ L, KA.ok w e) : Calls Try.prog 3 #[.int .i64 p, v, .int .i64 many] w (OkB w) := by
  by_cases h4 : 4 < p ∧ p ≤ 1024
  · exact plays_works p v L many w (.inl h4) hL hok
  by_cases hf : fewB L 15 = true
  · have hlen := (few_each hf).1
    obtain ⟨A, c, rfl, -⟩ := (show Acts w v L from hL)
    by_cases h1 : 1 ≤ p ∧ p ≤ 1024
    · obtain ⟨pg, rfl⟩ : ∃ pg : Nat, p = (pg : Int) := ⟨p.toNat, by omega⟩
      exact plays_good pg A c L many w (by omega) (by omega) hf hL hok (by omega)
    · exact plays_bad p A c L many w h1 hf hL hok (by omega)
  · exact plays_works p v L many w (.inr (by simpa using hf)) hL hok
end Go.Proofs.Ytmnlkejhhdbhlaa
