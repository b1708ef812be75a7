/- The reference's Next, fails, Read. Conditions stand in each theorem. -/
import Derived.Test.YtddejcoagcaidaaDB
import Derived.Test.YtddejcoagcaidaaP
namespace Go.Proofs.Ytddejcoagcaidaa
open Go.RowKit
set_option linter.unusedVariables false
set_option maxHeartbeats 8000000
set_option maxRecDepth 100000
theorem bdrewN {B : Nat} {W w : World} (h : Below B W w) (n : Nat) : Below B W (w.drewN n) := ⟨h.os, h.tape, h.output, h.size, h.block⟩
theorem pgF_in {s : Dev} {i j : Nat} (h : j < (s.bk i).pg.length) : pgF s i j = (s.bk i).pg[j] := by unfold pgF; simp [h]
theorem pgF_out {s : Dev} {i j : Nat} (h : (s.bk i).pg.length ≤ j) : pgF s i j = ⟨1, [], []⟩ := by unfold pgF; simp [h]
theorem pgF_ne {s : Dev} (hg : Gd s) {i j : Nat} (hi : i < s.nb) (h : j < (s.bk i).pg.length) : (pgF s i j).st ≠ 1 := by
  rw [pgF_in h]
  rcases hg.ln i hi _ (List.getElem_mem h) with ⟨h1, _⟩ | h1 <;> omega
theorem rNext_any {w : World} {fs : List Int} {s : Dev} {vf vp ve : Value} {pb : Int} (h : Rd w fs s vf vp ve pb) (hg : Gd s) (q : Int) : Calls Try.prog 41 #[.agg (rdv s vf vp ve pb), .int .i64 q] w (RetB w (.int .i64 (s.nx q))) := by
  obtain ⟨g, c, cur, rfl, hc, hh, hrow⟩ := h.grid
  have HE := Lib.hid (fun W => rExists_any s vf ve (some ⟨g, 0, none⟩) c pb q W)
  have hqi := hasB_iff s q
  simp only [rdv] at HE ⊢
  have hnp := hg.np
  have hnb := hg.nb
  have e1 : (s.np : Int) ≤ 512 := by omega
  have e2 : (s.nb : Int) ≤ 4096 := by omega
  have hg1 := (Array.getElem?_eq_some_iff.1 hh).1
  obtain ⟨W1, hW1⟩ : ∃ W1, W1 = w.alloc (.cells #[.int .i64 (s.nb : Int), .int .i64 (s.np : Int), .int .i64 (s.sz : Int), .int .i64 s.en, vf, .slice (some ⟨g, 0, none⟩) s.nb c, ve, .int .i64 s.n, .int .i64 s.po, .int .i64 pb, .bool s.off] 35) := ⟨_, rfl⟩
  have hbw : Below w.heap.size w W1 := by rw [hW1]; exact balloc w _
  have hbx : W1.heap[w.heap.size]? = some (.cells #[.int .i64 (s.nb : Int), .int .i64 (s.np : Int), .int .i64 (s.sz : Int), .int .i64 s.en, vf, .slice (some ⟨g, 0, none⟩) s.nb c, ve, .int .i64 s.n, .int .i64 s.po, .int .i64 pb, .bool s.off] 35 (0, 0)) := by rw [hW1]; exact heap_alloc_new w _
  have HX := Lib.hid (fun W' (hb : Below W1.heap.size W1 W') => box11 hbx hb)
  obtain ⟨x0, x1, x2, x3, x4, x5, x6, x7, x8, x9, x10⟩ := HX.out W1 (Below.refl _ _)
  have HBW := Lib.hid hbw
  have HW := Lib.hid hW1
  clear hW1 hbw hbx
  cases hq : s.hasB q with
  | false =>
    have hR : s.nx q = 0 := if_neg (by rw [hq]; decide)
    rw [hR]
    rw [hq] at HE
    clear hq hR h hg hnp hnb hqi hrow hh
    go_enter Try.func41, Try.ntmps41
    go_upto_region 1 with fail
    rw [← HW.out]
    go_wp2_with ((go_at_call 40; with_reducible refine (HE.out _).mono ?_); rintro e w2 ⟨rfl, hb⟩; obtain ⟨y0, y1, y2, y3, y4, y5, y6, y7, y8, y9, y10⟩ := HX.out _ hb; have HB2 := Lib.hid hb; clear hb)
    go_ret
    exact ⟨rfl, HBW.out.trans (HB2.out.mono HBW.out.size)⟩
  | true =>
    rw [hq] at HE
    have hq2 := hqi
    rw [hq] at hq2
    obtain ⟨q0, q1⟩ := of_decide_eq_true hq2.symm
    obtain ⟨i, rfl⟩ : ∃ i : Nat, q = (i : Int) := ⟨q.toNat, by omega⟩
    rw [nx_nat (show i < s.nb by omega)]
    obtain ⟨pv, hpv, g2, c2, cur2, rfl, hc2, hh2, hrow2⟩ := hrow i (by omega)
    have hg2 := (Array.getElem?_eq_some_iff.1 hh2).1
    have HC := Lib.hid (fun W' (hb : Below w.heap.size w W') => And.intro ((hb.cell (p := ⟨g, i, none⟩) hg1).trans ((cell_of_row _ _ i _ _ _ hh).trans hpv)) (fun j (hj : j < s.np) => (hb.cell (p := ⟨g2, j * 2, none⟩) hg2).trans ((cell_of_row _ _ (j * 2) _ _ _ hh2).trans (hrow2 j hj).1)))
    have HN := Lib.hid (fun j (hj : j < (s.bk i).pg.length) => pgF_ne hg (show i < s.nb by omega) hj)
    have HO := Lib.hid (fun j (hj : (s.bk i).pg.length ≤ j) => congrArg Pg.st (pgF_out hj))
    have hL := hg.pg i (by omega)
    obtain ⟨L, hLL⟩ : ∃ L, L = (s.bk i).pg.length := ⟨_, rfl⟩
    rw [← hLL] at HN HO hL ⊢
    clear hLL hq hq2 h hg hnp hnb hqi hpv hc2 hh2 hrow2 hh hrow
    go_enter Try.func41, Try.ntmps41
    go_upto_region 1 with fail
    rw [← HW.out]
    go_wp2_with ((go_at_call 40; with_reducible refine (HE.out _).mono ?_); rintro e w2 ⟨rfl, hb⟩; obtain ⟨y0, y1, y2, y3, y4, y5, y6, y7, y8, y9, y10⟩ := HX.out _ hb; have HB2 := Lib.hid hb; clear hb)
    clear x0 x1 x2 x3 x4 x5 x6 x7 x8 x9 x10 y0 y1 y2 y3 y4 y5 y6 y7 y8 y9 y10
    go_loopw [5] (fun v wr => ∃ k : Nat, k ≤ s.np ∧ v = .int .i64 (k : Int) ∧ k ≤ L ∧ Hid (Below W1.heap.size W1 wr)) (fun v _ => s.np - (RowKit.intOf v).toNat)
    case atStart => exact ⟨0, Nat.zero_le _, rfl, Nat.zero_le _, HB2⟩
    case round =>
      obtain ⟨k, hk, rfl, hkL, HB⟩ := hrel
      obtain ⟨x0, x1, x2, x3, x4, x5, x6, x7, x8, x9, x10⟩ := HX.out _ HB.out
      have HBB := Lib.hid (HBW.out.trans (HB.out.mono HBW.out.size))
      by_cases hlt : k < s.np
      · obtain ⟨z1, z2⟩ := HC.out _ HBB.out
        have z3 := z2 k hlt
        have hk0 : (0 : Int) ≤ (k : Int) := by omega
        have hk1 : (k : Int) < (s.np : Int) := by omega
        by_cases hkl : k < L
        · have hne := HN.out k hkl
          clear z2
          obtain ⟨st, hst⟩ : ∃ st, st = (pgF s i k).st := ⟨_, rfl⟩
          rw [← hst] at z3 hne
          clear hst
          have hnb : (st == 1) = false := by simpa using hne
          go_wp2
          go_roundw
          case rel => exact ⟨k + 1, by omega, by go_num, by omega, HB⟩
          case measure => simp [RowKit.intOf]; omega
        · obtain rfl : k = L := by omega
          rw [HO.out k (Nat.le_refl _)] at z3
          clear z2
          try simp only at z3
          go_wp2
          go_ret
          exact ⟨rfl, HBB.out⟩
      · have hkL2 : (L : Int) = (s.np : Int) := by omega
        obtain rfl : k = s.np := by omega
        have HKL := Lib.hid hkL2
        clear hkL2
        go_wp2
        go_ret
        exact ⟨by rw [HKL.out]; rfl, HBB.out⟩
theorem rfails_any {w : World} {fs : List Int} {s : Dev} {vf vp ve : Value} {pb : Int} (h : Rd w fs s vf vp ve pb) (hl : fs.length ≤ 1000) : Calls Try.prog 58 #[.agg (rdv s vf vp ve pb)] w (RetB w (.bool (s.F.contains s.n))) := by
  rw [h.mem]
  obtain ⟨A, c, rfl, hc, hr⟩ := h.flt
  obtain ⟨-, ⟨A2, n2, c2, rfl⟩, ⟨A3, n3, c3, rfl⟩⟩ := h.forms
  simp only [rdv]
  have hli : (fs.length : Int) ≤ 1000 := by omega
  have HR := Lib.hid hr
  obtain ⟨R, hRR⟩ : ∃ R, R = fs.contains s.n := ⟨_, rfl⟩
  have HY : Hid (∀ k (hk : k < fs.length), fs[k] = s.n → R = true) := Lib.hid (fun k hk e => by rw [hRR, ← e]; simp)
  have HN : Hid ((∀ k (hk : k < fs.length), fs[k] ≠ s.n) → R = false) := Lib.hid (fun hk => by
    rw [hRR]
    have : ¬ s.n ∈ fs := fun hm => by
      obtain ⟨j, hj, e⟩ := List.mem_iff_getElem.1 hm
      exact hk j hj e
    simpa using this)
  rw [← hRR]
  clear h hl hr hRR
  obtain ⟨W1, hW1⟩ : ∃ W1, W1 = w.alloc (.cells #[.int .i64 (s.nb : Int), .int .i64 (s.np : Int), .int .i64 (s.sz : Int), .int .i64 s.en, .slice A fs.length c, .slice A2 n2 c2, .slice A3 n3 c3, .int .i64 s.n, .int .i64 s.po, .int .i64 pb, .bool s.off] 35) := ⟨_, rfl⟩
  have hbw : Below w.heap.size w W1 := by rw [hW1]; exact balloc w _
  have hbx : W1.heap[w.heap.size]? = some (.cells #[.int .i64 (s.nb : Int), .int .i64 (s.np : Int), .int .i64 (s.sz : Int), .int .i64 s.en, .slice A fs.length c, .slice A2 n2 c2, .slice A3 n3 c3, .int .i64 s.n, .int .i64 s.po, .int .i64 pb, .bool s.off] 35 (0, 0)) := by rw [hW1]; exact heap_alloc_new w _
  have HX := Lib.hid (fun W' (hb : Below W1.heap.size W1 W') => box11 hbx hb)
  obtain ⟨x0, x1, x2, x3, x4, x5, x6, x7, x8, x9, x10⟩ := HX.out W1 (Below.refl _ _)
  have HBW := Lib.hid hbw
  have HW := Lib.hid hW1
  clear hW1 hbw hbx
  go_enter Try.func58, Try.ntmps58
  go_upto_region 1 with fail
  rw [← HW.out]
  go_wp2
  go_loopw [3] (fun v wr => ∃ k : Nat, k ≤ fs.length ∧ v = .int .i64 (k : Int) ∧ Hid (∀ j (hj : j < fs.length), j < k → fs[j] ≠ s.n) ∧ Hid (Below W1.heap.size W1 wr)) (fun v _ => fs.length - (RowKit.intOf v).toNat)
  case atStart => exact ⟨0, Nat.zero_le _, rfl, Lib.hid (fun j hj h => absurd h (by omega)), Lib.hid (Below.refl _ _)⟩
  case round =>
    obtain ⟨k, hk, rfl, HJ, HB⟩ := hrel
    clear x0 x1 x2 x3 x4 x5 x6 x7 x8 x9 x10
    obtain ⟨x0, x1, x2, x3, x4, x5, x6, x7, x8, x9, x10⟩ := HX.out _ HB.out
    have HBB := Lib.hid (HBW.out.trans (HB.out.mono HBW.out.size))
    by_cases hlt : k < fs.length
    · obtain ⟨g, cur, e, hh, hcell⟩ := HR.out (by omega)
      subst e
      have z1 := (HBB.out.cell (p := ⟨g, k, none⟩) (Array.getElem?_eq_some_iff.1 hh).1).trans ((cell_of_row _ _ k _ _ _ hh).trans (hcell k hlt))
      have hk0 : (0 : Int) ≤ (k : Int) := by omega
      have hk1 : (k : Int) < (fs.length : Int) := by omega
      have HYK := Lib.hid (HY.out k hlt)
      have HJK : Hid (fs[k] ≠ s.n → ∀ j (hj : j < fs.length), j < k + 1 → fs[j] ≠ s.n) := Lib.hid (fun hne j hj hjk => by
        by_cases e : j = k
        · subst e; exact hne
        · exact HJ.out j hj (by omega))
      obtain ⟨f, hf⟩ : ∃ f, f = fs[k] := ⟨_, rfl⟩
      rw [← hf] at z1 HYK HJK
      clear hf hh hcell
      obtain ⟨N, hN⟩ : ∃ N, N = s.n := ⟨_, rfl⟩
      have HNN := Lib.hid hN
      rw [← hN] at x7 HYK
      by_cases e : f = N
      · have HT := Lib.hid (HYK.out e)
        clear hN
        subst e
        go_upto_region 4 with fail
        go_quiet (fail)
        go_wp2
        go_ret
        exact ⟨by rw [HT.out]; rfl, bdrewN HBB.out _⟩
      · have eb : (f == N) = false := by simpa using e
        have HJ2 := Lib.hid (HJK.out (by rw [← hN]; exact e))
        clear hN
        go_upto_region 4 with fail
        go_quiet (fail)
        go_wp2
        go_roundw
        case rel => exact ⟨k + 1, by omega, by go_num, HJ2, Lib.hid (bdrewN HB.out _)⟩
        case measure => simp [RowKit.intOf]; omega
    · obtain rfl : k = fs.length := by omega
      have HT := Lib.hid (HN.out (fun j hj => HJ.out j hj hj))
      go_wp2
      go_ret
      exact ⟨by rw [HT.out]; rfl, HBB.out⟩
end Go.Proofs.Ytddejcoagcaidaa
