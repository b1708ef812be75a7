/- The walk of the reference's Apply. Conditions stand in each theorem. -/
import Derived.Test.YteiemegkdnjpgaaYT
import Derived.Deep.DeepCutAuto
import Derived.Deep.CutBlock
namespace Go.Proofs.Yteiemegkdnjpgaa
open Go.RowKit Go.Shelf
set_option linter.unusedVariables false
set_option maxHeartbeats 40000000
set_option maxRecDepth 100000
attribute [local go_sem ↓ 100000] builtin_appX
theorem app_stop {s b p : Nat} {L0 L xs : List (Int × Int)} {k : Nat} {E : Int} (hk : k < xs.length) (h : reqE s b p L xs[k].1 xs[k].2 = E) (hE : E ≠ 0) : appS s b p L0 L (xs.drop k) = L0 ∧ appE s b p L (xs.drop k) = E := by
  rw [List.drop_eq_getElem_cons hk]
  unfold appS appE
  rw [h, if_neg hE, if_neg hE]
  exact ⟨rfl, rfl⟩
theorem app_next {s b p : Nat} {L0 L xs : List (Int × Int)} {k : Nat} (hk : k < xs.length) (h : reqE s b p L xs[k].1 xs[k].2 = 0) : appS s b p L0 L (xs.drop k) = appS s b p L0 (asg L xs[k].1 xs[k].2) (xs.drop (k + 1)) ∧ appE s b p L (xs.drop k) = appE s b p (asg L xs[k].1 xs[k].2) (xs.drop (k + 1)) := by
  conv => lhs; lhs; rw [List.drop_eq_getElem_cons hk]
  conv => rhs; lhs; rw [List.drop_eq_getElem_cons hk]
  exact ⟨by conv => lhs; unfold appS; rw [if_pos h], by conv => lhs; unfold appE; rw [if_pos h]⟩
theorem chg4 (W : World) (n : Nat) (a b c d : Value) : Chg (fun k => k = n) W ((((W.setCell ⟨n, 0, none⟩ a).setCell ⟨n, 1, none⟩ b).setCell ⟨n, 2, none⟩ c).setCell ⟨n, 3, none⟩ d) :=
  (((((Chg.refl (fun k => k = n) W).setCell (p := ⟨n, 0, none⟩) rfl _).setCell (p := ⟨n, 1, none⟩) rfl _).setCell (p := ⟨n, 2, none⟩) rfl _).setCell (p := ⟨n, 3, none⟩) rfl _)
theorem rapply_any (s b p : Nat) {v va : Value} {L xs : List (Int × Int)} {w : World} (hF : Fits s b p L) (h : Ent w v L) (hx : Ent w va xs) (hl : xs.length ≤ 4096) (hR : Rng xs) : Calls Try.prog 13 #[rv s b p v, va] w (RapP w s b p v L xs) := by
  have hs1 := hF.hs
  have hb1 := hF.hb
  have hp1 := hF.hp
  have hLs := hF.len
  have hn := hF.n
  have hvo := Lib.hid (fun (h0 : 0 < L.length) k (hk : v.ownBlock = some k) => (show k < w.heap.size ∨ w.heap.size + 3 ≤ k from .inl (old_own h h0 hk)))
  obtain ⟨A0, n0, rfl, -⟩ := h.form
  obtain ⟨NN, hNN⟩ : ∃ z : Int, z = (b : Int) * (p : Int) := ⟨_, rfl⟩
  have hbp : (b : Int) * (p : Int) = NN := hNN.symm
  have hN0 : 0 ≤ NN := by rw [hNN, ← Int.natCast_mul]; omega
  have hN1 : NN ≤ 2097152 := by rw [hNN, ← Int.natCast_mul]; omega
  have HN := Lib.hid (show ((b * p : Nat) : Int) = NN by rw [Int.natCast_mul]; exact hbp)
  have b3 : Below w.heap.size w (((w.alloc (.cells #[.int .i64 (s : Int), .int .i64 (b : Int), .int .i64 (p : Int), .slice A0 L.length n0] 29)).alloc (.cells #[.int .i64 0, .int .i64 0, .int .i64 0, .slice none 0 0] 29)).alloc (.cells #[.int .i64 (s : Int), .int .i64 (b : Int), .int .i64 (p : Int), .slice A0 L.length n0] 29)) := ((below_alloc w _).alloc (by simp) _).alloc (by simp; omega) _
  have HR0 : Hid (Rm w s b p (.slice A0 L.length n0) (.slice A0 L.length n0) L (((w.alloc (.cells #[.int .i64 (s : Int), .int .i64 (b : Int), .int .i64 (p : Int), .slice A0 L.length n0] 29)).alloc (.cells #[.int .i64 0, .int .i64 0, .int .i64 0, .slice none 0 0] 29)).alloc (.cells #[.int .i64 (s : Int), .int .i64 (b : Int), .int .i64 (p : Int), .slice A0 L.length n0] 29))) := Lib.hid
    ⟨(Below.heap_alloc _ _ _ (by simp; omega)).trans ((Below.heap_alloc _ _ _ (by simp)).trans (heap_alloc_new w _)),
     (Below.heap_alloc _ _ _ (by simp)).trans (by have := heap_alloc_new (w.alloc (.cells #[.int .i64 (s : Int), .int .i64 (b : Int), .int .i64 (p : Int), .slice A0 L.length n0] 29)) (.cells #[.int .i64 0, .int .i64 0, .int .i64 0, .slice none 0 0] 29); rwa [World.size_alloc] at this),
     (by have := heap_alloc_new ((w.alloc (.cells #[.int .i64 (s : Int), .int .i64 (b : Int), .int .i64 (p : Int), .slice A0 L.length n0] 29)).alloc (.cells #[.int .i64 0, .int .i64 0, .int .i64 0, .slice none 0 0] 29)) (.cells #[.int .i64 (s : Int), .int .i64 (b : Int), .int .i64 (p : Int), .slice A0 L.length n0] 29); simpa using this),
     h.below b3, hvo.out, .inl rfl, b3⟩
  have HX := Lib.hid hx
  have HV := Lib.hid h
  have HRG := Lib.hid hR
  have HFM := Lib.hid hF
  have HAP : Hid (appS s b p L L (xs.drop 0) = appS s b p L L xs ∧ appE s b p L (xs.drop 0) = appE s b p L xs) := Lib.hid (by rw [List.drop_zero]; exact ⟨rfl, rfl⟩)
  obtain ⟨Ax, nx, rfl, -⟩ := hx.form
  clear hx h hR hF b3 hNN hn
  unfold rv
  go_enter Try.func13, Try.ntmps13
  go_wp2
  rw [show w.heap.size + 1 + 1 = w.heap.size + 2 from rfl]
  go_loopw [7, 8, 9, 10, 11] (fun i _ _ _ _ wr => ∃ (k : Nat) (M : List (Int × Int)) (x : Value), k ≤ xs.length ∧ i = .int .i64 k ∧ Hid (Rm w s b p (.slice A0 L.length n0) x M wr) ∧ Hid (Fits s b p M) ∧ Hid (appS s b p L M (xs.drop k) = appS s b p L L xs ∧ appE s b p M (xs.drop k) = appE s b p L xs)) (fun i _ _ _ _ _ => xs.length - (RowKit.intOf i).toNat)
  case atStart => exact ⟨0, L, _, Nat.zero_le _, rfl, HR0, HFM, HAP⟩
  case round =>
    clear HR0 HAP
    obtain ⟨k, ML, x, hk, rfl, HR, HFK, HAP⟩ := hrel
    have hML := HFK.out.len
    obtain ⟨A, n, rfl, hnn⟩ := HR.out.ent.form
    by_cases hlt : k < xs.length
    · obtain ⟨gx, ox, c', hv, h1, h2⟩ := (HX.out.below HR.out.bel).at hlt
      cases hv
      have HST := Lib.hid (fun (E : Int) => app_stop (s := s) (b := b) (p := p) (L0 := L) (L := ML) (E := E) hlt)
      have HNX := Lib.hid (app_next (s := s) (b := b) (p := p) (L0 := L) (L := ML) hlt)
      generalize xs[k] = xk at *
      obtain ⟨q, g⟩ := xk
      dsimp only at h1 h2
      dsimp only at HST HNX
      go_upto_region 6 with fail
      have HR1 := Lib.hid (HR.out.later (below_alloc wr (.cells #[.int .i64 q, .int .i64 g] 50)))
      have HX1 := Lib.hid (heap_alloc_new wr (.cells #[.int .i64 q, .int .i64 g] 50))
      have HXn := Lib.hid HR.out.lt
      obtain ⟨W1, hW1⟩ : ∃ W1, W1 = wr.alloc (.cells #[.int .i64 q, .int .i64 g] 50) := ⟨_, rfl⟩
      obtain ⟨X, hX⟩ : ∃ X, X = wr.heap.size := ⟨_, rfl⟩
      rw [← hW1] at HR1 HX1 ⊢
      rw [← hX] at HX1 HXn ⊢
      clear hW1 hX h1 h2
      have hXn := HXn.out
      have mc0 : W1.cell? ⟨w.heap.size, 0, none⟩ = some (.int .i64 (s : Int)) := by rw [cell_of_row W1 _ 0 _ _ _ HR1.out.m]; rfl
      have mc1 : W1.cell? ⟨w.heap.size, 1, none⟩ = some (.int .i64 (b : Int)) := by rw [cell_of_row W1 _ 1 _ _ _ HR1.out.m]; rfl
      have mc2 : W1.cell? ⟨w.heap.size, 2, none⟩ = some (.int .i64 (p : Int)) := by rw [cell_of_row W1 _ 2 _ _ _ HR1.out.m]; rfl
      have mc3 : W1.cell? ⟨w.heap.size, 3, none⟩ = some (.slice A0 L.length n0) := by rw [cell_of_row W1 _ 3 _ _ _ HR1.out.m]; rfl
      have rc0 : W1.cell? ⟨w.heap.size + 1, 0, none⟩ = some (.int .i64 0) := by rw [cell_of_row W1 _ 0 _ _ _ HR1.out.r]; rfl
      have rf0 := frozen_of_row W1 (w.heap.size + 1) 0 _ _ HR1.out.r
      have rc1 : W1.cell? ⟨w.heap.size + 1, 1, none⟩ = some (.int .i64 0) := by rw [cell_of_row W1 _ 1 _ _ _ HR1.out.r]; rfl
      have rf1 := frozen_of_row W1 (w.heap.size + 1) 1 _ _ HR1.out.r
      have rc2 : W1.cell? ⟨w.heap.size + 1, 2, none⟩ = some (.int .i64 0) := by rw [cell_of_row W1 _ 2 _ _ _ HR1.out.r]; rfl
      have rf2 := frozen_of_row W1 (w.heap.size + 1) 2 _ _ HR1.out.r
      have rc3 : W1.cell? ⟨w.heap.size + 1, 3, none⟩ = some (.slice none 0 0) := by rw [cell_of_row W1 _ 3 _ _ _ HR1.out.r]; rfl
      have rf3 := frozen_of_row W1 (w.heap.size + 1) 3 _ _ HR1.out.r
      have oc0 : W1.cell? ⟨w.heap.size + 2, 0, none⟩ = some (.int .i64 (s : Int)) := by rw [cell_of_row W1 _ 0 _ _ _ HR1.out.o]; rfl
      have of0 := frozen_of_row W1 (w.heap.size + 2) 0 _ _ HR1.out.o
      have oc1 : W1.cell? ⟨w.heap.size + 2, 1, none⟩ = some (.int .i64 (b : Int)) := by rw [cell_of_row W1 _ 1 _ _ _ HR1.out.o]; rfl
      have of1 := frozen_of_row W1 (w.heap.size + 2) 1 _ _ HR1.out.o
      have oc2 : W1.cell? ⟨w.heap.size + 2, 2, none⟩ = some (.int .i64 (p : Int)) := by rw [cell_of_row W1 _ 2 _ _ _ HR1.out.o]; rfl
      have of2 := frozen_of_row W1 (w.heap.size + 2) 2 _ _ HR1.out.o
      have oc3 : W1.cell? ⟨w.heap.size + 2, 3, none⟩ = some (.slice A ML.length n) := by rw [cell_of_row W1 _ 3 _ _ _ HR1.out.o]; rfl
      have of3 := frozen_of_row W1 (w.heap.size + 2) 3 _ _ HR1.out.o
      have xc0 : W1.cell? ⟨X, 0, none⟩ = some (.int .i64 q) := by rw [cell_of_row W1 _ 0 _ _ _ HX1.out]; rfl
      have xc1 : W1.cell? ⟨X, 1, none⟩ = some (.int .i64 g) := by rw [cell_of_row W1 _ 1 _ _ _ HX1.out]; rfl
      by_cases hr : q < 0 ∨ (s : Int) ≤ q ∨ g < -1 ∨ NN ≤ g
      · have HFIN := Lib.hid (rap_fin (L := L) (xs := xs) HR1.out (HV.out.below HR1.out.bel) hvo.out (.inl rfl) 3
          (by rw [← HAP.out.1]; exact (HST.out 3 (reqE_range (by rw [HN.out]; exact hr)) (by omega)).1) (by rw [← HAP.out.2]; exact (HST.out 3 (reqE_range (by rw [HN.out]; exact hr)) (by omega)).2))
        by_cases t0 : q < 0
        · have d0 : decide (q < 0) = true := decide_eq_true t0
          clear hr
          go_wp2
          (try simp only [Exit.inBlock, Exit.then])
          refine bodyPost_ret (results_row1 rfl _ _ (w.heap.size + 1) 29 #[.int .i64 (s : Int), .int .i64 (b : Int), .int .i64 (p : Int), .slice A0 L.length n0] (0, 0) _ rfl (HR1.out.fin _).1 Try.underlying29 rfl (by kernel_rfl)) rfl ?_
          exact HFIN.out

        by_cases t1 : (s : Int) ≤ q
        · have d0 : decide (q < 0) = false := decide_eq_false t0
          have d1 : decide ((s : Int) ≤ q) = true := decide_eq_true t1
          clear hr
          go_wp2
          (try simp only [Exit.inBlock, Exit.then])
          refine bodyPost_ret (results_row1 rfl _ _ (w.heap.size + 1) 29 #[.int .i64 (s : Int), .int .i64 (b : Int), .int .i64 (p : Int), .slice A0 L.length n0] (0, 0) _ rfl (HR1.out.fin _).1 Try.underlying29 rfl (by kernel_rfl)) rfl ?_
          exact HFIN.out

        by_cases t2 : g < -1
        · have d0 : decide (q < 0) = false := decide_eq_false t0
          have d1 : decide ((s : Int) ≤ q) = false := decide_eq_false t1
          have d2 : decide (g < -1) = true := decide_eq_true t2
          clear hr
          go_wp2
          (try simp only [Exit.inBlock, Exit.then])
          refine bodyPost_ret (results_row1 rfl _ _ (w.heap.size + 1) 29 #[.int .i64 (s : Int), .int .i64 (b : Int), .int .i64 (p : Int), .slice A0 L.length n0] (0, 0) _ rfl (HR1.out.fin _).1 Try.underlying29 rfl (by kernel_rfl)) rfl ?_
          exact HFIN.out

        · have t3 : NN ≤ g := by omega
          have d0 : decide (q < 0) = false := decide_eq_false t0
          have d1 : decide ((s : Int) ≤ q) = false := decide_eq_false t1
          have d2 : decide (g < -1) = false := decide_eq_false t2
          have d3 : decide (NN ≤ g) = true := decide_eq_true t3
          clear hr
          go_wp2
          (try simp only [Exit.inBlock, Exit.then])
          refine bodyPost_ret (results_row1 rfl _ _ (w.heap.size + 1) 29 #[.int .i64 (s : Int), .int .i64 (b : Int), .int .i64 (p : Int), .slice A0 L.length n0] (0, 0) _ rfl (HR1.out.fin _).1 Try.underlying29 rfl (by kernel_rfl)) rfl ?_
          exact HFIN.out

      · have t0 : 0 ≤ q := by omega
        have t1 : q < s := by omega
        have t2 : -1 ≤ g := by omega
        have t3 : g < NN := by omega
        have d0 : decide (q < 0) = false := decide_eq_false (by omega)
        have d1 : decide ((s : Int) ≤ q) = false := decide_eq_false (by omega)
        have d2 : decide (g < -1) = false := decide_eq_false (by omega)
        have d3 : decide (NN ≤ g) = false := decide_eq_false (by omega)
        clear hr
        have HSC := Lib.hid (rsec_any (s : Int) (b : Int) (p : Int) HR1.out.ent (by omega) g)
        unfold rv at HSC
        by_cases hg : g = -1
        · skip
          subst hg
          have HE0 := reqE_free HFK.out ⟨t0, t1⟩ (.inl rfl) (fun h => absurd h (by omega))
          obtain ⟨D, hD⟩ : ∃ D, D = del q ML := ⟨_, rfl⟩
          have HD := Lib.hid hD
          have HAP2 : Hid (appS s b p L D (xs.drop (k + 1)) = appS s b p L L xs ∧ appE s b p D (xs.drop (k + 1)) = appE s b p L xs) := Lib.hid (by rw [hD, ← HAP.out.1, ← HAP.out.2]; exact ⟨(HNX.out HE0).1.symm, (HNX.out HE0).2.symm⟩)
          have HFD := Lib.hid (show Fits s b p D by rw [hD]; exact HFK.out.del q)
          clear hD HE0 HNX HST HAP
          generalize (look (flip ML) (-1)).getD 0 = y9 at HSC
          generalize (look (flip ML) (-1)).isSome = y10 at HSC
          have HSC2 := HSC
          go_wp2_with fail
          refine HSC2.out.mono ?_
          rintro e W2 ⟨rfl, hb2⟩
          have HR2 := Lib.hid (HR1.out.later hb2)
          have HX2 := Lib.hid ((hb2.block _ (Array.getElem?_eq_some_iff.1 HX1.out).1).trans HX1.out)
          clear hb2 HSC2 HSC mc0 mc1 mc2 mc3 rc0 rc1 rc2 rc3 rf0 rf1 rf2 rf3 oc0 oc1 oc2 oc3 of0 of1 of2 of3 xc0 xc1
          have oc0 : W2.cell? ⟨w.heap.size + 2, 0, none⟩ = some (.int .i64 (s : Int)) := by rw [cell_of_row W2 _ 0 _ _ _ HR2.out.o]; rfl
          have oc1 : W2.cell? ⟨w.heap.size + 2, 1, none⟩ = some (.int .i64 (b : Int)) := by rw [cell_of_row W2 _ 1 _ _ _ HR2.out.o]; rfl
          have oc2 : W2.cell? ⟨w.heap.size + 2, 2, none⟩ = some (.int .i64 (p : Int)) := by rw [cell_of_row W2 _ 2 _ _ _ HR2.out.o]; rfl
          have oc3 : W2.cell? ⟨w.heap.size + 2, 3, none⟩ = some (.slice A ML.length n) := by rw [cell_of_row W2 _ 3 _ _ _ HR2.out.o]; rfl
          have xc0 : W2.cell? ⟨X, 0, none⟩ = some (.int .i64 q) := by rw [cell_of_row W2 _ 0 _ _ _ HX2.out]; rfl
          have xc1 : W2.cell? ⟨X, 1, none⟩ = some (.int .i64 (-1)) := by rw [cell_of_row W2 _ 1 _ _ _ HX2.out]; rfl
          have H30 := Lib.hid (show Calls Try.prog 30 #[.agg #[.int .i64 (s : Int), .int .i64 (b : Int), .int .i64 (p : Int), .slice A ML.length n], .int .i64 q] W2 fun e w' => ∃ v', e = .returned (.agg #[.int .i64 (s : Int), .int .i64 (b : Int), .int .i64 (p : Int), v']) ∧ Ent w' v' D ∧ (∀ k, v'.ownBlock = some k → W2.heap.size ≤ k) ∧ Below W2.heap.size W2 w' from by rw [HD.out]; exact rwithout_any (s : Int) (b : Int) (p : Int) HR2.out.ent (by omega) q)
          go_wp2_with fail
          refine H30.out.mono ?_
          rintro e W3 ⟨v3, rfl, he3, ho3, hb3⟩
          obtain ⟨A3, n3, rfl, hn3⟩ := he3.form
          have HR3 := Lib.hid (HR2.out.later hb3)
          have HX3 := Lib.hid ((hb3.block _ (Array.getElem?_eq_some_iff.1 HX2.out).1).trans HX2.out)
          have HR4 := Lib.hid (HR3.out.put4 he3 (fun _ k hk => by have := ho3 k hk; have := HR2.out.lt; omega))
          have HX4 := Lib.hid (((chg4 W3 (w.heap.size + 2) (.int .i64 (s : Int)) (.int .i64 (b : Int)) (.int .i64 (p : Int)) (.slice A3 D.length n3)).block X (Array.getElem?_eq_some_iff.1 HX3.out).1 (by omega)).trans HX3.out)
          clear he3 ho3 hb3 H30 oc0 oc1 oc2 oc3 xc0 xc1
          have oc0 : W3.cell? ⟨w.heap.size + 2, 0, none⟩ = some (.int .i64 (s : Int)) := by rw [cell_of_row W3 _ 0 _ _ _ HR3.out.o]; rfl
          have of0 := frozen_of_row W3 (w.heap.size + 2) 0 _ _ HR3.out.o
          have oc1 : W3.cell? ⟨w.heap.size + 2, 1, none⟩ = some (.int .i64 (b : Int)) := by rw [cell_of_row W3 _ 1 _ _ _ HR3.out.o]; rfl
          have of1 := frozen_of_row W3 (w.heap.size + 2) 1 _ _ HR3.out.o
          have oc2 : W3.cell? ⟨w.heap.size + 2, 2, none⟩ = some (.int .i64 (p : Int)) := by rw [cell_of_row W3 _ 2 _ _ _ HR3.out.o]; rfl
          have of2 := frozen_of_row W3 (w.heap.size + 2) 2 _ _ HR3.out.o
          have oc3 : W3.cell? ⟨w.heap.size + 2, 3, none⟩ = some (.slice A ML.length n) := by rw [cell_of_row W3 _ 3 _ _ _ HR3.out.o]; rfl
          have of3 := frozen_of_row W3 (w.heap.size + 2) 3 _ _ HR3.out.o
          go_upto_region 12 with fail
          obtain ⟨W4, hW4⟩ : ∃ W4, W4 = ((((W3.setCell ⟨w.heap.size + 2, 0, none⟩ (.int .i64 (s : Int))).setCell ⟨w.heap.size + 2, 1, none⟩ (.int .i64 (b : Int))).setCell ⟨w.heap.size + 2, 2, none⟩ (.int .i64 (p : Int))).setCell ⟨w.heap.size + 2, 3, none⟩ (.slice A3 D.length n3)) := ⟨_, rfl⟩
          rw [← hW4] at HR4 HX4 ⊢
          clear hW4 oc0 oc1 oc2 oc3 of0 of1 of2 of3
          have xc0 : W4.cell? ⟨X, 0, none⟩ = some (.int .i64 q) := by rw [cell_of_row W4 _ 0 _ _ _ HX4.out]; rfl
          have xc1 : W4.cell? ⟨X, 1, none⟩ = some (.int .i64 (-1)) := by rw [cell_of_row W4 _ 1 _ _ _ HX4.out]; rfl
          go_wp2
          go_roundw
          case rel => exact ⟨k + 1, D, _, by omega, by go_num, HR4, HFD, HAP2⟩
          case measure => simp [RowKit.intOf]; omega
        · skip
          have hg0 : 0 ≤ g := by omega
          have d5 : decide (0 ≤ g) = true := decide_eq_true hg0
          have hgN : 0 ≤ g ∧ g < ((b * p : Nat) : Int) := ⟨hg0, by rw [HN.out]; exact t3⟩
          by_cases hbz : ∃ kk, look (flip ML) g = some kk ∧ kk ≠ q
          · obtain ⟨kk, hlk, hkq⟩ := hbz
            have HE := reqE_busy (s := s) (b := b) (p := p) ⟨t0, t1⟩ hgN hlk hkq
            have HSC2 : Hid (Calls Try.prog 29 #[.agg #[.int .i64 (s : Int), .int .i64 (b : Int), .int .i64 (p : Int), .slice A ML.length n], .int .i64 g] W1 fun e w' => e = .returned (.tuple #[.int .i64 kk, .bool true]) ∧ Below W1.heap.size W1 w') := Lib.hid (by have := HSC.out; rw [hlk] at this; exact this)
            have d6 : (kk == q) = false := by rw [beq_eq_false_iff_ne]; exact hkq
            have d7 : (kk != q) = true := by rw [bne_iff_ne]; exact hkq
            have HB2 := Lib.hid ((HST.out 11 HE (by omega)))
            clear HE hlk hkq hgN
            go_wp2_with fail
            refine HSC2.out.mono ?_
            rintro e W2 ⟨rfl, hb2⟩
            have HR2 := Lib.hid (HR1.out.later hb2)
            have HX2 := Lib.hid ((hb2.block _ (Array.getElem?_eq_some_iff.1 HX1.out).1).trans HX1.out)
            clear hb2 HSC2 HSC mc0 mc1 mc2 mc3 rc0 rc1 rc2 rc3 rf0 rf1 rf2 rf3 oc0 oc1 oc2 oc3 of0 of1 of2 of3 xc0 xc1
            have mc0 : W2.cell? ⟨w.heap.size, 0, none⟩ = some (.int .i64 (s : Int)) := by rw [cell_of_row W2 _ 0 _ _ _ HR2.out.m]; rfl
            have mc1 : W2.cell? ⟨w.heap.size, 1, none⟩ = some (.int .i64 (b : Int)) := by rw [cell_of_row W2 _ 1 _ _ _ HR2.out.m]; rfl
            have mc2 : W2.cell? ⟨w.heap.size, 2, none⟩ = some (.int .i64 (p : Int)) := by rw [cell_of_row W2 _ 2 _ _ _ HR2.out.m]; rfl
            have mc3 : W2.cell? ⟨w.heap.size, 3, none⟩ = some (.slice A0 L.length n0) := by rw [cell_of_row W2 _ 3 _ _ _ HR2.out.m]; rfl
            have rc0 : W2.cell? ⟨w.heap.size + 1, 0, none⟩ = some (.int .i64 0) := by rw [cell_of_row W2 _ 0 _ _ _ HR2.out.r]; rfl
            have rf0 := frozen_of_row W2 (w.heap.size + 1) 0 _ _ HR2.out.r
            have rc1 : W2.cell? ⟨w.heap.size + 1, 1, none⟩ = some (.int .i64 0) := by rw [cell_of_row W2 _ 1 _ _ _ HR2.out.r]; rfl
            have rf1 := frozen_of_row W2 (w.heap.size + 1) 1 _ _ HR2.out.r
            have rc2 : W2.cell? ⟨w.heap.size + 1, 2, none⟩ = some (.int .i64 0) := by rw [cell_of_row W2 _ 2 _ _ _ HR2.out.r]; rfl
            have rf2 := frozen_of_row W2 (w.heap.size + 1) 2 _ _ HR2.out.r
            have rc3 : W2.cell? ⟨w.heap.size + 1, 3, none⟩ = some (.slice none 0 0) := by rw [cell_of_row W2 _ 3 _ _ _ HR2.out.r]; rfl
            have rf3 := frozen_of_row W2 (w.heap.size + 1) 3 _ _ HR2.out.r
            have xc0 : W2.cell? ⟨X, 0, none⟩ = some (.int .i64 q) := by rw [cell_of_row W2 _ 0 _ _ _ HX2.out]; rfl
            have xc1 : W2.cell? ⟨X, 1, none⟩ = some (.int .i64 g) := by rw [cell_of_row W2 _ 1 _ _ _ HX2.out]; rfl
            have HFIN := Lib.hid (rap_fin (L := L) (xs := xs) HR2.out (HV.out.below HR2.out.bel) hvo.out (.inl rfl) 11 (by rw [← HAP.out.1]; exact HB2.out.1) (by rw [← HAP.out.2]; exact HB2.out.2))
            go_wp2
            (try simp only [Exit.inBlock, Exit.then])
            refine bodyPost_ret (results_row1 rfl _ _ (w.heap.size + 1) 29 #[.int .i64 (s : Int), .int .i64 (b : Int), .int .i64 (p : Int), .slice A0 L.length n0] (0, 0) _ rfl (HR2.out.fin _).1 Try.underlying29 rfl (by kernel_rfl)) rfl ?_
            exact HFIN.out
          · have HE0 := reqE_free HFK.out ⟨t0, t1⟩ (.inr hgN) (fun _ kk hkk => Classical.byContradiction fun hne => hbz ⟨kk, hkk, hne⟩)
            have HAP2 : Hid (appS s b p L (asg ML q g) (xs.drop (k + 1)) = appS s b p L L xs ∧ appE s b p (asg ML q g) (xs.drop (k + 1)) = appE s b p L xs) := Lib.hid (by rw [← HAP.out.1, ← HAP.out.2]; exact ⟨(HNX.out HE0).1.symm, (HNX.out HE0).2.symm⟩)
            have HFA := Lib.hid (show Fits s b p (asg ML q g) from HFK.out.asg HE0)
            obtain ⟨D, hD⟩ : ∃ D, D = del q ML := ⟨_, rfl⟩
            have HD := Lib.hid hD
            have HASG := Lib.hid (show ∀ t, t ≤ D.length → (∀ i (hi : i < D.length), i < t → D[i].1 < q) → (∀ h : t < D.length, ¬ D[t].1 < q) → asg ML q g = D.take t ++ (q, g) :: D.drop t from by subst hD; exact fun t h1 h2 h3 => asg_at hg h1 h2 h3)
            have HDL := Lib.hid (show D.length ≤ 16777216 by rw [hD]; have := (HFK.out.del q).len; omega)
            clear hD HE0 HNX HST HAP hg hgN
            cases hlk : look (flip ML) g with
            | none =>
              have HSC2 : Hid (Calls Try.prog 29 #[.agg #[.int .i64 (s : Int), .int .i64 (b : Int), .int .i64 (p : Int), .slice A ML.length n], .int .i64 g] W1 fun e w' => e = .returned (.tuple #[.int .i64 0, .bool false]) ∧ Below W1.heap.size W1 w') := Lib.hid (by have := HSC.out; rw [hlk] at this; exact this)
              clear hlk hbz
              go_wp2_with fail
              refine HSC2.out.mono ?_
              rintro e W2 ⟨rfl, hb2⟩
              have HR2 := Lib.hid (HR1.out.later hb2)
              have HX2 := Lib.hid ((hb2.block _ (Array.getElem?_eq_some_iff.1 HX1.out).1).trans HX1.out)
              clear hb2 HSC2 HSC mc0 mc1 mc2 mc3 rc0 rc1 rc2 rc3 rf0 rf1 rf2 rf3 oc0 oc1 oc2 oc3 of0 of1 of2 of3 xc0 xc1
              have oc0 : W2.cell? ⟨w.heap.size + 2, 0, none⟩ = some (.int .i64 (s : Int)) := by rw [cell_of_row W2 _ 0 _ _ _ HR2.out.o]; rfl
              have oc1 : W2.cell? ⟨w.heap.size + 2, 1, none⟩ = some (.int .i64 (b : Int)) := by rw [cell_of_row W2 _ 1 _ _ _ HR2.out.o]; rfl
              have oc2 : W2.cell? ⟨w.heap.size + 2, 2, none⟩ = some (.int .i64 (p : Int)) := by rw [cell_of_row W2 _ 2 _ _ _ HR2.out.o]; rfl
              have oc3 : W2.cell? ⟨w.heap.size + 2, 3, none⟩ = some (.slice A ML.length n) := by rw [cell_of_row W2 _ 3 _ _ _ HR2.out.o]; rfl
              have xc0 : W2.cell? ⟨X, 0, none⟩ = some (.int .i64 q) := by rw [cell_of_row W2 _ 0 _ _ _ HX2.out]; rfl
              have xc1 : W2.cell? ⟨X, 1, none⟩ = some (.int .i64 g) := by rw [cell_of_row W2 _ 1 _ _ _ HX2.out]; rfl
              have H30 := Lib.hid (show Calls Try.prog 30 #[.agg #[.int .i64 (s : Int), .int .i64 (b : Int), .int .i64 (p : Int), .slice A ML.length n], .int .i64 q] W2 fun e w' => ∃ v', e = .returned (.agg #[.int .i64 (s : Int), .int .i64 (b : Int), .int .i64 (p : Int), v']) ∧ Ent w' v' D ∧ (∀ k, v'.ownBlock = some k → W2.heap.size ≤ k) ∧ Below W2.heap.size W2 w' from by rw [HD.out]; exact rwithout_any (s : Int) (b : Int) (p : Int) HR2.out.ent (by omega) q)
              go_wp2_with fail
              refine H30.out.mono ?_
              rintro e W3 ⟨v3, rfl, he3, ho3, hb3⟩
              obtain ⟨A3, n3, rfl, hn3⟩ := he3.form
              have HR3 := Lib.hid (HR2.out.later hb3)
              have HX3 := Lib.hid ((hb3.block _ (Array.getElem?_eq_some_iff.1 HX2.out).1).trans HX2.out)
              have HR4 := Lib.hid (HR3.out.put4 he3 (fun _ k hk => by have := ho3 k hk; have := HR2.out.lt; omega))
              have HX4 := Lib.hid (((chg4 W3 (w.heap.size + 2) (.int .i64 (s : Int)) (.int .i64 (b : Int)) (.int .i64 (p : Int)) (.slice A3 D.length n3)).block X (Array.getElem?_eq_some_iff.1 HX3.out).1 (by omega)).trans HX3.out)
              clear he3 ho3 hb3 H30 oc0 oc1 oc2 oc3 xc0 xc1
              have oc0 : W3.cell? ⟨w.heap.size + 2, 0, none⟩ = some (.int .i64 (s : Int)) := by rw [cell_of_row W3 _ 0 _ _ _ HR3.out.o]; rfl
              have of0 := frozen_of_row W3 (w.heap.size + 2) 0 _ _ HR3.out.o
              have oc1 : W3.cell? ⟨w.heap.size + 2, 1, none⟩ = some (.int .i64 (b : Int)) := by rw [cell_of_row W3 _ 1 _ _ _ HR3.out.o]; rfl
              have of1 := frozen_of_row W3 (w.heap.size + 2) 1 _ _ HR3.out.o
              have oc2 : W3.cell? ⟨w.heap.size + 2, 2, none⟩ = some (.int .i64 (p : Int)) := by rw [cell_of_row W3 _ 2 _ _ _ HR3.out.o]; rfl
              have of2 := frozen_of_row W3 (w.heap.size + 2) 2 _ _ HR3.out.o
              have oc3 : W3.cell? ⟨w.heap.size + 2, 3, none⟩ = some (.slice A ML.length n) := by rw [cell_of_row W3 _ 3 _ _ _ HR3.out.o]; rfl
              have of3 := frozen_of_row W3 (w.heap.size + 2) 3 _ _ HR3.out.o
              go_upto_region 12 with fail
              obtain ⟨W4, hW4⟩ : ∃ W4, W4 = ((((W3.setCell ⟨w.heap.size + 2, 0, none⟩ (.int .i64 (s : Int))).setCell ⟨w.heap.size + 2, 1, none⟩ (.int .i64 (b : Int))).setCell ⟨w.heap.size + 2, 2, none⟩ (.int .i64 (p : Int))).setCell ⟨w.heap.size + 2, 3, none⟩ (.slice A3 D.length n3)) := ⟨_, rfl⟩
              rw [← hW4] at HR4 HX4 ⊢
              clear hW4 oc0 oc1 oc2 oc3 of0 of1 of2 of3
              have xc0 : W4.cell? ⟨X, 0, none⟩ = some (.int .i64 q) := by rw [cell_of_row W4 _ 0 _ _ _ HX4.out]; rfl
              have xc1 : W4.cell? ⟨X, 1, none⟩ = some (.int .i64 g) := by rw [cell_of_row W4 _ 1 _ _ _ HX4.out]; rfl
              go_wp2
              have HI0 : Hid (Rm w s b p (.slice A0 L.length n0) (.slice A3 D.length n3) D W4 ∧ W4.heap[X]? = some (.cells #[.int .i64 q, .int .i64 g] 50 (0, 0))) := Lib.hid ⟨HR4.out, HX4.out⟩
              clear xc0 xc1 HR1 HX1 HR2 HX2 HR3 HX3 HR4 HX4 HR
              go_loopw [11] (fun j wi => ∃ t : Nat, t ≤ D.length ∧ j = .int .i64 t ∧ Hid (Rm w s b p (.slice A0 L.length n0) (.slice A3 D.length n3) D wi ∧ wi.heap[X]? = some (.cells #[.int .i64 q, .int .i64 g] 50 (0, 0))) ∧ Hid (∀ i (hi : i < D.length), i < t → D[i].1 < q)) (fun j _ => D.length - (RowKit.intOf j).toNat)
              case atStart => exact ⟨0, Nat.zero_le _, rfl, HI0, Lib.hid (fun i _ h => by omega)⟩
              case round =>
                clear HI0
                obtain ⟨t, ht, rfl, HI, HLT⟩ := hrel
                have oc3 : wr.cell? ⟨w.heap.size + 2, 3, none⟩ = some (.slice A3 D.length n3) := by rw [cell_of_row wr _ 3 _ _ _ HI.out.1.o]; rfl
                have xc0 : wr.cell? ⟨X, 0, none⟩ = some (.int .i64 q) := by rw [cell_of_row wr _ 0 _ _ _ HI.out.2]; rfl
                have HI5 := Lib.hid (fun nq : Nat => (show Rm w s b p (.slice A0 L.length n0) (.slice A3 D.length n3) D (wr.drewN nq) ∧ (wr.drewN nq).heap[X]? = some (.cells #[.int .i64 q, .int .i64 g] 50 (0, 0)) from ⟨HI.out.1.later (below_drewN _ nq), HI.out.2⟩))
                by_cases hlt2 : t < D.length
                · obtain ⟨gd, od, cd, hv, e1, -⟩ := HI.out.1.ent.at hlt2
                  cases hv
                  have u1 : decide (t < D.length) = true := decide_eq_true hlt2
                  have HLT2 := Lib.hid (fun (hd : D[t].1 < q) => (show ∀ i (hi : i < D.length), i < t + 1 → D[i].1 < q from fun i hi hit => by
                    rcases Nat.lt_or_ge i t with h3 | h3
                    · exact HLT.out i hi h3
                    · have : i = t := by omega
                      subst this; exact hd))
                  have HGE0 := Lib.hid (fun (hd : ¬ D[t].1 < q) => (show ∀ h : t < D.length, ¬ D[t].1 < q from fun _ => hd))
                  have hdl2 := HDL.out
                  have ht0 : (0 : Int) ≤ (t : Int) := by omega
                  have ht1 : (t : Int) < (D.length : Int) := by omega
                  generalize D[t].1 = dq at HLT2 HGE0 e1
                  by_cases hd : dq < q
                  · have u2 : decide (dq < q) = true := decide_eq_true hd
                    have HL2 := Lib.hid (HLT2.out hd)
                    go_wp2
                    go_quiet (fail)
                    have HI6 := Lib.hid (HI5.out nq)
                    generalize wr.drewN nq = W5 at *
                    go_wp2
                    go_roundw
                    case rel => exact ⟨t + 1, by omega, by go_num, HI6, HL2⟩
                    case measure => simp [RowKit.intOf]; omega
                  · have u2 : decide (dq < q) = false := decide_eq_false hd
                    have HGE := Lib.hid (HGE0.out hd)
                    clear HLT2 HGE0 hd
                    go_wp2
                    go_quiet (fail)
                    replace HI5 := Lib.hid (HI5.out nq)
                    clear HI oc3 xc0 e1
                    generalize wr.drewN nq = W5 at *
                    go_upto_region 16 with fail
                    have HE5 := Lib.hid HI5.out.1.ent
                    obtain ⟨V1, ev1, hV1⟩ := ent_slice_h (hi := t) HE5.out ht hn3
                    obtain ⟨V2, ev2, hV2⟩ := ent_slice_l (lo := t) HE5.out ht hn3
                    have hk1 : (D.take t).length ≤ 16777216 := by rw [List.length_take]; have := HDL.out; omega
                    have hk2 : (D.drop t).length ≤ 16777216 := by rw [List.length_drop]; have := HDL.out; omega
                    have HAS := Lib.hid (show asg ML q g = D.take t ++ (q, g) :: D.drop t from HASG.out t ht HLT.out HGE.out)
                    generalize D.take t = l1 at *
                    generalize D.drop t = l2 at *
                    obtain ⟨B1, k1, U1, B2, k2, U2, B3, k3, U3, ra1, ra2, ra3, hbU1, hA⟩ := ord_a W5 q g hV1 hV2 hk1 hk2
                    obtain ⟨B4, k4, U4, B5, k5, U5, B6, k6, U6, rb1, rb2, rb3, hB⟩ := ord_b W5 ((W5.alloc (.cells #[] 50)).alloc (.cells #[.int .i64 q, .int .i64 g] 50)).drew (x := W5.heap.size + 1) (y := W5.heap.size) (q := q) (g := g) hV1 hV2 hk1 hk2 (((below_alloc W5 _).alloc (by simp) _).drew) (Nat.le_refl _) (by omega) ((Below.heap_alloc _ _ _ (by simp)).trans (heap_alloc_new W5 _)) (by have := heap_alloc_new (W5.alloc (.cells #[] 50)) (.cells #[.int .i64 q, .int .i64 g] 50); rwa [World.size_alloc] at this)
                    obtain ⟨B7, k7, U7, B8, k8, U8, B9, k9, U9, rc1, rc2, rc3, hC⟩ := ord_b W5 ((W5.alloc (.cells #[.int .i64 q, .int .i64 g] 50)).alloc (.cells #[] 50)).drew (x := W5.heap.size) (y := W5.heap.size + 1) (q := q) (g := g) hV1 hV2 hk1 hk2 (((below_alloc W5 _).alloc (by simp) _).drew) (by omega) (by omega) (by have := heap_alloc_new (W5.alloc (.cells #[.int .i64 q, .int .i64 g] 50)) (.cells #[] 50); rwa [World.size_alloc] at this) ((Below.heap_alloc _ _ _ (by simp)).trans (heap_alloc_new W5 _))
                    have Ra1 := appX_run ra1
                    have Ra2 := appX_run ra2
                    have Ra3 := appX_run ra3
                    have Rb1 := appX_run rb1
                    have Rb2 := appX_run rb2
                    have Rb3 := appX_run rb3
                    have Rc1 := appX_run rc1
                    have Rc2 := appX_run rc2
                    have Rc3 := appX_run rc3
                    have hlt5 := HI5.out.1.lt
                    clear ra1 ra2 ra3 rb1 rb2 rb3 rc1 rc2 rc3
                    have HbA := Lib.hid hbU1
                    have HA := Lib.hid hA
                    have HB := Lib.hid hB
                    have HC := Lib.hid hC
                    have kz := HI5.out.1.later (Below.refl _ _)
                    have jz : W5.heap[X]? = some (.cells #[.int .i64 q, .int .i64 g] 50 (0, 0)) := ((Below.refl _ _).block _ (Array.getElem?_eq_some_iff.1 HI5.out.2).1).trans HI5.out.2
                    have zo3 : W5.cell? ⟨w.heap.size + 2, 3, none⟩ = some (.slice (some ⟨gd, od, none⟩) D.length n3) := by rw [cell_of_row W5 _ 3 _ _ _ kz.o]; rfl
                    have zf3 := frozen_of_row W5 (w.heap.size + 2) 3 _ _ kz.o
                    have zx0 : W5.cell? ⟨X, 0, none⟩ = some (.int .i64 q) := by rw [cell_of_row W5 _ 0 _ _ _ jz]; rfl
                    have zx1 : W5.cell? ⟨X, 1, none⟩ = some (.int .i64 g) := by rw [cell_of_row W5 _ 1 _ _ _ jz]; rfl
                    have lz : w.heap.size + 2 < W5.heap.size := kz.lt
                    have lxz : X < W5.heap.size := (Array.getElem?_eq_some_iff.1 jz).1
                    clear kz jz
                    have kza := HI5.out.1.later (hbU1)
                    have jza : U1.heap[X]? = some (.cells #[.int .i64 q, .int .i64 g] 50 (0, 0)) := ((hbU1).block _ (Array.getElem?_eq_some_iff.1 HI5.out.2).1).trans HI5.out.2
                    have zao3 : U1.cell? ⟨w.heap.size + 2, 3, none⟩ = some (.slice (some ⟨gd, od, none⟩) D.length n3) := by rw [cell_of_row U1 _ 3 _ _ _ kza.o]; rfl
                    have zaf3 := frozen_of_row U1 (w.heap.size + 2) 3 _ _ kza.o
                    have zax0 : U1.cell? ⟨X, 0, none⟩ = some (.int .i64 q) := by rw [cell_of_row U1 _ 0 _ _ _ jza]; rfl
                    have zax1 : U1.cell? ⟨X, 1, none⟩ = some (.int .i64 g) := by rw [cell_of_row U1 _ 1 _ _ _ jza]; rfl
                    have lza : w.heap.size + 2 < U1.heap.size := kza.lt
                    have lxza : X < U1.heap.size := (Array.getElem?_eq_some_iff.1 jza).1
                    clear kza jza
                    have kzb := HI5.out.1.later (hA.b2)
                    have jzb : U2.heap[X]? = some (.cells #[.int .i64 q, .int .i64 g] 50 (0, 0)) := ((hA.b2).block _ (Array.getElem?_eq_some_iff.1 HI5.out.2).1).trans HI5.out.2
                    have zbo3 : U2.cell? ⟨w.heap.size + 2, 3, none⟩ = some (.slice (some ⟨gd, od, none⟩) D.length n3) := by rw [cell_of_row U2 _ 3 _ _ _ kzb.o]; rfl
                    have zbf3 := frozen_of_row U2 (w.heap.size + 2) 3 _ _ kzb.o
                    have zbx0 : U2.cell? ⟨X, 0, none⟩ = some (.int .i64 q) := by rw [cell_of_row U2 _ 0 _ _ _ jzb]; rfl
                    have zbx1 : U2.cell? ⟨X, 1, none⟩ = some (.int .i64 g) := by rw [cell_of_row U2 _ 1 _ _ _ jzb]; rfl
                    have lzb : w.heap.size + 2 < U2.heap.size := kzb.lt
                    have lxzb : X < U2.heap.size := (Array.getElem?_eq_some_iff.1 jzb).1
                    clear kzb jzb
                    have kzc := HI5.out.1.later (hA.b3)
                    have jzc : U3.heap[X]? = some (.cells #[.int .i64 q, .int .i64 g] 50 (0, 0)) := ((hA.b3).block _ (Array.getElem?_eq_some_iff.1 HI5.out.2).1).trans HI5.out.2
                    have zco3 : U3.cell? ⟨w.heap.size + 2, 3, none⟩ = some (.slice (some ⟨gd, od, none⟩) D.length n3) := by rw [cell_of_row U3 _ 3 _ _ _ kzc.o]; rfl
                    have zcf3 := frozen_of_row U3 (w.heap.size + 2) 3 _ _ kzc.o
                    have zcx0 : U3.cell? ⟨X, 0, none⟩ = some (.int .i64 q) := by rw [cell_of_row U3 _ 0 _ _ _ jzc]; rfl
                    have zcx1 : U3.cell? ⟨X, 1, none⟩ = some (.int .i64 g) := by rw [cell_of_row U3 _ 1 _ _ _ jzc]; rfl
                    have lzc : w.heap.size + 2 < U3.heap.size := kzc.lt
                    have lxzc : X < U3.heap.size := (Array.getElem?_eq_some_iff.1 jzc).1
                    clear kzc jzc
                    have kzd := HI5.out.1.later (hB.b1)
                    have jzd : U4.heap[X]? = some (.cells #[.int .i64 q, .int .i64 g] 50 (0, 0)) := ((hB.b1).block _ (Array.getElem?_eq_some_iff.1 HI5.out.2).1).trans HI5.out.2
                    have zdo3 : U4.cell? ⟨w.heap.size + 2, 3, none⟩ = some (.slice (some ⟨gd, od, none⟩) D.length n3) := by rw [cell_of_row U4 _ 3 _ _ _ kzd.o]; rfl
                    have zdf3 := frozen_of_row U4 (w.heap.size + 2) 3 _ _ kzd.o
                    have zdx0 : U4.cell? ⟨X, 0, none⟩ = some (.int .i64 q) := by rw [cell_of_row U4 _ 0 _ _ _ jzd]; rfl
                    have zdx1 : U4.cell? ⟨X, 1, none⟩ = some (.int .i64 g) := by rw [cell_of_row U4 _ 1 _ _ _ jzd]; rfl
                    have lzd : w.heap.size + 2 < U4.heap.size := kzd.lt
                    have lxzd : X < U4.heap.size := (Array.getElem?_eq_some_iff.1 jzd).1
                    clear kzd jzd
                    have kze := HI5.out.1.later (hB.b2)
                    have jze : U5.heap[X]? = some (.cells #[.int .i64 q, .int .i64 g] 50 (0, 0)) := ((hB.b2).block _ (Array.getElem?_eq_some_iff.1 HI5.out.2).1).trans HI5.out.2
                    have zeo3 : U5.cell? ⟨w.heap.size + 2, 3, none⟩ = some (.slice (some ⟨gd, od, none⟩) D.length n3) := by rw [cell_of_row U5 _ 3 _ _ _ kze.o]; rfl
                    have zef3 := frozen_of_row U5 (w.heap.size + 2) 3 _ _ kze.o
                    have zex0 : U5.cell? ⟨X, 0, none⟩ = some (.int .i64 q) := by rw [cell_of_row U5 _ 0 _ _ _ jze]; rfl
                    have zex1 : U5.cell? ⟨X, 1, none⟩ = some (.int .i64 g) := by rw [cell_of_row U5 _ 1 _ _ _ jze]; rfl
                    have lze : w.heap.size + 2 < U5.heap.size := kze.lt
                    have lxze : X < U5.heap.size := (Array.getElem?_eq_some_iff.1 jze).1
                    clear kze jze
                    have kzg := HI5.out.1.later (hB.b3)
                    have jzg : U6.heap[X]? = some (.cells #[.int .i64 q, .int .i64 g] 50 (0, 0)) := ((hB.b3).block _ (Array.getElem?_eq_some_iff.1 HI5.out.2).1).trans HI5.out.2
                    have zgo3 : U6.cell? ⟨w.heap.size + 2, 3, none⟩ = some (.slice (some ⟨gd, od, none⟩) D.length n3) := by rw [cell_of_row U6 _ 3 _ _ _ kzg.o]; rfl
                    have zgf3 := frozen_of_row U6 (w.heap.size + 2) 3 _ _ kzg.o
                    have zgx0 : U6.cell? ⟨X, 0, none⟩ = some (.int .i64 q) := by rw [cell_of_row U6 _ 0 _ _ _ jzg]; rfl
                    have zgx1 : U6.cell? ⟨X, 1, none⟩ = some (.int .i64 g) := by rw [cell_of_row U6 _ 1 _ _ _ jzg]; rfl
                    have lzg : w.heap.size + 2 < U6.heap.size := kzg.lt
                    have lxzg : X < U6.heap.size := (Array.getElem?_eq_some_iff.1 jzg).1
                    clear kzg jzg
                    have kzh := HI5.out.1.later (hC.b1)
                    have jzh : U7.heap[X]? = some (.cells #[.int .i64 q, .int .i64 g] 50 (0, 0)) := ((hC.b1).block _ (Array.getElem?_eq_some_iff.1 HI5.out.2).1).trans HI5.out.2
                    have zho3 : U7.cell? ⟨w.heap.size + 2, 3, none⟩ = some (.slice (some ⟨gd, od, none⟩) D.length n3) := by rw [cell_of_row U7 _ 3 _ _ _ kzh.o]; rfl
                    have zhf3 := frozen_of_row U7 (w.heap.size + 2) 3 _ _ kzh.o
                    have zhx0 : U7.cell? ⟨X, 0, none⟩ = some (.int .i64 q) := by rw [cell_of_row U7 _ 0 _ _ _ jzh]; rfl
                    have zhx1 : U7.cell? ⟨X, 1, none⟩ = some (.int .i64 g) := by rw [cell_of_row U7 _ 1 _ _ _ jzh]; rfl
                    have lzh : w.heap.size + 2 < U7.heap.size := kzh.lt
                    have lxzh : X < U7.heap.size := (Array.getElem?_eq_some_iff.1 jzh).1
                    clear kzh jzh
                    have kzi := HI5.out.1.later (hC.b2)
                    have jzi : U8.heap[X]? = some (.cells #[.int .i64 q, .int .i64 g] 50 (0, 0)) := ((hC.b2).block _ (Array.getElem?_eq_some_iff.1 HI5.out.2).1).trans HI5.out.2
                    have zio3 : U8.cell? ⟨w.heap.size + 2, 3, none⟩ = some (.slice (some ⟨gd, od, none⟩) D.length n3) := by rw [cell_of_row U8 _ 3 _ _ _ kzi.o]; rfl
                    have zif3 := frozen_of_row U8 (w.heap.size + 2) 3 _ _ kzi.o
                    have zix0 : U8.cell? ⟨X, 0, none⟩ = some (.int .i64 q) := by rw [cell_of_row U8 _ 0 _ _ _ jzi]; rfl
                    have zix1 : U8.cell? ⟨X, 1, none⟩ = some (.int .i64 g) := by rw [cell_of_row U8 _ 1 _ _ _ jzi]; rfl
                    have lzi : w.heap.size + 2 < U8.heap.size := kzi.lt
                    have lxzi : X < U8.heap.size := (Array.getElem?_eq_some_iff.1 jzi).1
                    clear kzi jzi
                    have kzj := HI5.out.1.later (hC.b3)
                    have jzj : U9.heap[X]? = some (.cells #[.int .i64 q, .int .i64 g] 50 (0, 0)) := ((hC.b3).block _ (Array.getElem?_eq_some_iff.1 HI5.out.2).1).trans HI5.out.2
                    have zjo3 : U9.cell? ⟨w.heap.size + 2, 3, none⟩ = some (.slice (some ⟨gd, od, none⟩) D.length n3) := by rw [cell_of_row U9 _ 3 _ _ _ kzj.o]; rfl
                    have zjf3 := frozen_of_row U9 (w.heap.size + 2) 3 _ _ kzj.o
                    have zjx0 : U9.cell? ⟨X, 0, none⟩ = some (.int .i64 q) := by rw [cell_of_row U9 _ 0 _ _ _ jzj]; rfl
                    have zjx1 : U9.cell? ⟨X, 1, none⟩ = some (.int .i64 g) := by rw [cell_of_row U9 _ 1 _ _ _ jzj]; rfl
                    have lzj : w.heap.size + 2 < U9.heap.size := kzj.lt
                    have lxzj : X < U9.heap.size := (Array.getElem?_eq_some_iff.1 jzj).1
                    clear kzj jzj
                    have HRA : Hid (Rm w s b p (.slice A0 L.length n0) (.slice B3 (l1.length + 1 + l2.length) k3) (asg ML q g) (U3.setCell ⟨w.heap.size + 2, 3, none⟩ (.slice B3 (l1.length + 1 + l2.length) k3))) := Lib.hid (by
                      rw [HAS.out]
                      have e := ent_of_own (l := l1 ++ (q, g) :: l2) (n := (l1 ++ (q, g) :: l2).length) hA.own
                      exact (HI5.out.1.later hA.b3).put1 e.2.1 (fun _ k hk => by have := (e.2.2 k hk).1; omega))
                    have HRB : Hid (Rm w s b p (.slice A0 L.length n0) (.slice B6 (l1.length + 1 + l2.length) k6) (asg ML q g) (U6.setCell ⟨w.heap.size + 2, 3, none⟩ (.slice B6 (l1.length + 1 + l2.length) k6))) := Lib.hid (by
                      rw [HAS.out]
                      have e := ent_of_own (l := l1 ++ (q, g) :: l2) (n := (l1 ++ (q, g) :: l2).length) hB.own
                      exact (HI5.out.1.later hB.b3).put1 e.2.1 (fun _ k hk => by have := (e.2.2 k hk).1; omega))
                    have HRC : Hid (Rm w s b p (.slice A0 L.length n0) (.slice B9 (l1.length + 1 + l2.length) k9) (asg ML q g) (U9.setCell ⟨w.heap.size + 2, 3, none⟩ (.slice B9 (l1.length + 1 + l2.length) k9))) := Lib.hid (by
                      rw [HAS.out]
                      have e := ent_of_own (l := l1 ++ (q, g) :: l2) (n := (l1 ++ (q, g) :: l2).length) hC.own
                      exact (HI5.out.1.later hC.b3).put1 e.2.1 (fun _ k hk => by have := (e.2.2 k hk).1; omega))
                    have z1 : (l1.length : Int) ≤ 16777216 := by omega
                    generalize l1.length = ll1 at *
                    generalize l2.length = ll2 at *
                    clear hA hB hC hbU1 hV1 hV2 HE5 hk1 hk2 HbA HA HB HC HAS
                    go_region
                    all_goals
                      go_wp2
                      go_roundw
                      case rel => first | exact ⟨k + 1, asg ML q g, _, by omega, by go_num, HRA, HFA, HAP2⟩ | exact ⟨k + 1, asg ML q g, _, by omega, by go_num, HRB, HFA, HAP2⟩ | exact ⟨k + 1, asg ML q g, _, by omega, by go_num, HRC, HFA, HAP2⟩
                      case measure => simp [RowKit.intOf]; omega
                · have htl : t = D.length := by omega
                  have u1 : decide (t < D.length) = false := decide_eq_false hlt2
                  have u3 : ¬ (t : Int) < (D.length : Int) := by omega
                  have u4 : decide ((t : Int) < (D.length : Int)) = false := decide_eq_false u3
                  have HGE := Lib.hid (show ∀ h : t < D.length, ¬ D[t].1 < q from fun h => absurd h hlt2)
                  clear htl
                  go_wp2
                  go_quiet (fail)
                  replace HI5 := Lib.hid (HI5.out nq)
                  clear HI oc3 xc0
                  generalize wr.drewN nq = W5 at *
                  go_upto_region 16 with fail
                  have HE5 := Lib.hid HI5.out.1.ent
                  obtain ⟨V1, ev1, hV1⟩ := ent_slice_h (hi := t) HE5.out ht hn3
                  obtain ⟨V2, ev2, hV2⟩ := ent_slice_l (lo := t) HE5.out ht hn3
                  have hk1 : (D.take t).length ≤ 16777216 := by rw [List.length_take]; have := HDL.out; omega
                  have hk2 : (D.drop t).length ≤ 16777216 := by rw [List.length_drop]; have := HDL.out; omega
                  have HAS := Lib.hid (show asg ML q g = D.take t ++ (q, g) :: D.drop t from HASG.out t ht HLT.out HGE.out)
                  generalize D.take t = l1 at *
                  generalize D.drop t = l2 at *
                  obtain ⟨B1, k1, U1, B2, k2, U2, B3, k3, U3, ra1, ra2, ra3, hbU1, hA⟩ := ord_a W5 q g hV1 hV2 hk1 hk2
                  obtain ⟨B4, k4, U4, B5, k5, U5, B6, k6, U6, rb1, rb2, rb3, hB⟩ := ord_b W5 ((W5.alloc (.cells #[] 50)).alloc (.cells #[.int .i64 q, .int .i64 g] 50)).drew (x := W5.heap.size + 1) (y := W5.heap.size) (q := q) (g := g) hV1 hV2 hk1 hk2 (((below_alloc W5 _).alloc (by simp) _).drew) (Nat.le_refl _) (by omega) ((Below.heap_alloc _ _ _ (by simp)).trans (heap_alloc_new W5 _)) (by have := heap_alloc_new (W5.alloc (.cells #[] 50)) (.cells #[.int .i64 q, .int .i64 g] 50); rwa [World.size_alloc] at this)
                  obtain ⟨B7, k7, U7, B8, k8, U8, B9, k9, U9, rc1, rc2, rc3, hC⟩ := ord_b W5 ((W5.alloc (.cells #[.int .i64 q, .int .i64 g] 50)).alloc (.cells #[] 50)).drew (x := W5.heap.size) (y := W5.heap.size + 1) (q := q) (g := g) hV1 hV2 hk1 hk2 (((below_alloc W5 _).alloc (by simp) _).drew) (by omega) (by omega) (by have := heap_alloc_new (W5.alloc (.cells #[.int .i64 q, .int .i64 g] 50)) (.cells #[] 50); rwa [World.size_alloc] at this) ((Below.heap_alloc _ _ _ (by simp)).trans (heap_alloc_new W5 _))
                  have Ra1 := appX_run ra1
                  have Ra2 := appX_run ra2
                  have Ra3 := appX_run ra3
                  have Rb1 := appX_run rb1
                  have Rb2 := appX_run rb2
                  have Rb3 := appX_run rb3
                  have Rc1 := appX_run rc1
                  have Rc2 := appX_run rc2
                  have Rc3 := appX_run rc3
                  have hlt5 := HI5.out.1.lt
                  clear ra1 ra2 ra3 rb1 rb2 rb3 rc1 rc2 rc3
                  have HbA := Lib.hid hbU1
                  have HA := Lib.hid hA
                  have HB := Lib.hid hB
                  have HC := Lib.hid hC
                  have kz := HI5.out.1.later (Below.refl _ _)
                  have jz : W5.heap[X]? = some (.cells #[.int .i64 q, .int .i64 g] 50 (0, 0)) := ((Below.refl _ _).block _ (Array.getElem?_eq_some_iff.1 HI5.out.2).1).trans HI5.out.2
                  have zo3 : W5.cell? ⟨w.heap.size + 2, 3, none⟩ = some (.slice A3 D.length n3) := by rw [cell_of_row W5 _ 3 _ _ _ kz.o]; rfl
                  have zf3 := frozen_of_row W5 (w.heap.size + 2) 3 _ _ kz.o
                  have zx0 : W5.cell? ⟨X, 0, none⟩ = some (.int .i64 q) := by rw [cell_of_row W5 _ 0 _ _ _ jz]; rfl
                  have zx1 : W5.cell? ⟨X, 1, none⟩ = some (.int .i64 g) := by rw [cell_of_row W5 _ 1 _ _ _ jz]; rfl
                  have lz : w.heap.size + 2 < W5.heap.size := kz.lt
                  have lxz : X < W5.heap.size := (Array.getElem?_eq_some_iff.1 jz).1
                  clear kz jz
                  have kza := HI5.out.1.later (hbU1)
                  have jza : U1.heap[X]? = some (.cells #[.int .i64 q, .int .i64 g] 50 (0, 0)) := ((hbU1).block _ (Array.getElem?_eq_some_iff.1 HI5.out.2).1).trans HI5.out.2
                  have zao3 : U1.cell? ⟨w.heap.size + 2, 3, none⟩ = some (.slice A3 D.length n3) := by rw [cell_of_row U1 _ 3 _ _ _ kza.o]; rfl
                  have zaf3 := frozen_of_row U1 (w.heap.size + 2) 3 _ _ kza.o
                  have zax0 : U1.cell? ⟨X, 0, none⟩ = some (.int .i64 q) := by rw [cell_of_row U1 _ 0 _ _ _ jza]; rfl
                  have zax1 : U1.cell? ⟨X, 1, none⟩ = some (.int .i64 g) := by rw [cell_of_row U1 _ 1 _ _ _ jza]; rfl
                  have lza : w.heap.size + 2 < U1.heap.size := kza.lt
                  have lxza : X < U1.heap.size := (Array.getElem?_eq_some_iff.1 jza).1
                  clear kza jza
                  have kzb := HI5.out.1.later (hA.b2)
                  have jzb : U2.heap[X]? = some (.cells #[.int .i64 q, .int .i64 g] 50 (0, 0)) := ((hA.b2).block _ (Array.getElem?_eq_some_iff.1 HI5.out.2).1).trans HI5.out.2
                  have zbo3 : U2.cell? ⟨w.heap.size + 2, 3, none⟩ = some (.slice A3 D.length n3) := by rw [cell_of_row U2 _ 3 _ _ _ kzb.o]; rfl
                  have zbf3 := frozen_of_row U2 (w.heap.size + 2) 3 _ _ kzb.o
                  have zbx0 : U2.cell? ⟨X, 0, none⟩ = some (.int .i64 q) := by rw [cell_of_row U2 _ 0 _ _ _ jzb]; rfl
                  have zbx1 : U2.cell? ⟨X, 1, none⟩ = some (.int .i64 g) := by rw [cell_of_row U2 _ 1 _ _ _ jzb]; rfl
                  have lzb : w.heap.size + 2 < U2.heap.size := kzb.lt
                  have lxzb : X < U2.heap.size := (Array.getElem?_eq_some_iff.1 jzb).1
                  clear kzb jzb
                  have kzc := HI5.out.1.later (hA.b3)
                  have jzc : U3.heap[X]? = some (.cells #[.int .i64 q, .int .i64 g] 50 (0, 0)) := ((hA.b3).block _ (Array.getElem?_eq_some_iff.1 HI5.out.2).1).trans HI5.out.2
                  have zco3 : U3.cell? ⟨w.heap.size + 2, 3, none⟩ = some (.slice A3 D.length n3) := by rw [cell_of_row U3 _ 3 _ _ _ kzc.o]; rfl
                  have zcf3 := frozen_of_row U3 (w.heap.size + 2) 3 _ _ kzc.o
                  have zcx0 : U3.cell? ⟨X, 0, none⟩ = some (.int .i64 q) := by rw [cell_of_row U3 _ 0 _ _ _ jzc]; rfl
                  have zcx1 : U3.cell? ⟨X, 1, none⟩ = some (.int .i64 g) := by rw [cell_of_row U3 _ 1 _ _ _ jzc]; rfl
                  have lzc : w.heap.size + 2 < U3.heap.size := kzc.lt
                  have lxzc : X < U3.heap.size := (Array.getElem?_eq_some_iff.1 jzc).1
                  clear kzc jzc
                  have kzd := HI5.out.1.later (hB.b1)
                  have jzd : U4.heap[X]? = some (.cells #[.int .i64 q, .int .i64 g] 50 (0, 0)) := ((hB.b1).block _ (Array.getElem?_eq_some_iff.1 HI5.out.2).1).trans HI5.out.2
                  have zdo3 : U4.cell? ⟨w.heap.size + 2, 3, none⟩ = some (.slice A3 D.length n3) := by rw [cell_of_row U4 _ 3 _ _ _ kzd.o]; rfl
                  have zdf3 := frozen_of_row U4 (w.heap.size + 2) 3 _ _ kzd.o
                  have zdx0 : U4.cell? ⟨X, 0, none⟩ = some (.int .i64 q) := by rw [cell_of_row U4 _ 0 _ _ _ jzd]; rfl
                  have zdx1 : U4.cell? ⟨X, 1, none⟩ = some (.int .i64 g) := by rw [cell_of_row U4 _ 1 _ _ _ jzd]; rfl
                  have lzd : w.heap.size + 2 < U4.heap.size := kzd.lt
                  have lxzd : X < U4.heap.size := (Array.getElem?_eq_some_iff.1 jzd).1
                  clear kzd jzd
                  have kze := HI5.out.1.later (hB.b2)
                  have jze : U5.heap[X]? = some (.cells #[.int .i64 q, .int .i64 g] 50 (0, 0)) := ((hB.b2).block _ (Array.getElem?_eq_some_iff.1 HI5.out.2).1).trans HI5.out.2
                  have zeo3 : U5.cell? ⟨w.heap.size + 2, 3, none⟩ = some (.slice A3 D.length n3) := by rw [cell_of_row U5 _ 3 _ _ _ kze.o]; rfl
                  have zef3 := frozen_of_row U5 (w.heap.size + 2) 3 _ _ kze.o
                  have zex0 : U5.cell? ⟨X, 0, none⟩ = some (.int .i64 q) := by rw [cell_of_row U5 _ 0 _ _ _ jze]; rfl
                  have zex1 : U5.cell? ⟨X, 1, none⟩ = some (.int .i64 g) := by rw [cell_of_row U5 _ 1 _ _ _ jze]; rfl
                  have lze : w.heap.size + 2 < U5.heap.size := kze.lt
                  have lxze : X < U5.heap.size := (Array.getElem?_eq_some_iff.1 jze).1
                  clear kze jze
                  have kzg := HI5.out.1.later (hB.b3)
                  have jzg : U6.heap[X]? = some (.cells #[.int .i64 q, .int .i64 g] 50 (0, 0)) := ((hB.b3).block _ (Array.getElem?_eq_some_iff.1 HI5.out.2).1).trans HI5.out.2
                  have zgo3 : U6.cell? ⟨w.heap.size + 2, 3, none⟩ = some (.slice A3 D.length n3) := by rw [cell_of_row U6 _ 3 _ _ _ kzg.o]; rfl
                  have zgf3 := frozen_of_row U6 (w.heap.size + 2) 3 _ _ kzg.o
                  have zgx0 : U6.cell? ⟨X, 0, none⟩ = some (.int .i64 q) := by rw [cell_of_row U6 _ 0 _ _ _ jzg]; rfl
                  have zgx1 : U6.cell? ⟨X, 1, none⟩ = some (.int .i64 g) := by rw [cell_of_row U6 _ 1 _ _ _ jzg]; rfl
                  have lzg : w.heap.size + 2 < U6.heap.size := kzg.lt
                  have lxzg : X < U6.heap.size := (Array.getElem?_eq_some_iff.1 jzg).1
                  clear kzg jzg
                  have kzh := HI5.out.1.later (hC.b1)
                  have jzh : U7.heap[X]? = some (.cells #[.int .i64 q, .int .i64 g] 50 (0, 0)) := ((hC.b1).block _ (Array.getElem?_eq_some_iff.1 HI5.out.2).1).trans HI5.out.2
                  have zho3 : U7.cell? ⟨w.heap.size + 2, 3, none⟩ = some (.slice A3 D.length n3) := by rw [cell_of_row U7 _ 3 _ _ _ kzh.o]; rfl
                  have zhf3 := frozen_of_row U7 (w.heap.size + 2) 3 _ _ kzh.o
                  have zhx0 : U7.cell? ⟨X, 0, none⟩ = some (.int .i64 q) := by rw [cell_of_row U7 _ 0 _ _ _ jzh]; rfl
                  have zhx1 : U7.cell? ⟨X, 1, none⟩ = some (.int .i64 g) := by rw [cell_of_row U7 _ 1 _ _ _ jzh]; rfl
                  have lzh : w.heap.size + 2 < U7.heap.size := kzh.lt
                  have lxzh : X < U7.heap.size := (Array.getElem?_eq_some_iff.1 jzh).1
                  clear kzh jzh
                  have kzi := HI5.out.1.later (hC.b2)
                  have jzi : U8.heap[X]? = some (.cells #[.int .i64 q, .int .i64 g] 50 (0, 0)) := ((hC.b2).block _ (Array.getElem?_eq_some_iff.1 HI5.out.2).1).trans HI5.out.2
                  have zio3 : U8.cell? ⟨w.heap.size + 2, 3, none⟩ = some (.slice A3 D.length n3) := by rw [cell_of_row U8 _ 3 _ _ _ kzi.o]; rfl
                  have zif3 := frozen_of_row U8 (w.heap.size + 2) 3 _ _ kzi.o
                  have zix0 : U8.cell? ⟨X, 0, none⟩ = some (.int .i64 q) := by rw [cell_of_row U8 _ 0 _ _ _ jzi]; rfl
                  have zix1 : U8.cell? ⟨X, 1, none⟩ = some (.int .i64 g) := by rw [cell_of_row U8 _ 1 _ _ _ jzi]; rfl
                  have lzi : w.heap.size + 2 < U8.heap.size := kzi.lt
                  have lxzi : X < U8.heap.size := (Array.getElem?_eq_some_iff.1 jzi).1
                  clear kzi jzi
                  have kzj := HI5.out.1.later (hC.b3)
                  have jzj : U9.heap[X]? = some (.cells #[.int .i64 q, .int .i64 g] 50 (0, 0)) := ((hC.b3).block _ (Array.getElem?_eq_some_iff.1 HI5.out.2).1).trans HI5.out.2
                  have zjo3 : U9.cell? ⟨w.heap.size + 2, 3, none⟩ = some (.slice A3 D.length n3) := by rw [cell_of_row U9 _ 3 _ _ _ kzj.o]; rfl
                  have zjf3 := frozen_of_row U9 (w.heap.size + 2) 3 _ _ kzj.o
                  have zjx0 : U9.cell? ⟨X, 0, none⟩ = some (.int .i64 q) := by rw [cell_of_row U9 _ 0 _ _ _ jzj]; rfl
                  have zjx1 : U9.cell? ⟨X, 1, none⟩ = some (.int .i64 g) := by rw [cell_of_row U9 _ 1 _ _ _ jzj]; rfl
                  have lzj : w.heap.size + 2 < U9.heap.size := kzj.lt
                  have lxzj : X < U9.heap.size := (Array.getElem?_eq_some_iff.1 jzj).1
                  clear kzj jzj
                  have HRA : Hid (Rm w s b p (.slice A0 L.length n0) (.slice B3 (l1.length + 1 + l2.length) k3) (asg ML q g) (U3.setCell ⟨w.heap.size + 2, 3, none⟩ (.slice B3 (l1.length + 1 + l2.length) k3))) := Lib.hid (by
                    rw [HAS.out]
                    have e := ent_of_own (l := l1 ++ (q, g) :: l2) (n := (l1 ++ (q, g) :: l2).length) hA.own
                    exact (HI5.out.1.later hA.b3).put1 e.2.1 (fun _ k hk => by have := (e.2.2 k hk).1; omega))
                  have HRB : Hid (Rm w s b p (.slice A0 L.length n0) (.slice B6 (l1.length + 1 + l2.length) k6) (asg ML q g) (U6.setCell ⟨w.heap.size + 2, 3, none⟩ (.slice B6 (l1.length + 1 + l2.length) k6))) := Lib.hid (by
                    rw [HAS.out]
                    have e := ent_of_own (l := l1 ++ (q, g) :: l2) (n := (l1 ++ (q, g) :: l2).length) hB.own
                    exact (HI5.out.1.later hB.b3).put1 e.2.1 (fun _ k hk => by have := (e.2.2 k hk).1; omega))
                  have HRC : Hid (Rm w s b p (.slice A0 L.length n0) (.slice B9 (l1.length + 1 + l2.length) k9) (asg ML q g) (U9.setCell ⟨w.heap.size + 2, 3, none⟩ (.slice B9 (l1.length + 1 + l2.length) k9))) := Lib.hid (by
                    rw [HAS.out]
                    have e := ent_of_own (l := l1 ++ (q, g) :: l2) (n := (l1 ++ (q, g) :: l2).length) hC.own
                    exact (HI5.out.1.later hC.b3).put1 e.2.1 (fun _ k hk => by have := (e.2.2 k hk).1; omega))
                  have z1 : (l1.length : Int) ≤ 16777216 := by omega
                  generalize l1.length = ll1 at *
                  generalize l2.length = ll2 at *
                  clear hA hB hC hbU1 hV1 hV2 HE5 hk1 hk2 HbA HA HB HC HAS
                  go_region
                  all_goals
                    go_wp2
                    go_roundw
                    case rel => first | exact ⟨k + 1, asg ML q g, _, by omega, by go_num, HRA, HFA, HAP2⟩ | exact ⟨k + 1, asg ML q g, _, by omega, by go_num, HRB, HFA, HAP2⟩ | exact ⟨k + 1, asg ML q g, _, by omega, by go_num, HRC, HFA, HAP2⟩
                    case measure => simp [RowKit.intOf]; omega
            | some kk =>
              have hkq : kk = q := Classical.byContradiction fun hne => hbz ⟨kk, hlk, hne⟩
              subst hkq
              have HSC2 : Hid (Calls Try.prog 29 #[.agg #[.int .i64 (s : Int), .int .i64 (b : Int), .int .i64 (p : Int), .slice A ML.length n], .int .i64 g] W1 fun e w' => e = .returned (.tuple #[.int .i64 kk, .bool true]) ∧ Below W1.heap.size W1 w') := Lib.hid (by have := HSC.out; rw [hlk] at this; exact this)
              clear hlk hbz
              have d6 : (kk == kk) = true := by simp
              go_wp2_with fail
              refine HSC2.out.mono ?_
              rintro e W2 ⟨rfl, hb2⟩
              have HR2 := Lib.hid (HR1.out.later hb2)
              have HX2 := Lib.hid ((hb2.block _ (Array.getElem?_eq_some_iff.1 HX1.out).1).trans HX1.out)
              clear hb2 HSC2 HSC mc0 mc1 mc2 mc3 rc0 rc1 rc2 rc3 rf0 rf1 rf2 rf3 oc0 oc1 oc2 oc3 of0 of1 of2 of3 xc0 xc1
              have oc0 : W2.cell? ⟨w.heap.size + 2, 0, none⟩ = some (.int .i64 (s : Int)) := by rw [cell_of_row W2 _ 0 _ _ _ HR2.out.o]; rfl
              have oc1 : W2.cell? ⟨w.heap.size + 2, 1, none⟩ = some (.int .i64 (b : Int)) := by rw [cell_of_row W2 _ 1 _ _ _ HR2.out.o]; rfl
              have oc2 : W2.cell? ⟨w.heap.size + 2, 2, none⟩ = some (.int .i64 (p : Int)) := by rw [cell_of_row W2 _ 2 _ _ _ HR2.out.o]; rfl
              have oc3 : W2.cell? ⟨w.heap.size + 2, 3, none⟩ = some (.slice A ML.length n) := by rw [cell_of_row W2 _ 3 _ _ _ HR2.out.o]; rfl
              have xc0 : W2.cell? ⟨X, 0, none⟩ = some (.int .i64 kk) := by rw [cell_of_row W2 _ 0 _ _ _ HX2.out]; rfl
              have xc1 : W2.cell? ⟨X, 1, none⟩ = some (.int .i64 g) := by rw [cell_of_row W2 _ 1 _ _ _ HX2.out]; rfl
              have H30 := Lib.hid (show Calls Try.prog 30 #[.agg #[.int .i64 (s : Int), .int .i64 (b : Int), .int .i64 (p : Int), .slice A ML.length n], .int .i64 kk] W2 fun e w' => ∃ v', e = .returned (.agg #[.int .i64 (s : Int), .int .i64 (b : Int), .int .i64 (p : Int), v']) ∧ Ent w' v' D ∧ (∀ k, v'.ownBlock = some k → W2.heap.size ≤ k) ∧ Below W2.heap.size W2 w' from by rw [HD.out]; exact rwithout_any (s : Int) (b : Int) (p : Int) HR2.out.ent (by omega) kk)
              go_wp2_with fail
              refine H30.out.mono ?_
              rintro e W3 ⟨v3, rfl, he3, ho3, hb3⟩
              obtain ⟨A3, n3, rfl, hn3⟩ := he3.form
              have HR3 := Lib.hid (HR2.out.later hb3)
              have HX3 := Lib.hid ((hb3.block _ (Array.getElem?_eq_some_iff.1 HX2.out).1).trans HX2.out)
              have HR4 := Lib.hid (HR3.out.put4 he3 (fun _ k hk => by have := ho3 k hk; have := HR2.out.lt; omega))
              have HX4 := Lib.hid (((chg4 W3 (w.heap.size + 2) (.int .i64 (s : Int)) (.int .i64 (b : Int)) (.int .i64 (p : Int)) (.slice A3 D.length n3)).block X (Array.getElem?_eq_some_iff.1 HX3.out).1 (by omega)).trans HX3.out)
              clear he3 ho3 hb3 H30 oc0 oc1 oc2 oc3 xc0 xc1
              have oc0 : W3.cell? ⟨w.heap.size + 2, 0, none⟩ = some (.int .i64 (s : Int)) := by rw [cell_of_row W3 _ 0 _ _ _ HR3.out.o]; rfl
              have of0 := frozen_of_row W3 (w.heap.size + 2) 0 _ _ HR3.out.o
              have oc1 : W3.cell? ⟨w.heap.size + 2, 1, none⟩ = some (.int .i64 (b : Int)) := by rw [cell_of_row W3 _ 1 _ _ _ HR3.out.o]; rfl
              have of1 := frozen_of_row W3 (w.heap.size + 2) 1 _ _ HR3.out.o
              have oc2 : W3.cell? ⟨w.heap.size + 2, 2, none⟩ = some (.int .i64 (p : Int)) := by rw [cell_of_row W3 _ 2 _ _ _ HR3.out.o]; rfl
              have of2 := frozen_of_row W3 (w.heap.size + 2) 2 _ _ HR3.out.o
              have oc3 : W3.cell? ⟨w.heap.size + 2, 3, none⟩ = some (.slice A ML.length n) := by rw [cell_of_row W3 _ 3 _ _ _ HR3.out.o]; rfl
              have of3 := frozen_of_row W3 (w.heap.size + 2) 3 _ _ HR3.out.o
              go_upto_region 12 with fail
              obtain ⟨W4, hW4⟩ : ∃ W4, W4 = ((((W3.setCell ⟨w.heap.size + 2, 0, none⟩ (.int .i64 (s : Int))).setCell ⟨w.heap.size + 2, 1, none⟩ (.int .i64 (b : Int))).setCell ⟨w.heap.size + 2, 2, none⟩ (.int .i64 (p : Int))).setCell ⟨w.heap.size + 2, 3, none⟩ (.slice A3 D.length n3)) := ⟨_, rfl⟩
              rw [← hW4] at HR4 HX4 ⊢
              clear hW4 oc0 oc1 oc2 oc3 of0 of1 of2 of3
              have xc0 : W4.cell? ⟨X, 0, none⟩ = some (.int .i64 kk) := by rw [cell_of_row W4 _ 0 _ _ _ HX4.out]; rfl
              have xc1 : W4.cell? ⟨X, 1, none⟩ = some (.int .i64 g) := by rw [cell_of_row W4 _ 1 _ _ _ HX4.out]; rfl
              go_wp2
              have HI0 : Hid (Rm w s b p (.slice A0 L.length n0) (.slice A3 D.length n3) D W4 ∧ W4.heap[X]? = some (.cells #[.int .i64 kk, .int .i64 g] 50 (0, 0))) := Lib.hid ⟨HR4.out, HX4.out⟩
              clear xc0 xc1 HR1 HX1 HR2 HX2 HR3 HX3 HR4 HX4 HR
              go_loopw [11] (fun j wi => ∃ t : Nat, t ≤ D.length ∧ j = .int .i64 t ∧ Hid (Rm w s b p (.slice A0 L.length n0) (.slice A3 D.length n3) D wi ∧ wi.heap[X]? = some (.cells #[.int .i64 kk, .int .i64 g] 50 (0, 0))) ∧ Hid (∀ i (hi : i < D.length), i < t → D[i].1 < kk)) (fun j _ => D.length - (RowKit.intOf j).toNat)
              case atStart => exact ⟨0, Nat.zero_le _, rfl, HI0, Lib.hid (fun i _ h => by omega)⟩
              case round =>
                clear HI0
                obtain ⟨t, ht, rfl, HI, HLT⟩ := hrel
                have oc3 : wr.cell? ⟨w.heap.size + 2, 3, none⟩ = some (.slice A3 D.length n3) := by rw [cell_of_row wr _ 3 _ _ _ HI.out.1.o]; rfl
                have xc0 : wr.cell? ⟨X, 0, none⟩ = some (.int .i64 kk) := by rw [cell_of_row wr _ 0 _ _ _ HI.out.2]; rfl
                have HI5 := Lib.hid (fun nq : Nat => (show Rm w s b p (.slice A0 L.length n0) (.slice A3 D.length n3) D (wr.drewN nq) ∧ (wr.drewN nq).heap[X]? = some (.cells #[.int .i64 kk, .int .i64 g] 50 (0, 0)) from ⟨HI.out.1.later (below_drewN _ nq), HI.out.2⟩))
                by_cases hlt2 : t < D.length
                · obtain ⟨gd, od, cd, hv, e1, -⟩ := HI.out.1.ent.at hlt2
                  cases hv
                  have u1 : decide (t < D.length) = true := decide_eq_true hlt2
                  have HLT2 := Lib.hid (fun (hd : D[t].1 < kk) => (show ∀ i (hi : i < D.length), i < t + 1 → D[i].1 < kk from fun i hi hit => by
                    rcases Nat.lt_or_ge i t with h3 | h3
                    · exact HLT.out i hi h3
                    · have : i = t := by omega
                      subst this; exact hd))
                  have HGE0 := Lib.hid (fun (hd : ¬ D[t].1 < kk) => (show ∀ h : t < D.length, ¬ D[t].1 < kk from fun _ => hd))
                  have hdl2 := HDL.out
                  have ht0 : (0 : Int) ≤ (t : Int) := by omega
                  have ht1 : (t : Int) < (D.length : Int) := by omega
                  generalize D[t].1 = dq at HLT2 HGE0 e1
                  by_cases hd : dq < kk
                  · have u2 : decide (dq < kk) = true := decide_eq_true hd
                    have HL2 := Lib.hid (HLT2.out hd)
                    go_wp2
                    go_quiet (fail)
                    have HI6 := Lib.hid (HI5.out nq)
                    generalize wr.drewN nq = W5 at *
                    go_wp2
                    go_roundw
                    case rel => exact ⟨t + 1, by omega, by go_num, HI6, HL2⟩
                    case measure => simp [RowKit.intOf]; omega
                  · have u2 : decide (dq < kk) = false := decide_eq_false hd
                    have HGE := Lib.hid (HGE0.out hd)
                    clear HLT2 HGE0 hd
                    go_wp2
                    go_quiet (fail)
                    replace HI5 := Lib.hid (HI5.out nq)
                    clear HI oc3 xc0 e1
                    generalize wr.drewN nq = W5 at *
                    go_upto_region 16 with fail
                    have HE5 := Lib.hid HI5.out.1.ent
                    obtain ⟨V1, ev1, hV1⟩ := ent_slice_h (hi := t) HE5.out ht hn3
                    obtain ⟨V2, ev2, hV2⟩ := ent_slice_l (lo := t) HE5.out ht hn3
                    have hk1 : (D.take t).length ≤ 16777216 := by rw [List.length_take]; have := HDL.out; omega
                    have hk2 : (D.drop t).length ≤ 16777216 := by rw [List.length_drop]; have := HDL.out; omega
                    have HAS := Lib.hid (show asg ML kk g = D.take t ++ (kk, g) :: D.drop t from HASG.out t ht HLT.out HGE.out)
                    generalize D.take t = l1 at *
                    generalize D.drop t = l2 at *
                    obtain ⟨B1, k1, U1, B2, k2, U2, B3, k3, U3, ra1, ra2, ra3, hbU1, hA⟩ := ord_a W5 kk g hV1 hV2 hk1 hk2
                    obtain ⟨B4, k4, U4, B5, k5, U5, B6, k6, U6, rb1, rb2, rb3, hB⟩ := ord_b W5 ((W5.alloc (.cells #[] 50)).alloc (.cells #[.int .i64 kk, .int .i64 g] 50)).drew (x := W5.heap.size + 1) (y := W5.heap.size) (q := kk) (g := g) hV1 hV2 hk1 hk2 (((below_alloc W5 _).alloc (by simp) _).drew) (Nat.le_refl _) (by omega) ((Below.heap_alloc _ _ _ (by simp)).trans (heap_alloc_new W5 _)) (by have := heap_alloc_new (W5.alloc (.cells #[] 50)) (.cells #[.int .i64 kk, .int .i64 g] 50); rwa [World.size_alloc] at this)
                    obtain ⟨B7, k7, U7, B8, k8, U8, B9, k9, U9, rc1, rc2, rc3, hC⟩ := ord_b W5 ((W5.alloc (.cells #[.int .i64 kk, .int .i64 g] 50)).alloc (.cells #[] 50)).drew (x := W5.heap.size) (y := W5.heap.size + 1) (q := kk) (g := g) hV1 hV2 hk1 hk2 (((below_alloc W5 _).alloc (by simp) _).drew) (by omega) (by omega) (by have := heap_alloc_new (W5.alloc (.cells #[.int .i64 kk, .int .i64 g] 50)) (.cells #[] 50); rwa [World.size_alloc] at this) ((Below.heap_alloc _ _ _ (by simp)).trans (heap_alloc_new W5 _))
                    have Ra1 := appX_run ra1
                    have Ra2 := appX_run ra2
                    have Ra3 := appX_run ra3
                    have Rb1 := appX_run rb1
                    have Rb2 := appX_run rb2
                    have Rb3 := appX_run rb3
                    have Rc1 := appX_run rc1
                    have Rc2 := appX_run rc2
                    have Rc3 := appX_run rc3
                    have hlt5 := HI5.out.1.lt
                    clear ra1 ra2 ra3 rb1 rb2 rb3 rc1 rc2 rc3
                    have HbA := Lib.hid hbU1
                    have HA := Lib.hid hA
                    have HB := Lib.hid hB
                    have HC := Lib.hid hC
                    have kz := HI5.out.1.later (Below.refl _ _)
                    have jz : W5.heap[X]? = some (.cells #[.int .i64 kk, .int .i64 g] 50 (0, 0)) := ((Below.refl _ _).block _ (Array.getElem?_eq_some_iff.1 HI5.out.2).1).trans HI5.out.2
                    have zo3 : W5.cell? ⟨w.heap.size + 2, 3, none⟩ = some (.slice (some ⟨gd, od, none⟩) D.length n3) := by rw [cell_of_row W5 _ 3 _ _ _ kz.o]; rfl
                    have zf3 := frozen_of_row W5 (w.heap.size + 2) 3 _ _ kz.o
                    have zx0 : W5.cell? ⟨X, 0, none⟩ = some (.int .i64 kk) := by rw [cell_of_row W5 _ 0 _ _ _ jz]; rfl
                    have zx1 : W5.cell? ⟨X, 1, none⟩ = some (.int .i64 g) := by rw [cell_of_row W5 _ 1 _ _ _ jz]; rfl
                    have lz : w.heap.size + 2 < W5.heap.size := kz.lt
                    have lxz : X < W5.heap.size := (Array.getElem?_eq_some_iff.1 jz).1
                    clear kz jz
                    have kza := HI5.out.1.later (hbU1)
                    have jza : U1.heap[X]? = some (.cells #[.int .i64 kk, .int .i64 g] 50 (0, 0)) := ((hbU1).block _ (Array.getElem?_eq_some_iff.1 HI5.out.2).1).trans HI5.out.2
                    have zao3 : U1.cell? ⟨w.heap.size + 2, 3, none⟩ = some (.slice (some ⟨gd, od, none⟩) D.length n3) := by rw [cell_of_row U1 _ 3 _ _ _ kza.o]; rfl
                    have zaf3 := frozen_of_row U1 (w.heap.size + 2) 3 _ _ kza.o
                    have zax0 : U1.cell? ⟨X, 0, none⟩ = some (.int .i64 kk) := by rw [cell_of_row U1 _ 0 _ _ _ jza]; rfl
                    have zax1 : U1.cell? ⟨X, 1, none⟩ = some (.int .i64 g) := by rw [cell_of_row U1 _ 1 _ _ _ jza]; rfl
                    have lza : w.heap.size + 2 < U1.heap.size := kza.lt
                    have lxza : X < U1.heap.size := (Array.getElem?_eq_some_iff.1 jza).1
                    clear kza jza
                    have kzb := HI5.out.1.later (hA.b2)
                    have jzb : U2.heap[X]? = some (.cells #[.int .i64 kk, .int .i64 g] 50 (0, 0)) := ((hA.b2).block _ (Array.getElem?_eq_some_iff.1 HI5.out.2).1).trans HI5.out.2
                    have zbo3 : U2.cell? ⟨w.heap.size + 2, 3, none⟩ = some (.slice (some ⟨gd, od, none⟩) D.length n3) := by rw [cell_of_row U2 _ 3 _ _ _ kzb.o]; rfl
                    have zbf3 := frozen_of_row U2 (w.heap.size + 2) 3 _ _ kzb.o
                    have zbx0 : U2.cell? ⟨X, 0, none⟩ = some (.int .i64 kk) := by rw [cell_of_row U2 _ 0 _ _ _ jzb]; rfl
                    have zbx1 : U2.cell? ⟨X, 1, none⟩ = some (.int .i64 g) := by rw [cell_of_row U2 _ 1 _ _ _ jzb]; rfl
                    have lzb : w.heap.size + 2 < U2.heap.size := kzb.lt
                    have lxzb : X < U2.heap.size := (Array.getElem?_eq_some_iff.1 jzb).1
                    clear kzb jzb
                    have kzc := HI5.out.1.later (hA.b3)
                    have jzc : U3.heap[X]? = some (.cells #[.int .i64 kk, .int .i64 g] 50 (0, 0)) := ((hA.b3).block _ (Array.getElem?_eq_some_iff.1 HI5.out.2).1).trans HI5.out.2
                    have zco3 : U3.cell? ⟨w.heap.size + 2, 3, none⟩ = some (.slice (some ⟨gd, od, none⟩) D.length n3) := by rw [cell_of_row U3 _ 3 _ _ _ kzc.o]; rfl
                    have zcf3 := frozen_of_row U3 (w.heap.size + 2) 3 _ _ kzc.o
                    have zcx0 : U3.cell? ⟨X, 0, none⟩ = some (.int .i64 kk) := by rw [cell_of_row U3 _ 0 _ _ _ jzc]; rfl
                    have zcx1 : U3.cell? ⟨X, 1, none⟩ = some (.int .i64 g) := by rw [cell_of_row U3 _ 1 _ _ _ jzc]; rfl
                    have lzc : w.heap.size + 2 < U3.heap.size := kzc.lt
                    have lxzc : X < U3.heap.size := (Array.getElem?_eq_some_iff.1 jzc).1
                    clear kzc jzc
                    have kzd := HI5.out.1.later (hB.b1)
                    have jzd : U4.heap[X]? = some (.cells #[.int .i64 kk, .int .i64 g] 50 (0, 0)) := ((hB.b1).block _ (Array.getElem?_eq_some_iff.1 HI5.out.2).1).trans HI5.out.2
                    have zdo3 : U4.cell? ⟨w.heap.size + 2, 3, none⟩ = some (.slice (some ⟨gd, od, none⟩) D.length n3) := by rw [cell_of_row U4 _ 3 _ _ _ kzd.o]; rfl
                    have zdf3 := frozen_of_row U4 (w.heap.size + 2) 3 _ _ kzd.o
                    have zdx0 : U4.cell? ⟨X, 0, none⟩ = some (.int .i64 kk) := by rw [cell_of_row U4 _ 0 _ _ _ jzd]; rfl
                    have zdx1 : U4.cell? ⟨X, 1, none⟩ = some (.int .i64 g) := by rw [cell_of_row U4 _ 1 _ _ _ jzd]; rfl
                    have lzd : w.heap.size + 2 < U4.heap.size := kzd.lt
                    have lxzd : X < U4.heap.size := (Array.getElem?_eq_some_iff.1 jzd).1
                    clear kzd jzd
                    have kze := HI5.out.1.later (hB.b2)
                    have jze : U5.heap[X]? = some (.cells #[.int .i64 kk, .int .i64 g] 50 (0, 0)) := ((hB.b2).block _ (Array.getElem?_eq_some_iff.1 HI5.out.2).1).trans HI5.out.2
                    have zeo3 : U5.cell? ⟨w.heap.size + 2, 3, none⟩ = some (.slice (some ⟨gd, od, none⟩) D.length n3) := by rw [cell_of_row U5 _ 3 _ _ _ kze.o]; rfl
                    have zef3 := frozen_of_row U5 (w.heap.size + 2) 3 _ _ kze.o
                    have zex0 : U5.cell? ⟨X, 0, none⟩ = some (.int .i64 kk) := by rw [cell_of_row U5 _ 0 _ _ _ jze]; rfl
                    have zex1 : U5.cell? ⟨X, 1, none⟩ = some (.int .i64 g) := by rw [cell_of_row U5 _ 1 _ _ _ jze]; rfl
                    have lze : w.heap.size + 2 < U5.heap.size := kze.lt
                    have lxze : X < U5.heap.size := (Array.getElem?_eq_some_iff.1 jze).1
                    clear kze jze
                    have kzg := HI5.out.1.later (hB.b3)
                    have jzg : U6.heap[X]? = some (.cells #[.int .i64 kk, .int .i64 g] 50 (0, 0)) := ((hB.b3).block _ (Array.getElem?_eq_some_iff.1 HI5.out.2).1).trans HI5.out.2
                    have zgo3 : U6.cell? ⟨w.heap.size + 2, 3, none⟩ = some (.slice (some ⟨gd, od, none⟩) D.length n3) := by rw [cell_of_row U6 _ 3 _ _ _ kzg.o]; rfl
                    have zgf3 := frozen_of_row U6 (w.heap.size + 2) 3 _ _ kzg.o
                    have zgx0 : U6.cell? ⟨X, 0, none⟩ = some (.int .i64 kk) := by rw [cell_of_row U6 _ 0 _ _ _ jzg]; rfl
                    have zgx1 : U6.cell? ⟨X, 1, none⟩ = some (.int .i64 g) := by rw [cell_of_row U6 _ 1 _ _ _ jzg]; rfl
                    have lzg : w.heap.size + 2 < U6.heap.size := kzg.lt
                    have lxzg : X < U6.heap.size := (Array.getElem?_eq_some_iff.1 jzg).1
                    clear kzg jzg
                    have kzh := HI5.out.1.later (hC.b1)
                    have jzh : U7.heap[X]? = some (.cells #[.int .i64 kk, .int .i64 g] 50 (0, 0)) := ((hC.b1).block _ (Array.getElem?_eq_some_iff.1 HI5.out.2).1).trans HI5.out.2
                    have zho3 : U7.cell? ⟨w.heap.size + 2, 3, none⟩ = some (.slice (some ⟨gd, od, none⟩) D.length n3) := by rw [cell_of_row U7 _ 3 _ _ _ kzh.o]; rfl
                    have zhf3 := frozen_of_row U7 (w.heap.size + 2) 3 _ _ kzh.o
                    have zhx0 : U7.cell? ⟨X, 0, none⟩ = some (.int .i64 kk) := by rw [cell_of_row U7 _ 0 _ _ _ jzh]; rfl
                    have zhx1 : U7.cell? ⟨X, 1, none⟩ = some (.int .i64 g) := by rw [cell_of_row U7 _ 1 _ _ _ jzh]; rfl
                    have lzh : w.heap.size + 2 < U7.heap.size := kzh.lt
                    have lxzh : X < U7.heap.size := (Array.getElem?_eq_some_iff.1 jzh).1
                    clear kzh jzh
                    have kzi := HI5.out.1.later (hC.b2)
                    have jzi : U8.heap[X]? = some (.cells #[.int .i64 kk, .int .i64 g] 50 (0, 0)) := ((hC.b2).block _ (Array.getElem?_eq_some_iff.1 HI5.out.2).1).trans HI5.out.2
                    have zio3 : U8.cell? ⟨w.heap.size + 2, 3, none⟩ = some (.slice (some ⟨gd, od, none⟩) D.length n3) := by rw [cell_of_row U8 _ 3 _ _ _ kzi.o]; rfl
                    have zif3 := frozen_of_row U8 (w.heap.size + 2) 3 _ _ kzi.o
                    have zix0 : U8.cell? ⟨X, 0, none⟩ = some (.int .i64 kk) := by rw [cell_of_row U8 _ 0 _ _ _ jzi]; rfl
                    have zix1 : U8.cell? ⟨X, 1, none⟩ = some (.int .i64 g) := by rw [cell_of_row U8 _ 1 _ _ _ jzi]; rfl
                    have lzi : w.heap.size + 2 < U8.heap.size := kzi.lt
                    have lxzi : X < U8.heap.size := (Array.getElem?_eq_some_iff.1 jzi).1
                    clear kzi jzi
                    have kzj := HI5.out.1.later (hC.b3)
                    have jzj : U9.heap[X]? = some (.cells #[.int .i64 kk, .int .i64 g] 50 (0, 0)) := ((hC.b3).block _ (Array.getElem?_eq_some_iff.1 HI5.out.2).1).trans HI5.out.2
                    have zjo3 : U9.cell? ⟨w.heap.size + 2, 3, none⟩ = some (.slice (some ⟨gd, od, none⟩) D.length n3) := by rw [cell_of_row U9 _ 3 _ _ _ kzj.o]; rfl
                    have zjf3 := frozen_of_row U9 (w.heap.size + 2) 3 _ _ kzj.o
                    have zjx0 : U9.cell? ⟨X, 0, none⟩ = some (.int .i64 kk) := by rw [cell_of_row U9 _ 0 _ _ _ jzj]; rfl
                    have zjx1 : U9.cell? ⟨X, 1, none⟩ = some (.int .i64 g) := by rw [cell_of_row U9 _ 1 _ _ _ jzj]; rfl
                    have lzj : w.heap.size + 2 < U9.heap.size := kzj.lt
                    have lxzj : X < U9.heap.size := (Array.getElem?_eq_some_iff.1 jzj).1
                    clear kzj jzj
                    have HRA : Hid (Rm w s b p (.slice A0 L.length n0) (.slice B3 (l1.length + 1 + l2.length) k3) (asg ML kk g) (U3.setCell ⟨w.heap.size + 2, 3, none⟩ (.slice B3 (l1.length + 1 + l2.length) k3))) := Lib.hid (by
                      rw [HAS.out]
                      have e := ent_of_own (l := l1 ++ (kk, g) :: l2) (n := (l1 ++ (kk, g) :: l2).length) hA.own
                      exact (HI5.out.1.later hA.b3).put1 e.2.1 (fun _ k hk => by have := (e.2.2 k hk).1; omega))
                    have HRB : Hid (Rm w s b p (.slice A0 L.length n0) (.slice B6 (l1.length + 1 + l2.length) k6) (asg ML kk g) (U6.setCell ⟨w.heap.size + 2, 3, none⟩ (.slice B6 (l1.length + 1 + l2.length) k6))) := Lib.hid (by
                      rw [HAS.out]
                      have e := ent_of_own (l := l1 ++ (kk, g) :: l2) (n := (l1 ++ (kk, g) :: l2).length) hB.own
                      exact (HI5.out.1.later hB.b3).put1 e.2.1 (fun _ k hk => by have := (e.2.2 k hk).1; omega))
                    have HRC : Hid (Rm w s b p (.slice A0 L.length n0) (.slice B9 (l1.length + 1 + l2.length) k9) (asg ML kk g) (U9.setCell ⟨w.heap.size + 2, 3, none⟩ (.slice B9 (l1.length + 1 + l2.length) k9))) := Lib.hid (by
                      rw [HAS.out]
                      have e := ent_of_own (l := l1 ++ (kk, g) :: l2) (n := (l1 ++ (kk, g) :: l2).length) hC.own
                      exact (HI5.out.1.later hC.b3).put1 e.2.1 (fun _ k hk => by have := (e.2.2 k hk).1; omega))
                    have z1 : (l1.length : Int) ≤ 16777216 := by omega
                    generalize l1.length = ll1 at *
                    generalize l2.length = ll2 at *
                    clear hA hB hC hbU1 hV1 hV2 HE5 hk1 hk2 HbA HA HB HC HAS
                    go_region
                    all_goals
                      go_wp2
                      go_roundw
                      case rel => first | exact ⟨k + 1, asg ML kk g, _, by omega, by go_num, HRA, HFA, HAP2⟩ | exact ⟨k + 1, asg ML kk g, _, by omega, by go_num, HRB, HFA, HAP2⟩ | exact ⟨k + 1, asg ML kk g, _, by omega, by go_num, HRC, HFA, HAP2⟩
                      case measure => simp [RowKit.intOf]; omega
                · have htl : t = D.length := by omega
                  have u1 : decide (t < D.length) = false := decide_eq_false hlt2
                  have u3 : ¬ (t : Int) < (D.length : Int) := by omega
                  have u4 : decide ((t : Int) < (D.length : Int)) = false := decide_eq_false u3
                  have HGE := Lib.hid (show ∀ h : t < D.length, ¬ D[t].1 < kk from fun h => absurd h hlt2)
                  clear htl
                  go_wp2
                  go_quiet (fail)
                  replace HI5 := Lib.hid (HI5.out nq)
                  clear HI oc3 xc0
                  generalize wr.drewN nq = W5 at *
                  go_upto_region 16 with fail
                  have HE5 := Lib.hid HI5.out.1.ent
                  obtain ⟨V1, ev1, hV1⟩ := ent_slice_h (hi := t) HE5.out ht hn3
                  obtain ⟨V2, ev2, hV2⟩ := ent_slice_l (lo := t) HE5.out ht hn3
                  have hk1 : (D.take t).length ≤ 16777216 := by rw [List.length_take]; have := HDL.out; omega
                  have hk2 : (D.drop t).length ≤ 16777216 := by rw [List.length_drop]; have := HDL.out; omega
                  have HAS := Lib.hid (show asg ML kk g = D.take t ++ (kk, g) :: D.drop t from HASG.out t ht HLT.out HGE.out)
                  generalize D.take t = l1 at *
                  generalize D.drop t = l2 at *
                  obtain ⟨B1, k1, U1, B2, k2, U2, B3, k3, U3, ra1, ra2, ra3, hbU1, hA⟩ := ord_a W5 kk g hV1 hV2 hk1 hk2
                  obtain ⟨B4, k4, U4, B5, k5, U5, B6, k6, U6, rb1, rb2, rb3, hB⟩ := ord_b W5 ((W5.alloc (.cells #[] 50)).alloc (.cells #[.int .i64 kk, .int .i64 g] 50)).drew (x := W5.heap.size + 1) (y := W5.heap.size) (q := kk) (g := g) hV1 hV2 hk1 hk2 (((below_alloc W5 _).alloc (by simp) _).drew) (Nat.le_refl _) (by omega) ((Below.heap_alloc _ _ _ (by simp)).trans (heap_alloc_new W5 _)) (by have := heap_alloc_new (W5.alloc (.cells #[] 50)) (.cells #[.int .i64 kk, .int .i64 g] 50); rwa [World.size_alloc] at this)
                  obtain ⟨B7, k7, U7, B8, k8, U8, B9, k9, U9, rc1, rc2, rc3, hC⟩ := ord_b W5 ((W5.alloc (.cells #[.int .i64 kk, .int .i64 g] 50)).alloc (.cells #[] 50)).drew (x := W5.heap.size) (y := W5.heap.size + 1) (q := kk) (g := g) hV1 hV2 hk1 hk2 (((below_alloc W5 _).alloc (by simp) _).drew) (by omega) (by omega) (by have := heap_alloc_new (W5.alloc (.cells #[.int .i64 kk, .int .i64 g] 50)) (.cells #[] 50); rwa [World.size_alloc] at this) ((Below.heap_alloc _ _ _ (by simp)).trans (heap_alloc_new W5 _))
                  have Ra1 := appX_run ra1
                  have Ra2 := appX_run ra2
                  have Ra3 := appX_run ra3
                  have Rb1 := appX_run rb1
                  have Rb2 := appX_run rb2
                  have Rb3 := appX_run rb3
                  have Rc1 := appX_run rc1
                  have Rc2 := appX_run rc2
                  have Rc3 := appX_run rc3
                  have hlt5 := HI5.out.1.lt
                  clear ra1 ra2 ra3 rb1 rb2 rb3 rc1 rc2 rc3
                  have HbA := Lib.hid hbU1
                  have HA := Lib.hid hA
                  have HB := Lib.hid hB
                  have HC := Lib.hid hC
                  have kz := HI5.out.1.later (Below.refl _ _)
                  have jz : W5.heap[X]? = some (.cells #[.int .i64 kk, .int .i64 g] 50 (0, 0)) := ((Below.refl _ _).block _ (Array.getElem?_eq_some_iff.1 HI5.out.2).1).trans HI5.out.2
                  have zo3 : W5.cell? ⟨w.heap.size + 2, 3, none⟩ = some (.slice A3 D.length n3) := by rw [cell_of_row W5 _ 3 _ _ _ kz.o]; rfl
                  have zf3 := frozen_of_row W5 (w.heap.size + 2) 3 _ _ kz.o
                  have zx0 : W5.cell? ⟨X, 0, none⟩ = some (.int .i64 kk) := by rw [cell_of_row W5 _ 0 _ _ _ jz]; rfl
                  have zx1 : W5.cell? ⟨X, 1, none⟩ = some (.int .i64 g) := by rw [cell_of_row W5 _ 1 _ _ _ jz]; rfl
                  have lz : w.heap.size + 2 < W5.heap.size := kz.lt
                  have lxz : X < W5.heap.size := (Array.getElem?_eq_some_iff.1 jz).1
                  clear kz jz
                  have kza := HI5.out.1.later (hbU1)
                  have jza : U1.heap[X]? = some (.cells #[.int .i64 kk, .int .i64 g] 50 (0, 0)) := ((hbU1).block _ (Array.getElem?_eq_some_iff.1 HI5.out.2).1).trans HI5.out.2
                  have zao3 : U1.cell? ⟨w.heap.size + 2, 3, none⟩ = some (.slice A3 D.length n3) := by rw [cell_of_row U1 _ 3 _ _ _ kza.o]; rfl
                  have zaf3 := frozen_of_row U1 (w.heap.size + 2) 3 _ _ kza.o
                  have zax0 : U1.cell? ⟨X, 0, none⟩ = some (.int .i64 kk) := by rw [cell_of_row U1 _ 0 _ _ _ jza]; rfl
                  have zax1 : U1.cell? ⟨X, 1, none⟩ = some (.int .i64 g) := by rw [cell_of_row U1 _ 1 _ _ _ jza]; rfl
                  have lza : w.heap.size + 2 < U1.heap.size := kza.lt
                  have lxza : X < U1.heap.size := (Array.getElem?_eq_some_iff.1 jza).1
                  clear kza jza
                  have kzb := HI5.out.1.later (hA.b2)
                  have jzb : U2.heap[X]? = some (.cells #[.int .i64 kk, .int .i64 g] 50 (0, 0)) := ((hA.b2).block _ (Array.getElem?_eq_some_iff.1 HI5.out.2).1).trans HI5.out.2
                  have zbo3 : U2.cell? ⟨w.heap.size + 2, 3, none⟩ = some (.slice A3 D.length n3) := by rw [cell_of_row U2 _ 3 _ _ _ kzb.o]; rfl
                  have zbf3 := frozen_of_row U2 (w.heap.size + 2) 3 _ _ kzb.o
                  have zbx0 : U2.cell? ⟨X, 0, none⟩ = some (.int .i64 kk) := by rw [cell_of_row U2 _ 0 _ _ _ jzb]; rfl
                  have zbx1 : U2.cell? ⟨X, 1, none⟩ = some (.int .i64 g) := by rw [cell_of_row U2 _ 1 _ _ _ jzb]; rfl
                  have lzb : w.heap.size + 2 < U2.heap.size := kzb.lt
                  have lxzb : X < U2.heap.size := (Array.getElem?_eq_some_iff.1 jzb).1
                  clear kzb jzb
                  have kzc := HI5.out.1.later (hA.b3)
                  have jzc : U3.heap[X]? = some (.cells #[.int .i64 kk, .int .i64 g] 50 (0, 0)) := ((hA.b3).block _ (Array.getElem?_eq_some_iff.1 HI5.out.2).1).trans HI5.out.2
                  have zco3 : U3.cell? ⟨w.heap.size + 2, 3, none⟩ = some (.slice A3 D.length n3) := by rw [cell_of_row U3 _ 3 _ _ _ kzc.o]; rfl
                  have zcf3 := frozen_of_row U3 (w.heap.size + 2) 3 _ _ kzc.o
                  have zcx0 : U3.cell? ⟨X, 0, none⟩ = some (.int .i64 kk) := by rw [cell_of_row U3 _ 0 _ _ _ jzc]; rfl
                  have zcx1 : U3.cell? ⟨X, 1, none⟩ = some (.int .i64 g) := by rw [cell_of_row U3 _ 1 _ _ _ jzc]; rfl
                  have lzc : w.heap.size + 2 < U3.heap.size := kzc.lt
                  have lxzc : X < U3.heap.size := (Array.getElem?_eq_some_iff.1 jzc).1
                  clear kzc jzc
                  have kzd := HI5.out.1.later (hB.b1)
                  have jzd : U4.heap[X]? = some (.cells #[.int .i64 kk, .int .i64 g] 50 (0, 0)) := ((hB.b1).block _ (Array.getElem?_eq_some_iff.1 HI5.out.2).1).trans HI5.out.2
                  have zdo3 : U4.cell? ⟨w.heap.size + 2, 3, none⟩ = some (.slice A3 D.length n3) := by rw [cell_of_row U4 _ 3 _ _ _ kzd.o]; rfl
                  have zdf3 := frozen_of_row U4 (w.heap.size + 2) 3 _ _ kzd.o
                  have zdx0 : U4.cell? ⟨X, 0, none⟩ = some (.int .i64 kk) := by rw [cell_of_row U4 _ 0 _ _ _ jzd]; rfl
                  have zdx1 : U4.cell? ⟨X, 1, none⟩ = some (.int .i64 g) := by rw [cell_of_row U4 _ 1 _ _ _ jzd]; rfl
                  have lzd : w.heap.size + 2 < U4.heap.size := kzd.lt
                  have lxzd : X < U4.heap.size := (Array.getElem?_eq_some_iff.1 jzd).1
                  clear kzd jzd
                  have kze := HI5.out.1.later (hB.b2)
                  have jze : U5.heap[X]? = some (.cells #[.int .i64 kk, .int .i64 g] 50 (0, 0)) := ((hB.b2).block _ (Array.getElem?_eq_some_iff.1 HI5.out.2).1).trans HI5.out.2
                  have zeo3 : U5.cell? ⟨w.heap.size + 2, 3, none⟩ = some (.slice A3 D.length n3) := by rw [cell_of_row U5 _ 3 _ _ _ kze.o]; rfl
                  have zef3 := frozen_of_row U5 (w.heap.size + 2) 3 _ _ kze.o
                  have zex0 : U5.cell? ⟨X, 0, none⟩ = some (.int .i64 kk) := by rw [cell_of_row U5 _ 0 _ _ _ jze]; rfl
                  have zex1 : U5.cell? ⟨X, 1, none⟩ = some (.int .i64 g) := by rw [cell_of_row U5 _ 1 _ _ _ jze]; rfl
                  have lze : w.heap.size + 2 < U5.heap.size := kze.lt
                  have lxze : X < U5.heap.size := (Array.getElem?_eq_some_iff.1 jze).1
                  clear kze jze
                  have kzg := HI5.out.1.later (hB.b3)
                  have jzg : U6.heap[X]? = some (.cells #[.int .i64 kk, .int .i64 g] 50 (0, 0)) := ((hB.b3).block _ (Array.getElem?_eq_some_iff.1 HI5.out.2).1).trans HI5.out.2
                  have zgo3 : U6.cell? ⟨w.heap.size + 2, 3, none⟩ = some (.slice A3 D.length n3) := by rw [cell_of_row U6 _ 3 _ _ _ kzg.o]; rfl
                  have zgf3 := frozen_of_row U6 (w.heap.size + 2) 3 _ _ kzg.o
                  have zgx0 : U6.cell? ⟨X, 0, none⟩ = some (.int .i64 kk) := by rw [cell_of_row U6 _ 0 _ _ _ jzg]; rfl
                  have zgx1 : U6.cell? ⟨X, 1, none⟩ = some (.int .i64 g) := by rw [cell_of_row U6 _ 1 _ _ _ jzg]; rfl
                  have lzg : w.heap.size + 2 < U6.heap.size := kzg.lt
                  have lxzg : X < U6.heap.size := (Array.getElem?_eq_some_iff.1 jzg).1
                  clear kzg jzg
                  have kzh := HI5.out.1.later (hC.b1)
                  have jzh : U7.heap[X]? = some (.cells #[.int .i64 kk, .int .i64 g] 50 (0, 0)) := ((hC.b1).block _ (Array.getElem?_eq_some_iff.1 HI5.out.2).1).trans HI5.out.2
                  have zho3 : U7.cell? ⟨w.heap.size + 2, 3, none⟩ = some (.slice A3 D.length n3) := by rw [cell_of_row U7 _ 3 _ _ _ kzh.o]; rfl
                  have zhf3 := frozen_of_row U7 (w.heap.size + 2) 3 _ _ kzh.o
                  have zhx0 : U7.cell? ⟨X, 0, none⟩ = some (.int .i64 kk) := by rw [cell_of_row U7 _ 0 _ _ _ jzh]; rfl
                  have zhx1 : U7.cell? ⟨X, 1, none⟩ = some (.int .i64 g) := by rw [cell_of_row U7 _ 1 _ _ _ jzh]; rfl
                  have lzh : w.heap.size + 2 < U7.heap.size := kzh.lt
                  have lxzh : X < U7.heap.size := (Array.getElem?_eq_some_iff.1 jzh).1
                  clear kzh jzh
                  have kzi := HI5.out.1.later (hC.b2)
                  have jzi : U8.heap[X]? = some (.cells #[.int .i64 kk, .int .i64 g] 50 (0, 0)) := ((hC.b2).block _ (Array.getElem?_eq_some_iff.1 HI5.out.2).1).trans HI5.out.2
                  have zio3 : U8.cell? ⟨w.heap.size + 2, 3, none⟩ = some (.slice A3 D.length n3) := by rw [cell_of_row U8 _ 3 _ _ _ kzi.o]; rfl
                  have zif3 := frozen_of_row U8 (w.heap.size + 2) 3 _ _ kzi.o
                  have zix0 : U8.cell? ⟨X, 0, none⟩ = some (.int .i64 kk) := by rw [cell_of_row U8 _ 0 _ _ _ jzi]; rfl
                  have zix1 : U8.cell? ⟨X, 1, none⟩ = some (.int .i64 g) := by rw [cell_of_row U8 _ 1 _ _ _ jzi]; rfl
                  have lzi : w.heap.size + 2 < U8.heap.size := kzi.lt
                  have lxzi : X < U8.heap.size := (Array.getElem?_eq_some_iff.1 jzi).1
                  clear kzi jzi
                  have kzj := HI5.out.1.later (hC.b3)
                  have jzj : U9.heap[X]? = some (.cells #[.int .i64 kk, .int .i64 g] 50 (0, 0)) := ((hC.b3).block _ (Array.getElem?_eq_some_iff.1 HI5.out.2).1).trans HI5.out.2
                  have zjo3 : U9.cell? ⟨w.heap.size + 2, 3, none⟩ = some (.slice A3 D.length n3) := by rw [cell_of_row U9 _ 3 _ _ _ kzj.o]; rfl
                  have zjf3 := frozen_of_row U9 (w.heap.size + 2) 3 _ _ kzj.o
                  have zjx0 : U9.cell? ⟨X, 0, none⟩ = some (.int .i64 kk) := by rw [cell_of_row U9 _ 0 _ _ _ jzj]; rfl
                  have zjx1 : U9.cell? ⟨X, 1, none⟩ = some (.int .i64 g) := by rw [cell_of_row U9 _ 1 _ _ _ jzj]; rfl
                  have lzj : w.heap.size + 2 < U9.heap.size := kzj.lt
                  have lxzj : X < U9.heap.size := (Array.getElem?_eq_some_iff.1 jzj).1
                  clear kzj jzj
                  have HRA : Hid (Rm w s b p (.slice A0 L.length n0) (.slice B3 (l1.length + 1 + l2.length) k3) (asg ML kk g) (U3.setCell ⟨w.heap.size + 2, 3, none⟩ (.slice B3 (l1.length + 1 + l2.length) k3))) := Lib.hid (by
                    rw [HAS.out]
                    have e := ent_of_own (l := l1 ++ (kk, g) :: l2) (n := (l1 ++ (kk, g) :: l2).length) hA.own
                    exact (HI5.out.1.later hA.b3).put1 e.2.1 (fun _ k hk => by have := (e.2.2 k hk).1; omega))
                  have HRB : Hid (Rm w s b p (.slice A0 L.length n0) (.slice B6 (l1.length + 1 + l2.length) k6) (asg ML kk g) (U6.setCell ⟨w.heap.size + 2, 3, none⟩ (.slice B6 (l1.length + 1 + l2.length) k6))) := Lib.hid (by
                    rw [HAS.out]
                    have e := ent_of_own (l := l1 ++ (kk, g) :: l2) (n := (l1 ++ (kk, g) :: l2).length) hB.own
                    exact (HI5.out.1.later hB.b3).put1 e.2.1 (fun _ k hk => by have := (e.2.2 k hk).1; omega))
                  have HRC : Hid (Rm w s b p (.slice A0 L.length n0) (.slice B9 (l1.length + 1 + l2.length) k9) (asg ML kk g) (U9.setCell ⟨w.heap.size + 2, 3, none⟩ (.slice B9 (l1.length + 1 + l2.length) k9))) := Lib.hid (by
                    rw [HAS.out]
                    have e := ent_of_own (l := l1 ++ (kk, g) :: l2) (n := (l1 ++ (kk, g) :: l2).length) hC.own
                    exact (HI5.out.1.later hC.b3).put1 e.2.1 (fun _ k hk => by have := (e.2.2 k hk).1; omega))
                  have z1 : (l1.length : Int) ≤ 16777216 := by omega
                  generalize l1.length = ll1 at *
                  generalize l2.length = ll2 at *
                  clear hA hB hC hbU1 hV1 hV2 HE5 hk1 hk2 HbA HA HB HC HAS
                  go_region
                  all_goals
                    go_wp2
                    go_roundw
                    case rel => first | exact ⟨k + 1, asg ML kk g, _, by omega, by go_num, HRA, HFA, HAP2⟩ | exact ⟨k + 1, asg ML kk g, _, by omega, by go_num, HRB, HFA, HAP2⟩ | exact ⟨k + 1, asg ML kk g, _, by omega, by go_num, HRC, HFA, HAP2⟩
                    case measure => simp [RowKit.intOf]; omega
    · have hkl : k = xs.length := by omega
      subst hkl
      have ha := HAP.out
      rw [List.drop_length] at ha
      have HFIN := Lib.hid (rap_fin (L := L) (xs := xs) HR.out HR.out.ent HR.out.own HR.out.org 0 ha.1.symm ha.2.symm)
      clear ha
      have rc0 : wr.cell? ⟨w.heap.size + 1, 0, none⟩ = some (.int .i64 0) := by rw [cell_of_row wr _ 0 _ _ _ HR.out.r]; rfl
      have rf0 := frozen_of_row wr (w.heap.size + 1) 0 _ _ HR.out.r
      have rc1 : wr.cell? ⟨w.heap.size + 1, 1, none⟩ = some (.int .i64 0) := by rw [cell_of_row wr _ 1 _ _ _ HR.out.r]; rfl
      have rf1 := frozen_of_row wr (w.heap.size + 1) 1 _ _ HR.out.r
      have rc2 : wr.cell? ⟨w.heap.size + 1, 2, none⟩ = some (.int .i64 0) := by rw [cell_of_row wr _ 2 _ _ _ HR.out.r]; rfl
      have rf2 := frozen_of_row wr (w.heap.size + 1) 2 _ _ HR.out.r
      have rc3 : wr.cell? ⟨w.heap.size + 1, 3, none⟩ = some (.slice none 0 0) := by rw [cell_of_row wr _ 3 _ _ _ HR.out.r]; rfl
      have rf3 := frozen_of_row wr (w.heap.size + 1) 3 _ _ HR.out.r
      have oc0 : wr.cell? ⟨w.heap.size + 2, 0, none⟩ = some (.int .i64 (s : Int)) := by rw [cell_of_row wr _ 0 _ _ _ HR.out.o]; rfl
      have oc1 : wr.cell? ⟨w.heap.size + 2, 1, none⟩ = some (.int .i64 (b : Int)) := by rw [cell_of_row wr _ 1 _ _ _ HR.out.o]; rfl
      have oc2 : wr.cell? ⟨w.heap.size + 2, 2, none⟩ = some (.int .i64 (p : Int)) := by rw [cell_of_row wr _ 2 _ _ _ HR.out.o]; rfl
      have oc3 : wr.cell? ⟨w.heap.size + 2, 3, none⟩ = some (.slice A ML.length n) := by rw [cell_of_row wr _ 3 _ _ _ HR.out.o]; rfl

      go_wp2
      (try simp only [Exit.inBlock, Exit.then])
      refine bodyPost_ret (results_row1 rfl _ _ (w.heap.size + 1) 29 #[.int .i64 (s : Int), .int .i64 (b : Int), .int .i64 (p : Int), .slice A ML.length n] (0, 0) _ rfl (HR.out.fin _).1 Try.underlying29 rfl (by kernel_rfl)) rfl ?_
      exact HFIN.out

end Go.Proofs.Yteiemegkdnjpgaa
