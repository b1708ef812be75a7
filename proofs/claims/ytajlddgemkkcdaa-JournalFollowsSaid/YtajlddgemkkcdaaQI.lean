/- The contract of the reference's page. Conditions stand in each theorem. -/
import Derived.Test.YtajlddgemkkcdaaQH
namespace Go.Proofs.Ytajlddgemkkcdaa
open Go.RowKit
set_option linter.unusedVariables false
set_option maxHeartbeats 8000000
set_option maxRecDepth 100000
theorem page_any (o : Spr) (ho : jnB o = true) (hok : o.ok) (A : Option Addr) (c : Nat) (l : List Pg) (w : World) (h : Pgs w (.slice A l.length c) l) (hl : Okn l) (hm : l.length ≤ 10000) (j : Int) :
    Calls Try.prog 92 #[.slice A l.length c, o.v, .int .i64 j] w (Ret w (.int .i64 (pgI l o.key j))) := by
  obtain ⟨A', c', he, hc, hr⟩ := h
  cases he
  have HR := Lib.hid hr
  have HOK := Lib.hid hl
  have HPT := Lib.hid (fun (k : Nat) (hk : k < l.length) => isP_parts hk o ho (hl _ (List.getElem_mem hk)).1)
  have HPS := Lib.hid (fun (k : Nat) (hk : k < l.length) (h1 : isP l o.key k = true) (h2 : ixF l k = j) (h3 : ∀ t, t < k → ¬ (isP l o.key t = true ∧ ixF l t = j)) => (show pgI l o.key j = (k : Int) from by unfold pgI; rw [pgF_some hk h1 h2 h3]))
  have HPN := Lib.hid (fun (h : ∀ t, t < l.length → ¬ (isP l o.key t = true ∧ ixF l t = j)) => (show pgI l o.key j = -1 from by unfold pgI; rw [pgF_none h]))
  obtain ⟨R, hR⟩ : ∃ R, R = pgI l o.key j := ⟨_, rfl⟩
  rw [← hR] at HPS HPN ⊢
  obtain ⟨q0, q1, p0, p1⟩ := hok
  obtain ⟨hkd, -, n1, n2, i1, i2, pq, iq⟩ := jn_facts ho
  have HKD := Lib.hid (of_decide_eq_true (show decide (o.k = 2 ∨ o.k = 3) = true from hkd))
  clear hkd
  obtain ⟨key, hkey⟩ : ∃ key, key = o.key := ⟨_, rfl⟩
  rw [← hkey] at HPT HPS HPN
  obtain ⟨ok, os, oq, op, oi, on⟩ := o
  simp only at q0 q1 p0 p1 n1 n2 i1 i2 pq iq HPT
  have hli : (l.length : Int) ≤ 10000 := by omega
  have HW1 := Lib.hid (heap_alloc_new w (.cells #[.int .u8 ok, .int .i64 os, .int .u64 oq, .int .u64 op, .int .i64 oi, .int .i64 on] 44))
  clear hr hl ho hR hkey
  show Calls Try.prog 92 #[.slice A l.length c, .agg #[.int .u8 ok, .int .i64 os, .int .u64 oq, .int .u64 op, .int .i64 oi, .int .i64 on], .int .i64 j] w _
  go_enter Try.func92, Try.ntmps92
  go_wp2
  obtain ⟨W1, hW1⟩ : ∃ W1, W1 = w.alloc (.cells #[.int .u8 ok, .int .i64 os, .int .u64 oq, .int .u64 op, .int .i64 oi, .int .i64 on] 44) := ⟨_, rfl⟩
  have HG1 : Hid (Gr w W1) := Lib.hid (by rw [hW1]; exact (Gr.refl _).alloc _)
  rw [← hW1] at HW1 ⊢
  clear hW1
  obtain ⟨tb, htb⟩ : ∃ tb, tb = w.heap.size := ⟨_, rfl⟩
  rw [← htb] at HW1 ⊢
  clear htb
  have d0 := fun (W : World) (h : Gr W1 W) => h.cell (cell_of_row W1 tb 0 _ _ _ HW1.out)
  have d2 := fun (W : World) (h : Gr W1 W) => h.cell (cell_of_row W1 tb 2 _ _ _ HW1.out)
  have d3 := fun (W : World) (h : Gr W1 W) => h.cell (cell_of_row W1 tb 3 _ _ _ HW1.out)
  have d4 := fun (W : World) (h : Gr W1 W) => h.cell (cell_of_row W1 tb 4 _ _ _ HW1.out)
  have d5 := fun (W : World) (h : Gr W1 W) => h.cell (cell_of_row W1 tb 5 _ _ _ HW1.out)
  have HD := Lib.hid (And.intro d0 (And.intro d2 (And.intro d3 (And.intro d4 d5))))
  clear d0 d2 d3 d4 d5
  go_loopw [7] (fun i wr => ∃ (k : Nat), k ≤ l.length ∧ i = .int .i64 (k : Int) ∧ Hid (Gr W1 wr) ∧ Hid (∀ t, t < k → ¬ (isP l key t = true ∧ ixF l t = j))) (fun i _ => l.length - (RowKit.intOf i).toNat)
  case atStart => exact ⟨0, Nat.zero_le _, rfl, Lib.hid (Gr.refl _), Lib.hid (fun t ht => absurd ht (by omega))⟩
  case round =>
    obtain ⟨k, hk, rfl, HG, HN⟩ := hrel
    by_cases hlt : k < l.length
    · obtain ⟨g, off, rfl, hg, hcell⟩ := HR.out (by omega)
      have hp := (hcell k hlt).keep (W' := wr) (fun i => (HG1.out.trans HG.out).below.cell (p := ⟨g, i, none⟩) hg)
      obtain ⟨hs1, hs2, hs3⟩ := HOK.out _ (List.getElem_mem hlt)
      have HRV := Lib.hid (fun W => rvalid_any l[k].s hs1 hs2 hs3 W)
      have hpt := HPT.out k hlt
      have HIX := Lib.hid (ixF_at hlt)
      have HFO := Lib.hid (fun h1 h2 => HPS.out k hlt h1 h2 HN.out)
      have HNX : Hid (¬ (isP l key k = true ∧ ixF l k = j) → ∀ t, t < k + 1 → ¬ (isP l key t = true ∧ ixF l t = j)) := Lib.hid (fun h t ht => by
        by_cases e : t = k
        · rw [e]; exact h
        · exact HN.out t (by omega))
      have HJN := Lib.hid (fun h => rvB_jn hs1 h)
      have HJF := Lib.hid (fun (h : jnB l[k].s = true) => jn_facts h)
      obtain ⟨q2, q3, hx4, -⟩ := hs1
      obtain ⟨x, hx⟩ : ∃ x, x = l[k] := ⟨_, rfl⟩
      rw [← hx] at hp HRV hpt HIX HJN HJF q2 q3 hx4
      clear hcell hx hs2 hs3 HR HOK HPT HPS HPN
      obtain ⟨⟨xk, xs, xq, xp, xi, xn⟩, ea, ec, es⟩ := x
      obtain ⟨c0, c1, c2, c3, c4, c5, -⟩ := hp
      simp only at c0 c1 c2 c3 c4 c5 hpt HIX q2 q3 hx4
      have HPT := Lib.hid hpt
      have hk0 : (0 : Int) ≤ (k : Int) := by omega
      have hk1 : (k : Int) < (l.length : Int) := by omega
      clear hpt
      go_upto_region 5 with fail
      obtain ⟨W3, hW3⟩ : ∃ W3, W3 = wr.alloc (.cells #[.int .u8 xk, .int .i64 xs, .int .u64 xq, .int .u64 xp, .int .i64 xi, .int .i64 xn] 44) := ⟨_, rfl⟩
      have hb3 := heap_alloc_new wr (.cells #[.int .u8 xk, .int .i64 xs, .int .u64 xq, .int .u64 xp, .int .i64 xi, .int .i64 xn] 44)
      rw [← hW3] at hb3 ⊢
      have HG3 : Hid (Gr W1 W3) := Lib.hid (by rw [hW3]; exact HG.out.alloc _)
      clear hW3
      obtain ⟨bx, hbx⟩ : ∃ bx, bx = wr.heap.size := ⟨_, rfl⟩
      rw [← hbx] at hb3 ⊢
      clear hbx
      have HY := Lib.hid (fun (W : World) (h : Gr W3 W) => And.intro (h.cell (cell_of_row W3 bx 0 _ _ _ hb3)) (And.intro (h.cell (cell_of_row W3 bx 2 _ _ _ hb3)) (And.intro (h.cell (cell_of_row W3 bx 3 _ _ _ hb3)) (And.intro (h.cell (cell_of_row W3 bx 4 _ _ _ hb3)) (h.cell (cell_of_row W3 bx 5 _ _ _ hb3))))))
      have g0 := cell_of_row W3 bx 0 _ _ _ hb3
      have g1 := cell_of_row W3 bx 1 _ _ _ hb3
      have g2 := cell_of_row W3 bx 2 _ _ _ hb3
      have g3 := cell_of_row W3 bx 3 _ _ _ hb3
      have g4 := cell_of_row W3 bx 4 _ _ _ hb3
      have g5 := cell_of_row W3 bx 5 _ _ _ hb3
      have HPQ := Lib.hid (And.intro q2 (And.intro q3 hx4))
      clear hb3 c0 c1 c2 c3 c4 c5 HG q2 q3 hx4
      cases hv : rvB ⟨xk, xs, xq, xp, xi, xn⟩ with
      | false =>
        rw [hv] at HRV HPT
        have HNO : Hid (¬ (isP l key k = true ∧ ixF l k = j)) := Lib.hid (by rw [HPT.out]; simp)
        clear hv HPT HJN HJF HFO
        go_wp2_with ((go_at_call 59; with_reducible refine (HRV.out _).mono ?_); rintro e w4 ⟨rfl, hg⟩; (obtain ⟨y0, y2, y3, y4, y5⟩ := HY.out _ hg); have HG4 := Lib.hid (HG3.out.trans hg); (have z0 := HD.out.1 _ HG4.out); (have z2 := HD.out.2.1 _ HG4.out); (have z3 := HD.out.2.2.1 _ HG4.out); (have z4 := HD.out.2.2.2.1 _ HG4.out); (have z5 := HD.out.2.2.2.2 _ HG4.out); clear hg)
        go_roundw
        case rel => exact ⟨k + 1, by omega, by go_num, HG4, Lib.hid (HNX.out HNO.out)⟩
        case measure => simp [RowKit.intOf]; omega
      | true =>
        have hrv := hv
        rw [hv] at HRV HPT
        clear hv
        by_cases b1 : xk = ok
        case neg =>
          have eb1 : (xk == ok) = false := by simpa using b1
          have HNO : Hid (¬ (isP l key k = true ∧ ixF l k = j)) := Lib.hid (by rw [HPT.out, decide_eq_false b1]; simp)
          clear b1 HPT HJN HJF HFO hrv
          go_wp2_with ((go_at_call 59; with_reducible refine (HRV.out _).mono ?_); rintro e w4 ⟨rfl, hg⟩; (obtain ⟨y0, y2, y3, y4, y5⟩ := HY.out _ hg); have HG4 := Lib.hid (HG3.out.trans hg); (have z0 := HD.out.1 _ HG4.out); (have z2 := HD.out.2.1 _ HG4.out); (have z3 := HD.out.2.2.1 _ HG4.out); (have z4 := HD.out.2.2.2.1 _ HG4.out); (have z5 := HD.out.2.2.2.2 _ HG4.out); clear hg)
          go_roundw
          case rel => exact ⟨k + 1, by omega, by go_num, HG4, Lib.hid (HNX.out HNO.out)⟩
          case measure => simp [RowKit.intOf]; omega
        have eb1 : (xk == ok) = true := by simpa using b1
        have HB1 := Lib.hid b1
        clear b1
        by_cases b2 : xp = op
        case neg =>
          have eb2 : (xp == op) = false := by simpa using b2
          have HNO : Hid (¬ (isP l key k = true ∧ ixF l k = j)) := Lib.hid (by rw [HPT.out, decide_eq_false b2]; simp)
          clear b2 HPT HJN HJF HFO hrv
          go_wp2_with ((go_at_call 59; with_reducible refine (HRV.out _).mono ?_); rintro e w4 ⟨rfl, hg⟩; (obtain ⟨y0, y2, y3, y4, y5⟩ := HY.out _ hg); have HG4 := Lib.hid (HG3.out.trans hg); (have z0 := HD.out.1 _ HG4.out); (have z2 := HD.out.2.1 _ HG4.out); (have z3 := HD.out.2.2.1 _ HG4.out); (have z4 := HD.out.2.2.2.1 _ HG4.out); (have z5 := HD.out.2.2.2.2 _ HG4.out); clear hg)
          go_roundw
          case rel => exact ⟨k + 1, by omega, by go_num, HG4, Lib.hid (HNX.out HNO.out)⟩
          case measure => simp [RowKit.intOf]; omega
        have eb2 : (xp == op) = true := by simpa using b2
        have HB2 := Lib.hid b2
        clear b2
        by_cases b3 : xn = on
        case neg =>
          have eb3 : (xn == on) = false := by simpa using b3
          have HNO : Hid (¬ (isP l key k = true ∧ ixF l k = j)) := Lib.hid (by rw [HPT.out, decide_eq_false b3]; simp)
          clear b3 HPT HJN HJF HFO hrv
          go_wp2_with ((go_at_call 59; with_reducible refine (HRV.out _).mono ?_); rintro e w4 ⟨rfl, hg⟩; (obtain ⟨y0, y2, y3, y4, y5⟩ := HY.out _ hg); have HG4 := Lib.hid (HG3.out.trans hg); (have z0 := HD.out.1 _ HG4.out); (have z2 := HD.out.2.1 _ HG4.out); (have z3 := HD.out.2.2.1 _ HG4.out); (have z4 := HD.out.2.2.2.1 _ HG4.out); (have z5 := HD.out.2.2.2.2 _ HG4.out); clear hg)
          go_roundw
          case rel => exact ⟨k + 1, by omega, by go_num, HG4, Lib.hid (HNX.out HNO.out)⟩
          case measure => simp [RowKit.intOf]; omega
        have eb3 : (xn == on) = true := by simpa using b3
        have HB3 := Lib.hid b3
        clear b3
        obtain ⟨jk, -, m1, m2, m3, m4, m5, m6⟩ := HJF.out (by rw [← HJN.out (by rw [HB1.out]; exact HKD.out)]; exact hrv)
        obtain ⟨q2, q3, hx4⟩ := HPQ.out
        simp only at m1 m2 m3 m4 m5 m6 q2 q3 hx4
        have m7 : xi ≤ 65534 := by omega
        have m8 : xi ≤ xq := by omega
        have m9 : oi ≤ 65534 := by omega
        have m10 : oi ≤ oq := by omega
        rw [decide_eq_true HB1.out, decide_eq_true HB2.out, decide_eq_true HB3.out] at HPT
        clear hrv jk HJN HJF m1 m2 m4 m5 m6 hx4
        by_cases b4 : xq - xi = oq - oi
        case neg =>
          have eb4 : (xq - xi == oq - oi) = false := by simpa using b4
          have HNO : Hid (¬ (isP l key k = true ∧ ixF l k = j)) := Lib.hid (by rw [HPT.out, decide_eq_false b4]; simp)
          clear b4 HPT HFO
          go_wp2_with ((go_at_call 59; with_reducible refine (HRV.out _).mono ?_); rintro e w4 ⟨rfl, hg⟩; (obtain ⟨y0, y2, y3, y4, y5⟩ := HY.out _ hg); have HG4 := Lib.hid (HG3.out.trans hg); (have z0 := HD.out.1 _ HG4.out); (have z2 := HD.out.2.1 _ HG4.out); (have z3 := HD.out.2.2.1 _ HG4.out); (have z4 := HD.out.2.2.2.1 _ HG4.out); (have z5 := HD.out.2.2.2.2 _ HG4.out); clear hg)
          go_roundw
          case rel => exact ⟨k + 1, by omega, by go_num, HG4, Lib.hid (HNX.out HNO.out)⟩
          case measure => simp [RowKit.intOf]; omega
        have eb4 : (xq - xi == oq - oi) = true := by simpa using b4
        rw [decide_eq_true b4] at HPT
        by_cases b5 : xi = j
        case neg =>
          have eb5 : (xi == j) = false := by simpa using b5
          have HNO : Hid (¬ (isP l key k = true ∧ ixF l k = j)) := Lib.hid (fun h => b5 (by rw [← h.2, HIX.out]))
          clear b4 b5 HPT HFO
          go_wp2_with ((go_at_call 59; with_reducible refine (HRV.out _).mono ?_); rintro e w4 ⟨rfl, hg⟩; (obtain ⟨y0, y2, y3, y4, y5⟩ := HY.out _ hg); have HG4 := Lib.hid (HG3.out.trans hg); (have z0 := HD.out.1 _ HG4.out); (have z2 := HD.out.2.1 _ HG4.out); (have z3 := HD.out.2.2.1 _ HG4.out); (have z4 := HD.out.2.2.2.1 _ HG4.out); (have z5 := HD.out.2.2.2.2 _ HG4.out); clear hg)
          go_roundw
          case rel => exact ⟨k + 1, by omega, by go_num, HG4, Lib.hid (HNX.out HNO.out)⟩
          case measure => simp [RowKit.intOf]; omega
        have eb5 : (xi == j) = true := by simpa using b5
        have HFN : Hid (R = (k : Int)) := Lib.hid (HFO.out (by rw [HPT.out]; rfl) (by rw [HIX.out]; exact b5))
        clear b4 b5 HPT HFO
        go_wp2_with ((go_at_call 59; with_reducible refine (HRV.out _).mono ?_); rintro e w4 ⟨rfl, hg⟩; (obtain ⟨y0, y2, y3, y4, y5⟩ := HY.out _ hg); have HG4 := Lib.hid (HG3.out.trans hg); (have z0 := HD.out.1 _ HG4.out); (have z2 := HD.out.2.1 _ HG4.out); (have z3 := HD.out.2.2.1 _ HG4.out); (have z4 := HD.out.2.2.2.1 _ HG4.out); (have z5 := HD.out.2.2.2.2 _ HG4.out); clear hg)
        go_ret
        exact ⟨by rw [HFN.out]; rfl, HG1.out.trans HG4.out⟩
    · obtain rfl : k = l.length := by omega
      have HFN : Hid (R = -1) := Lib.hid (HPN.out HN.out)
      have hki : ¬ (l.length : Int) < (l.length : Int) := by omega
      go_wp2
      go_ret
      exact ⟨by rw [HFN.out]; rfl, HG1.out.trans HG.out⟩
end Go.Proofs.Ytajlddgemkkcdaa
