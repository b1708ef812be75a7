/- The walk of PrpBounds. Conditions stand in each theorem. -/
import Derived.Test.YtngaifokkkmmcaaIA
namespace Go.Proofs.Ytngaifokkkmmcaa
open Go.RowKit Go.Shelf
set_option linter.unusedVariables false
set_option maxHeartbeats 4000000
set_option maxRecDepth 100000
section
attribute [local go_sem ↓ 100000] builtin_appX
theorem bounds_past (of st : Nat) (w : World) (hof : of < 65536) (hst : st < 65536) : Calls Try.prog 6 #[.int .u16 (of : Int), .int .u16 (st : Int), .bool true] w (OkB w) := by
  obtain ⟨X1, o, hO, ho, ho4, AB⟩ := sums_of of hof
  obtain ⟨X2, at', hAt, hat, hat8, BB⟩ := sums_st st hst
  have HAB := Lib.hid AB
  have HBB := Lib.hid BB
  clear AB BB
  have HN := Lib.hid (new16 w)
  have HWk := Lib.hid works_any
  have HM := Lib.hid (fun (W : World) (q : Int) => num_any q W)
  obtain ⟨l0, hl0⟩ : ∃ l0, l0 = 32768 + at' := ⟨_, rfl⟩
  have e5 : (32768 : Int) + (at' : Int) = (l0 : Int) := by omega
  have b5 : IntKind.u64.wrap ((32768 : Int) + (at' : Int)) = (l0 : Int) := by rw [e5]; exact u64_nat l0 (by clear HAB HBB; omega)
  have HB5 := Lib.hid b5
  clear b5
  obtain ⟨K, hK⟩ : ∃ K, K = (o + 1048577 + 4095) / 4096 := ⟨_, rfl⟩
  have hKl : 256 ≤ K ∧ K ≤ 257 := by omega
  obtain ⟨S1, S2, KI, hKI, SS⟩ := sums_k o 1048577 1048577 rfl ho (by omega)
  rw [← hK] at hKI
  have HSS := Lib.hid SS
  clear SS
  have HBd := Lib.hid (fun (W : World) (b d cap : Nat) (vl vp : Value) (hk : Kp w b d cap m16 W) =>
    show Calls Try.prog 15 #[.pointer (some ⟨b, 0, none⟩), vl, vp, .int .i64 (o : Int), .int .i64 1048577] W fun e w' => e = .returned (.tuple #[.int .u64 0, .int .u64 0, .int .i64 2]) ∧ Below W.heap.size W w' from
      Build_req (base := 0) (b := 0) (d := 0) (cap := 0) _ vl vp (o : Int) 1048577 2 fun W' hb' => reqT_bad (hk.later hb').1 m16_gm 1048577 (by omega))
  have HSp := Lib.hid (fun (W : World) (b d cap : Nat) (hk : Kp w b d cap m16 W) =>
    show Calls Try.prog 20 #[.pointer (some ⟨b, 0, none⟩), .int .u64 (o : Int), .int .u64 (l0 : Int), .int .i64 1048577] W (SpPost W (.error 2)) from by
      have h := Spans_any hk.1 m16_gm o l0 1048577 (by omega) (by omega)
      have hE : spE m16 o l0 1048577 = .error 2 := by unfold spE; rw [if_pos (by omega)]
      rw [hE] at h
      exact h)
  have HCt := Lib.hid (fun W => show Calls Try.prog 21 #[.int .u64 (o : Int), .int .i64 1048577] W fun e w' => e = .returned (.int .i64 0) ∧ W = w' from by
    have h := Count_any o 1048577 W (by omega)
    have hc : cnt o 1048577 = 0 := by unfold cnt; rw [if_pos (.inr (by omega))]
    rw [hc] at h
    exact h)
  have HKl := Lib.hid (And.intro hKl hKI)
  obtain ⟨a1, a2, a3, a4, a5, a6, a7, a8⟩ := HAB.out
  obtain ⟨b1, b2, b3, b4⟩ := HBB.out
  obtain ⟨s1, s2, s3, s4, s5, s6, s7⟩ := HSS.out
  have b5 := HB5.out
  clear hO hAt hof hst ho ho4 hat hat8 HAB HBB hl0 e5 HB5 HSS hK hKl hKI
  generalize (of : Int) = OF at *
  generalize (st : Int) = ST at *
  generalize (X1 : Int) = x1 at *
  generalize (X2 : Int) = x2 at *
  generalize (at' : Int) = AT at *
  generalize (o : Int) = oo at *
  generalize (l0 : Int) = ll at *
  have d2 : ((1048576 : Int) + 1) = 1048577 := rfl
  go_enter Try.func6, Try.ntmps6
  go_wp2_with fail
  with_reducible refine HN.out.mono ?_
  rintro e w1 ⟨b, d, cap, rfl, hk⟩
  have HK := Lib.hid hk
  clear hk
  go_wp2
  go_loopw [12, 13] (fun v i wr => ∃ k : Nat, k ≤ K ∧ i = .int .i64 (k : Int) ∧ Hid (∃ A c, v = .slice A k c) ∧ Hid (wr.ownsRow w.heap.size 23 1 v k (uv (pgb k))) ∧ Hid (Kp w b d cap m16 wr)) (fun _ i _ => K - (RowKit.intOf i).toNat)
  case atStart => exact ⟨0, Nat.zero_le _, rfl, Lib.hid ⟨none, 0, rfl⟩, Lib.hid (World.ownsRow_nil _ _ _ _), HK⟩
  case round =>
    obtain ⟨k, hk, rfl, HV, HO, HKr⟩ := hrel
    obtain ⟨A2, c2, rfl⟩ := HV.out
    by_cases hlt : k < K
    · have hkb : k < 300 ∧ (k : Int) < 300 ∧ (k : Int) < KI := by
        have := HKl.out
        clear a1 a2 a3 a4 a5 a6 a7 a8 b1 b2 b3 b4 b5 s1 s2 s3 s4 s5 s6 s7
        omega
      obtain ⟨hk3, hk4, hki⟩ := hkb
      obtain ⟨Y, P, hP, y1, y2, y3, y4, y5⟩ := page_i k (by clear a1 a2 a3 a4 a5 a6 a7 a8 b1 b2 b3 b4 b5 s1 s2 s3 s4 s5 s6 s7; omega)
      have hbA := below_alloc wr (.cells #[.int .u64 P] 23)
      obtain ⟨A3, c3, W3, hap, hown, hgr⟩ := app_u64 (wr.alloc (.cells #[.int .u64 P] 23)) w.heap.size k (.slice A2 k c2) (pgb k) (k % 8 * 4096) ⟨wr.heap.size, 0, none⟩ (own_below HO.out hbA)
        (fun j u hu => by
          have hj : j = 0 := by
            have := (List.getElem?_eq_some_iff.1 hu).1
            simpa [uv] using this
          subst hj
          simp only [uv, List.map_cons, List.map_nil, List.getElem?_cons_zero, Option.some.injEq] at hu
          subst hu
          rw [add_plain, ← hP]
          exact box_cell wr _ 23) (by clear a1 a2 a3 a4 a5 a6 a7 a8 b1 b2 b3 b4 b5 s1 s2 s3 s4 s5 s6 s7 y1 y2 y3 y4 y5; omega) (Nat.le_trans HKr.out.2.size hbA.size)
      have hrun := appX_run hap
      rw [← pgb_snoc] at hown
      have HO3 := Lib.hid hown
      have HK3 := Lib.hid (kp_grow HKr.out hbA HO.out hgr)
      clear hP hap hown hgr hbA hk3
      go_wp2
      go_roundw
      case rel => exact ⟨k + 1, by clear y1 y2 y3 y4 y5 a1 a2 a3 a4 a5 a6 a7 a8 b1 b2 b3 b4 b5 s1 s2 s3 s4 s5 s6 s7; omega, by go_num, Lib.hid ⟨_, _, rfl⟩, HO3, HK3⟩
      case measure => clear y1 y2 y3 y4 y5 a1 a2 a3 a4 a5 a6 a7 a8 b1 b2 b3 b4 b5 s1 s2 s3 s4 s5 s6 s7; simp [RowKit.intOf]; omega
    · have hkK : k = K ∧ ((k : Int)) = KI := by
        have := HKl.out
        clear a1 a2 a3 a4 a5 a6 a7 a8 b1 b2 b3 b4 b5 s1 s2 s3 s4 s5 s6 s7
        omega
      obtain ⟨rfl, hke⟩ := hkK
      clear a1 a2 a3 a4 a5 a6 a7 b1 b2 b3 b4 hlt hk
      rw [hke]
      go_wp2_with fail
      have hbx := below_alloc wr (.cells #[.int .u64 ll, .int .u64 36864] 23)
      with_reducible refine (HBd.out _ b d cap _ _ (HKr.out.later hbx)).mono ?_
      rintro e w2 ⟨rfl, hb⟩
      have HK2 := Lib.hid ((HKr.out.later hbx).later hb)
      clear hb hbx
      go_wp2_with fail
      with_reducible refine (HSp.out _ b d cap HK2.out).mono ?_
      rintro e w3 ⟨⟨A5, c5, rfl, -⟩, hb3⟩
      have HK3 := Lib.hid (HK2.out.later hb3)
      clear hb3
      have e1 : (lstO (.error 2 : Except Int (List (Nat × Nat)))).length = 0 := rfl
      have e2 : numO (.error 2 : Except Int (List (Nat × Nat))) = 2 := rfl
      rw [e1, e2]
      clear e1 e2
      go_wp2_with (first
        | ((go_at_call 12; with_reducible refine (HM.out _ _).mono ?_); rintro e w' ⟨rfl, rfl⟩)
        | ((go_at_call 21; with_reducible refine (HCt.out _).mono ?_); rintro e w' ⟨rfl, rfl⟩))
      with_reducible refine (HWk.out _).mono ?_
      rintro e w6 ⟨rfl, hb⟩
      have HB6 := Lib.hid (HK3.out.2.trans (hb.mono HK3.out.2.size))
      clear hb
      go_wp2
      go_ret
      exact ⟨rfl, HB6.out⟩
theorem bounds_in (of st : Nat) (w : World) (hof : of < 65536) (hst : st < 65536) : Calls Try.prog 6 #[.int .u16 (of : Int), .int .u16 (st : Int), .bool false] w (OkB w) := by
  obtain ⟨X1, o, hO, ho, ho4, AB⟩ := sums_of of hof
  obtain ⟨X2, at', hAt, hat, hat8, BB⟩ := sums_st st hst
  have HAB := Lib.hid AB
  have HBB := Lib.hid BB
  clear AB BB
  have HN := Lib.hid (new16 w)
  have HWk := Lib.hid works_any
  have HM := Lib.hid (fun (W : World) (q : Int) => num_any q W)
  obtain ⟨l0, hl0⟩ : ∃ l0, l0 = 32768 + at' := ⟨_, rfl⟩
  have e5 : (32768 : Int) + (at' : Int) = (l0 : Int) := by omega
  have b5 : IntKind.u64.wrap ((32768 : Int) + (at' : Int)) = (l0 : Int) := by rw [e5]; exact u64_nat l0 (by clear HAB HBB; omega)
  have HB5 := Lib.hid b5
  clear b5
  obtain ⟨K, hK⟩ : ∃ K, K = (o + 1048576 + 4095) / 4096 := ⟨_, rfl⟩
  have hKl : 256 ≤ K ∧ K ≤ 257 := by omega
  obtain ⟨S1, S2, KI, hKI, SS⟩ := sums_k o 1048576 1048576 rfl ho (by omega)
  rw [← hK] at hKI
  have HSS := Lib.hid SS
  clear SS
  have hpl : (pgb K).length = cnt o ((1048576 : Nat) : Int) := by rw [pgb_length, cnt_pos (by omega) (by omega) ho, hK]
  obtain ⟨ps, hps, hpsl⟩ := pgb_cons (K - 1)
  rw [show K - 1 + 1 = K by omega] at hps
  have HBd := Lib.hid (fun (W : World) (b d cap : Nat) (vp : Value) (hk : Kp w b d cap m16 W) (hp : W.ownsRow w.heap.size 23 1 vp K (uv (pgb K))) =>
    show Calls Try.prog 15 #[.pointer (some ⟨b, 0, none⟩), .slice (some ⟨W.heap.size, 0, none⟩) 2 2, vp, .int .i64 (o : Int), .int .i64 1048576] (W.alloc (.cells #[.int .u64 (l0 : Int), .int .u64 36864] 23)) fun e w' => e = .returned (.tuple #[.int .u64 (o : Int), .int .u64 (l0 : Int), .int .i64 0]) ∧ Kp w b d cap (bldM m16 l0 36864 ps) w' ∧ U64s w' vp (pgb K) from by
      have hp' : W.ownsRow w.heap.size 23 1 vp (0 :: ps).length (uv (0 :: ps)) := by
        rw [← hps, pgb_length]
        exact hp
      refine (kp_bldx hk m16_gm (by show (0 : Nat) < 999999; decide) vp l0 36864 o 1048576 0 ps (l0 : Int) 36864 rfl rfl ho ho4 (by omega) (by omega) hp' (by omega) (fun x hx => (pgb_mem K x (by rw [hps]; exact hx)).1) (by rw [← hps]; exact hpl) (fun x hx => by have := (pgb_mem K x (by rw [hps]; exact hx)).2; rw [m16_len]; omega) (by rw [hl0]; unfold te; omega) (by omega) (by rw [m16_len]; omega)).mono ?_
      rintro e w' ⟨h1, h2, h3⟩
      rw [Nat.zero_add] at h1
      rw [hps]
      exact ⟨h1, h2, h3⟩)
  have hE : spE (bldM m16 l0 36864 ps) o l0 ((1048576 : Nat) : Int) = .ok (spl 1048576 (o :: ps)) := by
    have h := spE_bld (m := m16) l0 36864 0 ps o 1048576 ho ho4 (by omega) (by rw [← hps]; exact hpl) (List.all_eq_true.2 fun x hxx => by simpa using (pgb_mem K x (by rw [hps]; exact hxx)).1) (fun x hx => by have := (pgb_mem K x (by rw [hps]; exact hx)).2; rw [m16_len]; omega) m16_gm.max (by rw [hl0]; unfold te; omega) (by omega) (by rw [m16_len]; omega)
    rw [bldS_ge (by omega), Nat.zero_add] at h
    exact h
  have HSp := Lib.hid (fun (W : World) (b d cap : Nat) (hk : Kp w b d cap (bldM m16 l0 36864 ps) W) =>
    show Calls Try.prog 20 #[.pointer (some ⟨b, 0, none⟩), .int .u64 (o : Int), .int .u64 (l0 : Int), .int .i64 1048576] W (SpPost W (.ok (spl 1048576 (o :: ps)))) from by
      have h := Spans_any hk.1 (bldM_gm m16_gm (by show (0 : Nat) < 999999; decide)) o l0 ((1048576 : Nat) : Int) (by omega) (by omega)
      rw [hE] at h
      exact h)
  have hlast : (spl 1048576 (o :: ps)).length = K := by rw [spl_length]; simp; omega
  have hla : ∃ y : Nat, y < 18446744073709551616 ∧ (∀ (h : K - 1 < (spl 1048576 (o :: ps)).length), ((spl 1048576 (o :: ps))[K - 1]'h).1 = y) ∧ (∀ (h : K - 1 < (pgb K).length), (pgb K)[K - 1]'h = y) := by
    have h1 : K - 1 < (pgb K).length := by rw [pgb_length]; omega
    refine ⟨(pgb K)[K - 1]'h1, ?_, fun h => ?_, fun h => rfl⟩
    · have := (pgb_mem K _ (List.getElem_mem h1)).2
      omega
    rw [spl_at _ _ _ (by simp; omega)]
    have e : ∀ j (hj : j + 1 < (o :: ps).length) (hj2 : j + 1 < (pgb K).length), (o :: ps)[j + 1]'hj = (pgb K)[j + 1]'hj2 := fun j hj hj2 => by simp [hps]
    have := e (K - 2) (by simp; omega) (by rw [pgb_length]; omega)
    simpa only [show K - 2 + 1 = K - 1 by omega] using this
  have HLA := Lib.hid (And.intro hlast hla)
  clear hpl hps hpsl hE hlast hla
  have HKl := Lib.hid (And.intro hKl hKI)
  obtain ⟨a1, a2, a3, a4, a5, a6, a7, a8⟩ := HAB.out
  obtain ⟨b1, b2, b3, b4⟩ := HBB.out
  obtain ⟨s1, s2, s3, s4, s5, s6, s7⟩ := HSS.out
  have b5 := HB5.out
  clear hO hAt hof hst ho ho4 hat hat8 HAB HBB hl0 e5 HB5 HSS hK hKl hKI
  generalize (of : Int) = OF at *
  generalize (st : Int) = ST at *
  generalize (X1 : Int) = x1 at *
  generalize (X2 : Int) = x2 at *
  generalize (at' : Int) = AT at *
  generalize (o : Int) = oo at *
  generalize (l0 : Int) = ll at *
  have d2 : ((1048576 : Int) + 1) = 1048577 := rfl
  go_enter Try.func6, Try.ntmps6
  go_wp2_with fail
  with_reducible refine HN.out.mono ?_
  rintro e w1 ⟨b, d, cap, rfl, hk⟩
  have HK := Lib.hid hk
  clear hk
  go_wp2
  go_loopw [12, 13] (fun v i wr => ∃ k : Nat, k ≤ K ∧ i = .int .i64 (k : Int) ∧ Hid (∃ A c, v = .slice A k c) ∧ Hid (wr.ownsRow w.heap.size 23 1 v k (uv (pgb k))) ∧ Hid (Kp w b d cap m16 wr)) (fun _ i _ => K - (RowKit.intOf i).toNat)
  case atStart => exact ⟨0, Nat.zero_le _, rfl, Lib.hid ⟨none, 0, rfl⟩, Lib.hid (World.ownsRow_nil _ _ _ _), HK⟩
  case round =>
    obtain ⟨k, hk, rfl, HV, HO, HKr⟩ := hrel
    obtain ⟨A2, c2, rfl⟩ := HV.out
    by_cases hlt : k < K
    · have hkb : k < 300 ∧ (k : Int) < 300 ∧ (k : Int) < KI := by
        have := HKl.out
        clear a1 a2 a3 a4 a5 a6 a7 a8 b1 b2 b3 b4 b5 s1 s2 s3 s4 s5 s6 s7
        omega
      obtain ⟨hk3, hk4, hki⟩ := hkb
      obtain ⟨Y, P, hP, y1, y2, y3, y4, y5⟩ := page_i k (by clear a1 a2 a3 a4 a5 a6 a7 a8 b1 b2 b3 b4 b5 s1 s2 s3 s4 s5 s6 s7; omega)
      have hbA := below_alloc wr (.cells #[.int .u64 P] 23)
      obtain ⟨A3, c3, W3, hap, hown, hgr⟩ := app_u64 (wr.alloc (.cells #[.int .u64 P] 23)) w.heap.size k (.slice A2 k c2) (pgb k) (k % 8 * 4096) ⟨wr.heap.size, 0, none⟩ (own_below HO.out hbA)
        (fun j u hu => by
          have hj : j = 0 := by
            have := (List.getElem?_eq_some_iff.1 hu).1
            simpa [uv] using this
          subst hj
          simp only [uv, List.map_cons, List.map_nil, List.getElem?_cons_zero, Option.some.injEq] at hu
          subst hu
          rw [add_plain, ← hP]
          exact box_cell wr _ 23) (by clear a1 a2 a3 a4 a5 a6 a7 a8 b1 b2 b3 b4 b5 s1 s2 s3 s4 s5 s6 s7 y1 y2 y3 y4 y5; omega) (Nat.le_trans HKr.out.2.size hbA.size)
      have hrun := appX_run hap
      rw [← pgb_snoc] at hown
      have HO3 := Lib.hid hown
      have HK3 := Lib.hid (kp_grow HKr.out hbA HO.out hgr)
      clear hP hap hown hgr hbA hk3
      go_wp2
      go_roundw
      case rel => exact ⟨k + 1, by clear y1 y2 y3 y4 y5 a1 a2 a3 a4 a5 a6 a7 a8 b1 b2 b3 b4 b5 s1 s2 s3 s4 s5 s6 s7; omega, by go_num, Lib.hid ⟨_, _, rfl⟩, HO3, HK3⟩
      case measure => clear y1 y2 y3 y4 y5 a1 a2 a3 a4 a5 a6 a7 a8 b1 b2 b3 b4 b5 s1 s2 s3 s4 s5 s6 s7; simp [RowKit.intOf]; omega
    · have hkK : k = K ∧ ((k : Int)) = KI := by
        have := HKl.out
        clear a1 a2 a3 a4 a5 a6 a7 a8 b1 b2 b3 b4 b5 s1 s2 s3 s4 s5 s6 s7
        omega
      obtain ⟨rfl, hke⟩ := hkK
      clear a1 a2 a3 a4 a5 a6 a7 b1 b2 b3 b4 hlt hk
      rw [hke]
      clear hke
      go_wp2_with fail
      with_reducible refine (HBd.out wr b d cap _ HKr.out HO.out).mono ?_
      rintro e w2 ⟨rfl, hk2, hU⟩
      have HK2 := Lib.hid (And.intro hk2 hU)
      clear hk2 hU
      go_wp2_with fail
      with_reducible refine (HSp.out _ b d cap HK2.out.1).mono ?_
      rintro e w3 ⟨⟨A5, c5, rfl, ho5⟩, hb3⟩
      have e1 : lstO (.ok (spl 1048576 (o :: ps)) : Except Int (List (Nat × Nat))) = spl 1048576 (o :: ps) := rfl
      have e2 : numO (.ok (spl 1048576 (o :: ps)) : Except Int (List (Nat × Nat))) = 0 := rfl
      rw [e1] at ho5 ⊢
      rw [e2]
      have hSp := spn_of_own ho5
      have HUP := Lib.hid (HK2.out.2.below hb3)
      have HK3 := Lib.hid (HK2.out.1.later hb3)
      have HSN := Lib.hid hSp
      rw [HLA.out.1]
      clear ho5 hb3 hSp e1 e2
      go_wp2
      obtain ⟨hlen, y, hy, hys, hyp⟩ := HLA.out
      have hk2 := HKl.out.1
      obtain ⟨Au, cu, eu, -, -, hru⟩ := HUP.out
      rw [pgb_length] at eu
      obtain ⟨gp, op, rfl, hgp, hcp⟩ := hru (by rw [pgb_length]; clear a8 b5 s1 s2 s3 s4 s5 s6 s7; omega)
      have p1 := hcp (k - 1) (by rw [pgb_length]; clear a8 b5 s1 s2 s3 s4 s5 s6 s7; omega)
      rw [hyp (by rw [pgb_length]; clear a8 b5 s1 s2 s3 s4 s5 s6 s7; omega)] at p1
      simp only [Value.slice.injEq] at eu
      obtain ⟨rfl, -, rfl⟩ := eu
      obtain ⟨As, cs, es, -, hrs⟩ := HSN.out
      obtain ⟨gs, os, rfl, hgs, hcs⟩ := hrs (by rw [hlen]; clear a8 b5 s1 s2 s3 s4 s5 s6 s7; omega)
      obtain ⟨q1, -, -⟩ := hcs (k - 1) (by rw [hlen]; clear a8 b5 s1 s2 s3 s4 s5 s6 s7; omega)
      rw [hys (by rw [hlen]; clear a8 b5 s1 s2 s3 s4 s5 s6 s7; omega)] at q1
      rw [hlen] at es
      simp only [Value.slice.injEq] at es
      obtain ⟨rfl, -, rfl⟩ := es
      obtain ⟨J, hJ⟩ : ∃ J, J = k - 1 := ⟨_, rfl⟩
      rw [← hJ] at p1 q1
      have eJ : (k : Int) - 1 = (J : Int) := by clear a8 b5 s1 s2 s3 s4 s5 s6 s7; omega
      have j1 : IntKind.i64.wrap ((k : Int) - 1) = (J : Int) := by rw [eJ]; exact i64_nat J (by clear a8 b5 s1 s2 s3 s4 s5 s6 s7; omega)
      have j2 : wrap64 ((k : Int) - 1) = (J : Int) := by rw [eJ]; exact wrap64_nat J (by clear a8 b5 s1 s2 s3 s4 s5 s6 s7 j1; omega)
      have j3 : J < k := by clear a8 b5 s1 s2 s3 s4 s5 s6 s7 j1 j2; omega
      have j4 : (J : Int) < (k : Int) := by clear a8 b5 s1 s2 s3 s4 s5 s6 s7 j1 j2; omega
      have j5 : (0 : Int) ≤ (J : Int) := by clear a8 b5 s1 s2 s3 s4 s5 s6 s7 j1 j2; omega
      have HB6 := Lib.hid HK3.out.2
      clear hlen hy hys hyp hk2 hcp hcs hru hrs eJ hJ s1 s2 s3 s4 s5 s6 s7 HBd HSp HLA HN
      generalize (y : Int) = yi at *
      go_region_held3 (fun w' => w'.cell? ⟨gs, os + J * 3, none⟩ = some (.int .u64 yi) ∧ w'.cell? ⟨gp, op + J, none⟩ = some (.int .u64 yi)) (first | (refine ⟨?_, ?_⟩ <;> assumption)) (first
        | ((go_at_call 12; with_reducible refine (HM.out _ _).mono ?_); rintro e w' ⟨rfl, rfl⟩)
        | ((go_at_call 9; with_reducible refine (HWk.out _).mono ?_); rintro e w6 ⟨rfl, hb⟩; have HB6 := Lib.hid (HB6.out.trans (((Below.refl w3.heap.size w3).drew.trans hb).mono HB6.out.size)); have e0 := (hb.cell (p := ⟨gs, os + J * 3, none⟩) hgs).trans q1; have e1 := (hb.cell (p := ⟨gp, op + J, none⟩) hgp).trans p1; clear hb))
      all_goals
        go_wp2
        go_ret
        exact ⟨rfl, HB6.out⟩
end
theorem bounds_any (of st : Nat) (z : Bool) (w : World) (hof : of < 65536) (hst : st < 65536) : Calls Try.prog 6 #[.int .u16 (of : Int), .int .u16 (st : Int), .bool z] w (OkB w) := by
  cases z
  · exact bounds_in of st w hof hst
  · exact bounds_past of st w hof hst
end Go.Proofs.Ytngaifokkkmmcaa
