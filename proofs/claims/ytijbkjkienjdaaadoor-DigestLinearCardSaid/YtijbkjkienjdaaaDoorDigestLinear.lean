/- DigestLinear: for every two states, every three slices of bytes and every cut the law returns true, and its arguments read as before; the row, and the card that ties both tables of package digest to the program's text. No condition. -/
import Derived.Test.YtijbkjkienjdaaaDoorS
import Derived.Test.YtijbkjkienjdaaaDoorK
import Derived.Test.YtijbkjkienjdaaaDoorTie
import Derived.Test.YtijbkjkienjdaaaDoorCards
import Derived.LaidMore
import Derived.Lay
import Derived.SevenTiedAt
import Derived.Stop.Joined
namespace Go.Proofs.YtijbkjkienjdaaaDoor.DigestLinear
open Go.ChangeShapes Go.WideShapes Go.ChangeAt Go.RowKit
set_option linter.unusedVariables false
set_option maxHeartbeats 1000000

theorem cutN (cut : Int) (N : Nat) : ∃ (m : Int) (K : Nat), (if (N : Int) < cut then (N : Int) else cut) = m ∧ (if m > 0 then m else 0) = K ∧ K ≤ N := by
  refine ⟨_, (if (if (N : Int) < cut then (N : Int) else cut) > 0 then (if (N : Int) < cut then (N : Int) else cut) else 0).toNat, rfl, ?_, ?_⟩ <;> (split <;> split <;> omega)
set_option maxRecDepth 100000 in
theorem walk (s t : Nat) (va vb vc : Value) (a b c : List UInt8) (cut : Int) (w : World) (hs : s < 4294967296) (ht : t < 65536) (ha : Byt w va a) (hb : Byt w vb b) (hc : Byt w vc c) (la : a.length ≤ maxLen) (lb : b.length ≤ maxLen) (lc : c.length ≤ maxLen) (hT : Tabs w) :
    Calls Tryd.prog 9 #[.int .u32 s, .int .u16 t, va, vb, vc, .int .i64 cut] w fun e w' => e = .returned (.bool true) ∧ Below w.heap.size w w' := by
  unfold maxLen at la lb lc
  have HA := Lib.hid ha; have HB := Lib.hid hb; have HC := Lib.hid hc
  have HT := Lib.hid hT; clear hT
  obtain ⟨A, ca, rfl, hca, -⟩ := ha
  obtain ⟨B, cb, rfl, hcb, -⟩ := hb
  obtain ⟨C, cc, rfl, hcc, -⟩ := hc
  obtain ⟨N, hN, hNa, hNb, hNc⟩ : ∃ N : Nat, (if (c.length : Int) < (if (b.length : Int) < a.length then (b.length : Int) else a.length) then (c.length : Int) else (if (b.length : Int) < a.length then (b.length : Int) else a.length)) = N ∧ N ≤ a.length ∧ N ≤ b.length ∧ N ≤ c.length := by
    refine ⟨min c.length (min b.length a.length), ?_, by omega, by omega, by omega⟩
    split <;> split <;> omega
  have em := fun W => run_min_int3 (P := Tryd.prog) (w := W) #[3, 3, 3] 3 .i64 .i64 .i64 a.length b.length c.length
  rw [hN] at em
  clear hN
  by_cases hbig : 500 < N
  · have hbig' : (500 : Int) < N := by omega
    go_enter Tryd.func9, Tryd.ntmps9
    go_wp2_with fail
    refine (known_any _ HT.out).mono ?_
    rintro e w3 ⟨rfl, hb3⟩
    have Hb3 := Lib.hid hb3; clear hb3
    go_wp2
    go_ret
    exact ⟨rfl, Hb3.out⟩
  · have hbig' : ¬ (500 : Int) < N := by omega
    obtain ⟨m, K, hm, eK, hK⟩ := cutN cut N
    have em2 := fun W => run_min_int2 (P := Tryd.prog) (w := W) #[3, 3] 3 .i64 .i64 cut N
    have em3 := fun W => run_max_int2 (P := Tryd.prog) (w := W) #[3, 3] 3 .i64 .i64 0 m
    rw [hm] at em2
    rw [eK] at em3
    clear hm eK
    obtain ⟨V1, sv1, bv1⟩ := slice_h (hi := K) HA.out (by omega) hca
    obtain ⟨V2, sv2, bv2⟩ := slice_lh (lo := K) (hi := N) HA.out hK (by omega) hca
    obtain ⟨V3, sv3, bv3⟩ := slice_h (hi := N) HA.out (by omega) hca
    have l1 : (a.take K).length ≤ maxLen := by unfold maxLen; simp; omega
    have l2 : ((a.take N).drop K).length ≤ maxLen := by unfold maxLen; simp; omega
    have l3 : (a.take N).length ≤ maxLen := by unfold maxLen; simp; omega
    have U1 := Lib.hid (up32 HT.out bv1 l1 hs rfl)
    have U2 := Lib.hid (up32 HT.out bv2 l2 (upd32_lt hs _) (two32 s a K N hK))
    have U3 := Lib.hid (up32 HT.out bv3 l3 hs rfl)
    have T1 := Lib.hid (up16 HT.out bv1 l1 ht rfl)
    have T2 := Lib.hid (up16 HT.out bv2 l2 (upd16_lt ht _) (two16 t a K N hK))
    have T3 := Lib.hid (up16 HT.out bv3 l3 ht rfl)
    clear l1 l2 l3 bv1 bv2 
    have BV3 := Lib.hid bv3; clear bv3
    generalize upd32 s (a.take K) = p1 at *
    generalize upd32 s (a.take N) = p2 at *
    generalize upd16 t (a.take K) = q1 at *
    generalize upd16 t (a.take N) = q2 at *
    go_enter Tryd.func9, Tryd.ntmps9
    go_wp2
    go_region_held3 (fun w' => Bel w w') (first | assumption | exact (Bel.refl w).drew | exact Bel.refl w)
      (first
        | ((go_at_call 17; with_reducible refine (U1.out _ (by assumption)).mono ?_); rintro e w' ⟨rfl, hw'⟩)
        | ((go_at_call 17; with_reducible refine (U2.out _ (by assumption)).mono ?_); rintro e w' ⟨rfl, hw'⟩)
        | ((go_at_call 17; with_reducible refine (U3.out _ (by assumption)).mono ?_); rintro e w' ⟨rfl, hw'⟩)
        | ((go_at_call 19; with_reducible refine (T1.out _ (by assumption)).mono ?_); rintro e w' ⟨rfl, hw'⟩)
        | ((go_at_call 19; with_reducible refine (T2.out _ (by assumption)).mono ?_); rintro e w' ⟨rfl, hw'⟩)
        | ((go_at_call 19; with_reducible refine (T3.out _ (by assumption)).mono ?_); rintro e w' ⟨rfl, hw'⟩))
    have HW := Lib.hid hw'
    obtain ⟨wm, hmk, hrow, hbm, hgm⟩ := make_zeros w' N (by omega)
    have hz := mix_len a b c N hNa hNb hNc
    have hL0 : Lst w (mix a b c N) w'.heap.size 0 wm := ⟨HW.out.step hbm, by rw [part_zero, hz]; exact hrow, hgm, Below.size HW.out⟩
    clear U1 U2 U3 T1 T2 T3 sv1 sv2 em em2 em3 hrow hbm hgm hw'
    have HL0 := Lib.hid hL0; clear hL0
    have Hz := Lib.hid hz; clear hz
    obtain ⟨g, hg⟩ : ∃ g, w'.heap.size = g := ⟨_, rfl⟩
    rw [hg] at hmk HL0
    clear hg
    go_wp2
    clear hmk HW
    go_loopw [16] (fun i wr => ∃ k : Nat, k ≤ N ∧ i = .int .i64 k ∧ Hid (Lst w (mix a b c N) g k wr)) (fun i _ => N - (intOf i).toNat)
    case atStart => exact ⟨0, Nat.zero_le _, rfl, HL0⟩
    case round =>
      clear HL0
      obtain ⟨k, hk, rfl, HL⟩ := hrel
      by_cases hlt : k < N
      · obtain ⟨ga, oa, hA1, hga, hca1⟩ := byt_cells HA.out (by omega)
        obtain ⟨gb, ob, hB1, hgb, hcb1⟩ := byt_cells HB.out (by omega)
        obtain ⟨gc, oc, hC1, hgc, hcc1⟩ := byt_cells HC.out (by omega)
        subst hA1; subst hB1; subst hC1
        have ea := (HL.out.below.cell (p := ⟨ga, oa + k, none⟩) hga).trans (hca1 k (by omega))
        have eb := (HL.out.below.cell (p := ⟨gb, ob + k, none⟩) hgb).trans (hcb1 k (by omega))
        have ec := (HL.out.below.cell (p := ⟨gc, oc + k, none⟩) hgc).trans (hcc1 k (by omega))
        obtain ⟨z0, er1, er2⟩ : ∃ z0 : Int, wr.cell? ⟨g, k, none⟩ = some (.int .u8 z0) ∧ wr.frozen? ⟨g, k, none⟩ = false := ⟨_, HL.out.row k (by rw [part_len (mix a b c N) k (by rw [Hz.out]; omega), Hz.out]; exact hlt)⟩
        have HL2 := Lib.hid (HL.out.step (x := bits .xor .u8 (bits .xor .u8 (a[k].toNat : Int) (b[k].toNat : Int)) (c[k].toNat : Int)) (by rw [Hz.out]; exact hlt) (by rw [xor3, mix_at a b c N k hNa hNb hNc hlt]))
        have i0 : (0 : Int) ≤ k := by omega
        have i1 : (k : Int) < N := by omega
        have i2 : (k : Int) < a.length := by omega
        have i3 : (k : Int) < b.length := by omega
        have i4 : (k : Int) < c.length := by omega
        clear hca1 hcb1 hcc1 HL hga hgb hgc sv3
        generalize a[k].toNat = x1 at *
        generalize b[k].toNat = x2 at *
        generalize c[k].toNat = x3 at *
        go_wp2
        go_region
        all_goals go_wp2
        all_goals go_roundw
        all_goals first | (simp [intOf]; omega) | exact ⟨k + 1, by omega, by go_num, HL2⟩
      · have e : k = N := by omega
        subst e
        have hL := HL.out
        have Hb := Lib.hid hL.below
        have hT := HT.out.below hL.below
        have hpa : part (mix a b c k) k = mix a b c k := by have := part_all (mix a b c k); rwa [Hz.out] at this
        have bx := hL.row
        rw [hpa] at bx
        have bx := bx.byt hL.hg (c := k) (by rw [Hz.out]; omega)
        rw [Hz.out] at bx
        obtain ⟨Vb, svb, bvb⟩ := slice_h (hi := k) HB.out (by omega) hcb
        obtain ⟨Vc, svc, bvc⟩ := slice_h (hi := k) HC.out (by omega) hcc
        have b3 := BV3.out.below hL.below
        have bvb := bvb.below hL.below
        have bvc := bvc.below hL.below
        have l1 : (mix a b c k).length ≤ maxLen := by rw [Hz.out]; unfold maxLen; omega
        have l2 : (a.take k).length ≤ maxLen := by unfold maxLen; simp; omega
        have l3 : (b.take k).length ≤ maxLen := by unfold maxLen; simp; omega
        have l4 : (c.take k).length ≤ maxLen := by unfold maxLen; simp; omega
        have X0 := Lib.hid (cr32 hT bx l1 rfl)
        have X1 := Lib.hid (cr32 hT b3 l2 rfl)
        have X2 := Lib.hid (cr32 hT bvb l3 rfl)
        have X3 := Lib.hid (cr32 hT bvc l4 rfl)
        have Y0 := Lib.hid (cr16 hT bx l1 rfl)
        have Y1 := Lib.hid (cr16 hT b3 l2 rfl)
        have Y2 := Lib.hid (cr16 hT bvb l3 rfl)
        have Y3 := Lib.hid (cr16 hT bvc l4 rfl)
        have KN := Lib.hid (kn hT)
        have t32 := three32 (a.take k) (b.take k) (c.take k) (by simp; omega) (by simp; omega)
        have t16 := three16 (a.take k) (b.take k) (c.take k) (by simp; omega) (by simp; omega)
        have r1 := crc32_lt (a.take k)
        have r2 := crc32_lt (b.take k)
        have r3 := crc32_lt (c.take k)
        have u1 := crc16_lt (a.take k)
        have u2 := crc16_lt (b.take k)
        have u3 := crc16_lt (c.take k)
        have t32' : crc32 (mix a b c k) = crc32 (a.take k) ^^^ crc32 (b.take k) ^^^ crc32 (c.take k) := t32
        have t16' : crc16 (mix a b c k) = crc16 (a.take k) ^^^ crc16 (b.take k) ^^^ crc16 (c.take k) := t16
        clear t32 t16 hL bx b3 bvb bvc l1 l2 l3 l4 hT HL hpa
        generalize crc32 (mix a b c k) = x0 at *
        generalize crc32 (a.take k) = x1 at *
        generalize crc32 (b.take k) = x2 at *
        generalize crc32 (c.take k) = x3 at *
        generalize crc16 (mix a b c k) = y0 at *
        generalize crc16 (a.take k) = y1 at *
        generalize crc16 (b.take k) = y2 at *
        generalize crc16 (c.take k) = y3 at *
        have e1 := u32_xor_nat x1 x2 r1 r2
        have m1 : x1 ^^^ x2 < 4294967296 := Nat.xor_lt_two_pow (n := 32) r1 r2
        have e2 := u32_xor_nat (x1 ^^^ x2) x3 m1 r3
        rw [← t32'] at e2
        have f1 := u16_xor_nat y1 y2 u1 u2
        have m2 : y1 ^^^ y2 < 65536 := Nat.xor_lt_two_pow (n := 16) u1 u2
        have f2 := u16_xor_nat (y1 ^^^ y2) y3 m2 u3
        rw [← t16'] at f2
        clear t32' t16' m1 m2 r1 r2 r3 u1 u2 u3
        generalize x1 ^^^ x2 = x12 at *
        generalize y1 ^^^ y2 = y12 at *
        go_wp2
        go_region_held3 (fun w' => Bel wr w') (first | assumption | exact (Bel.refl wr).drew | exact Bel.refl wr)
          (first
            | ((go_at_call 12; with_reducible refine (X0.out _ (by assumption)).mono ?_); rintro e w' ⟨rfl, hw'⟩)
            | ((go_at_call 12; with_reducible refine (X1.out _ (by assumption)).mono ?_); rintro e w' ⟨rfl, hw'⟩)
            | ((go_at_call 12; with_reducible refine (X2.out _ (by assumption)).mono ?_); rintro e w' ⟨rfl, hw'⟩)
            | ((go_at_call 12; with_reducible refine (X3.out _ (by assumption)).mono ?_); rintro e w' ⟨rfl, hw'⟩)
            | ((go_at_call 15; with_reducible refine (Y0.out _ (by assumption)).mono ?_); rintro e w' ⟨rfl, hw'⟩)
            | ((go_at_call 15; with_reducible refine (Y1.out _ (by assumption)).mono ?_); rintro e w' ⟨rfl, hw'⟩)
            | ((go_at_call 15; with_reducible refine (Y2.out _ (by assumption)).mono ?_); rintro e w' ⟨rfl, hw'⟩)
            | ((go_at_call 15; with_reducible refine (Y3.out _ (by assumption)).mono ?_); rintro e w' ⟨rfl, hw'⟩)
            | ((go_at_call 10; with_reducible refine (KN.out _ (by assumption)).mono ?_); rintro e w' ⟨rfl, hw'⟩))
        have HW := Lib.hid (Hb.out.trans (Below.mono hw' (Below.size Hb.out)))
        go_wp2
        go_ret
        exact ⟨rfl, HW.out⟩

set_option maxRecDepth 100000 in
theorem lifted (os : Os) (started : os.Started) (H : Type) (enc : TypeId × Value → H) :
    ReturnsInHanded {} Tryd.checked os 9 .any (fun w args => (Rows.digestLinearSpec.pre enc Tryd.prog Tryd.f9 Rows.digestLinearRow.domain false w args ∧ laidMetH Tryd.prog Rows.digestLinearRow.laid w) ∧ sizedMet enc Tryd.prog Tryd.f9 (OpenSpec.ofChange Rows.digestLinearSpec) false w args)
      (Rows.digestLinearSpec.post enc Tryd.prog Tryd.f9 false true false false) := by
  refine returnsInHanded_of_change_and (C := Tryd.checked) (X := fun w _ => laidMetH Tryd.prog Rows.digestLinearRow.laid w) (fun _ _ _ hh h => h.of_heap hh) own started (by kernel_rfl) Tryd.func9
    (ChangeSpec.witness_shaped (enc := enc) (C := Tryd.checked) (os := os) (X := fun w _ => laidMetH Tryd.prog Rows.digestLinearRow.laid w) false (World.laidAll Tryd.prog os Rows.digestLinearRow.laid) #[.int .u32 0, .int .u16 0, .slice none 0 0, .slice none 0 0, .slice none 0 0, .int .i64 0] 8 (World.laidAll_os _ _ _)
      (World.shaped_of_ZipB (by kernel_rfl) (by kernel_rfl)) (by kernel_rfl) (by kernel_rfl) (by kernel_rfl)
      (by rw [MakeChecks.laidMetH_plain _ _ _ (by kernel_rfl)]; exact laidMet_laidAll _ (by kernel_rfl) (by kernel_rfl))) ?_
  intro W base args ds gs before hval0 hW _ hsz hL _
  have hval : ∀ (j : Nat) t v, Tryd.f9.params[j]? = some t → args[j]? = some v → Value.okWide Tryd.prog W .any base t v := hval0
  have hW' := hW
  have hlt := hW.lt
  obtain ⟨p, q, hA0, hV, rfl, _, _⟩ := hW
  have hA : DataW.TrodAll enc Tryd.prog W 0 (fun _ => true) true Tryd.f9.params.toList args.toList ds p := hA0
  have hAk := hA
  rw [Tryd.params9] at hA hval
  obtain ⟨v0, vs0, d0, ds0, p0, q0, hargs, rfl, rfl, h0, r0⟩ := trodAll_cons hA
  obtain ⟨v1, vs1, d1, ds1, p1, q1, rfl, rfl, rfl, h1, r1⟩ := trodAll_cons r0
  obtain ⟨v2, vs2, d2, ds2, p2, q2, rfl, rfl, rfl, h2, r2⟩ := trodAll_cons r1
  obtain ⟨v3, vs3, d3, ds3, p3, q3, rfl, rfl, rfl, h3, r3⟩ := trodAll_cons r2
  obtain ⟨v4, vs4, d4, ds4, p4, q4, rfl, rfl, rfl, h4, r4⟩ := trodAll_cons r3
  obtain ⟨v5, vs5, d5, ds5, p5, q5, rfl, rfl, rfl, h5, r5⟩ := trodAll_cons r4
  obtain ⟨rfl, rfl, rfl⟩ := trodAll_nil r5
  obtain rfl : args = #[v0, v1, v2, v3, v4, v5] := by cases args; simp_all
  obtain ⟨rfl, rfl⟩ := trodVars_none hV
  obtain ⟨a0, rfl, rfl, rfl, w0⟩ := open_int Tryd.underlying25 (hval 0 25 v0 rfl rfl) h0
  obtain ⟨a1, rfl, rfl, rfl, w1⟩ := open_int Tryd.underlying29 (hval 1 29 v1 rfl rfl) h1
  obtain ⟨la, hBa, hma⟩ := open_byt (hval 2 22 v2 rfl rfl) h2
  obtain ⟨lb, hBb, hmb⟩ := open_byt (hval 3 22 v3 rfl rfl) h3
  obtain ⟨lc, hBc, hmc⟩ := open_byt (hval 4 22 v4 rfl rfl) h4
  obtain ⟨a5, rfl, rfl, rfl, w5⟩ := open_int Tryd.underlying3 (hval 5 3 v5 rfl rfl) h5
  have hb0 := bounds_u32 w0
  have hb1 := bounds_u16 w1
  have hb5 := bounds_i64 w5
  obtain ⟨s, rfl⟩ := Int.eq_ofNat_of_zero_le hb0.1
  obtain ⟨t, rfl⟩ := Int.eq_ofNat_of_zero_le hb1.1
  refine (walk s t v2 v3 v4 la lb lc a5 W (by omega) (by omega) hBa hBb hBc hma hmb hmc (tabs_of_laid hL)).mono fun e W' ⟨he, hb⟩ => ?_
  subst he
  exact ⟨_, rfl, _, _, _, [], _, [], hW', trodAll_mk1 (shut_bool Tryd.underlying4 _), args_back hb (by kernel_rfl) hAk (fun x hx => hlt x (List.mem_append_left _ hx)), rfl, hb.frame _, fun h => by cases h⟩

theorem holds : Rows.DigestLinearSaid :=
  OpenClaim.holds_of_wide 9 Tryd.f9 rfl rfl rfl rfl rfl rfl rfl ⟨rfl, rfl, rfl, rfl, rfl⟩ rfl rfl rfl rfl rfl (by kernel_rfl) Tryd.func9 (by kernel_rfl)
    (of_decide_eq_true (by kernel_rfl)) (by unfold Func.isWrapper; first | (rw [if_pos (by decide +kernel)]; kernel_rfl) | (rw [if_neg (by decide +kernel)]; exact ⟨rfl, rfl⟩))
    (fun os started H enc _ => lifted os started H enc)
theorem card_holds : Rows.DigestLinearCardSaid :=
  Claim7.holds_tied_plain_at .later [] [.data, .data] true Rows.digestLinearCard.stood.harness false holds (fun _ h => by cases h) (by kernel_rfl) (fun _ h => by cases h) digestLinear_row_tie rfl ⟨rfl, rfl⟩ (by kernel_rfl) rfl
    (fun f fn hf hfn => by
      obtain rfl : f = 9 := Option.some.inj ((show Tryd.prog.funcNamed Rows.digestLinearRow.func = some 9 by kernel_rfl).symm.trans hf) |>.symm
      obtain rfl : fn = Tryd.f9 := (Option.some.inj (Tryd.func9.symm.trans hfn)).symm
      exact ⟨by kernel_rfl, fun j t ht => by
        rw [Tryd.params9] at ht
        have hm : t ∈ [25, 29, 22, 22, 22, 3] := by simpa using Array.mem_of_getElem? ht
        have hall : ([25, 29, 22, 22, 22, 3].all fun u => !Tryd.prog.wantsStandIn u) = true := by kernel_rfl
        exact (show Tryd.prog.wantsStandIn t = false by simpa using List.all_eq_true.1 hall t hm)⟩)
    (by kernel_rfl)
end Go.Proofs.YtijbkjkienjdaaaDoor.DigestLinear
namespace Go.Proofs.YtijbkjkienjdaaaDoor
theorem digestLinear_card : Rows.DigestLinearCardSaid := DigestLinear.card_holds
end Go.Proofs.YtijbkjkienjdaaaDoor
