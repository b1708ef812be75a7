/- The walk of VictimHolds. No condition on the arguments. -/
import Derived.Test.YtfcddkehodceaaaL
import Derived.Deep.RegionWith
namespace Go.Proofs.Ytfcddkehodceaaa
open Go.RowKit
set_option linter.unusedVariables false
set_option maxHeartbeats 8000000
set_option maxRecDepth 100000
attribute [local go_sem ↓ 100000] builtin_appX
theorem err_use {y : Cd} (h : y.err = 0) : y.use := by
  unfold Cd.err at h
  by_cases ho : y.ok
  · rw [if_pos ho] at h
    by_cases hv : y.va = y.pa
    · rw [if_pos hv] at h; omega
    · exact ⟨ho, by have := ho.2.2.2.1; omega⟩
  · rw [if_neg ho] at h; omega
theorem score_cmp {x y : Cd} (hx : x.use) (hy : y.use) (h : Sge x y) : y.num * x.den ≤ x.num * y.den ∧ (y.den = 0 → x.den = 0) ∧ IntKind.i64.wrap (y.num * x.den) = y.num * x.den ∧ IntKind.i64.wrap (x.num * y.den) = x.num * y.den := by
  obtain ⟨a1, a2, a3, a4, a5⟩ := x.use_bd hx
  obtain ⟨b1, b2, b3, b4, b5⟩ := y.use_bd hy
  refine ⟨h, fun h0 => ?_, (mul_bd b1 b2 a3 a4).2.2, (mul_bd a1 a2 b3 b4).2.2⟩
  have h' := h
  unfold Sge at h'
  rw [h0, b5 h0] at h'
  simp at h'
  omega
theorem holds_any (v0 : Value) (l : List Cd) (rot : Int) (w : World) (hv : Cs w v0 l) : Calls Try.prog 7 #[v0, .int .i64 rot] w (RetB w (.bool true)) := by
  have hv0 := hv
  obtain ⟨A0, c0, rfl, hA⟩ := hv
  have HWK := Lib.hid works_any
  have hN : ∀ x W, Calls Try.prog 10 #[.int .i64 x] W (RetB W (.int .i64 x)) := fun x W => retB_of (num_any x W)
  have HN := Lib.hid hN
  clear hN hA
  by_cases h1 : 30 < l.length
  · have h1z : (30 : Int) < (l.length : Int) := by omega
    clear hv0
    go_enter Try.func7, Try.ntmps7
    go_wp2_with ((go_at_call 13; (with_reducible refine (HWK.out _).mono ?_)); rintro e w2 ⟨rfl, hb2⟩; have HB2 := Lib.hid hb2; clear hb2)
    go_ret
    exact ⟨rfl, HB2.out⟩
  have h1z : (l.length : Int) ≤ 30 := by omega
  have hb0 : Below w.heap.size w (w.alloc (.cells #[] 23)) := (Below.refl _ _).alloc (Nat.le_refl _) _
  obtain ⟨A, c, w2, hrun, ho2, hg2⟩ := app_cs (w.alloc (.cells #[] 23)) w.heap.size 0 (.slice (some ⟨w.heap.size, 0, none⟩) 0 0) _ [] l (World.ownsRow_made w #[] 0 (Nat.le_refl _) (Nat.zero_le _) (by simp)) (hv0.below hb0) (by omega) (by simp)
  simp only [Nat.zero_add, List.nil_append] at hrun ho2
  have hb2 : Below w.heap.size w w2 := hb0.trans ⟨hg2.os, hg2.tape, hg2.output, hg2.size, fun k hk => hg2.block k (by simp; omega) (fun e => by simp [Value.ownBlock] at e; omega)⟩
  have HRUN := Lib.hid hrun
  have HO2 := Lib.hid ho2
  have HB2 := Lib.hid hb2
  clear hrun ho2 hg2 hb2 hb0 hv0
  by_cases hnil : l = []
  · subst hnil
    have HCH := Lib.hid (show Calls Try.prog 14 #[.slice A 0 c] w2 (ChPost w2 []) from Choose_any w2 _ [] (Cs_of_own HO2.out).2 (by decide))
    unfold ChPost at HCH
    have HEN : Hid (∀ D : List Rk, D.Perm (rankR []) → chE [] D = 9) := fun D hD => by
      have : D = [] := hD.eq_nil
      subst this; rfl
    go_enter Try.func7, Try.ntmps7
    go_wp2_with (at_builtin; refine Lib.wpList_append_run _ rfl (.tmp 24) (.tmp 25) 33 33 rfl _ _ rfl rfl _ w2 HRUN.out ?_)
    refine wp_loop_rounds 1 ?_
    rw [rounds_succ]
    go_wp2_with (first
      | ((go_at_call 14; (with_reducible refine HCH.out.mono ?_)); rintro e w3 ⟨hb3, D, hD, hq, rfl⟩; have HB3 := Lib.hid hb3; rw [HEN.out D hD]; clear hb3)
      | ((go_at_call 10; (with_reducible refine (HN.out _ _).mono ?_)); rintro e w4 ⟨rfl, hb4⟩; have HB4 := Lib.hid hb4; clear hb4)
      | ((go_at_call 13; (with_reducible refine (HWK.out _).mono ?_)); rintro e w5 ⟨rfl, hb5⟩; have HB5 := Lib.hid hb5; clear hb5))
    go_ret
    exact ⟨rfl, HB2.out.trans ((HB3.out.trans ((HB4.out.trans (HB5.out.mono HB4.out.size)).mono HB3.out.size)).mono HB2.out.size)⟩
  · have hpos : 0 < l.length := List.length_pos_iff.2 hnil
    have hposz : (0 : Int) < (l.length : Int) := by omega
    obtain ⟨g, rfl⟩ : ∃ g, A = some ⟨g, 0, none⟩ := by
      rcases HO2.out.2 with ⟨h, _⟩ | ⟨g, cap, cur, h, _⟩
      · simp only [Value.slice.injEq] at h; omega
      · simp only [Value.slice.injEq] at h; exact ⟨g, h.1⟩
    have hcap : l.length ≤ c := by
      rcases HO2.out.2 with ⟨h, _⟩ | ⟨g', cap, cur, h, _, _, hnc, _⟩
      · cases h
      · simp only [Value.slice.injEq] at h; omega
    obtain ⟨-, hrow, hgb⟩ := RowC.of_own HO2.out
    have HR := Lib.hid hrow
    clear hrow hnil HO2
    go_enter Try.func7, Try.ntmps7
    go_wp2_with (at_builtin; refine Lib.wpList_append_run _ rfl (.tmp 24) (.tmp 25) 33 33 rfl _ _ rfl rfl _ w2 HRUN.out ?_)
    go_loopw [6] (fun i wr => ∃ k : Nat, k ≤ l.length ∧ i = .int .i64 k ∧ Hid (RowC wr g (blK l k)) ∧ Hid (Below w.heap.size w wr)) (fun i _ => l.length - (RowKit.intOf i).toNat)
    case atStart => exact ⟨0, Nat.zero_le _, rfl, by rw [blK_zero]; exact HR, HB2⟩
    case round =>
      clear HRUN HR
      obtain ⟨k, hk, rfl, HR, HB⟩ := hrel
      have hkz : (k : Int) ≤ (l.length : Int) := by omega
      by_cases hlt : k < l.length
      · have hltz : (k : Int) < (l.length : Int) := by omega
        have hkb : k < (blK l k).length := by rw [blK_len]; exact hlt
        have c0 := (HR.out.el k hkb).c0
        have f0 := HR.out.slot hkb
        have hset := HR.out.bl hkb (k : Int)
        rw [← blK_succ l k hkb] at hset
        have HS := Lib.hid hset
        clear hset
        go_wp2
        go_roundw
        case rel => exact ⟨k + 1, by omega, by go_num, HS, HB.out.setCell hgb _⟩
        case measure => simp [RowKit.intOf]; omega
      · have hkl : k = l.length := by omega
        subst hkl
        have hL := blK_len l l.length
        have hbl := blK_bl l
        obtain ⟨L, hLL⟩ : ∃ L, L = blK l l.length := ⟨_, rfl⟩
        rw [← hLL] at HR hL hbl
        have HBL := Lib.hid hbl
        obtain ⟨n, hn⟩ : ∃ n, n = l.length := ⟨_, rfl⟩
        rw [← hn] at hL h1z hpos hposz hcap
        have hcs : Cs wr (.slice (some ⟨g, 0, none⟩) n c) L := by rw [← hL]; exact HR.out.cs
        have HCH := Lib.hid (Choose_any wr _ L hcs (by omega))
        clear hLL hbl hcs hk hkz hlt HB2
        rw [← hn]
        clear hn
        unfold ChPost at HCH
        go_upto_region 9 with ((go_at_call 14; (with_reducible refine HCH.out.mono ?_)); rintro e w3 ⟨hb3, D, hD, hq, rfl⟩; have HB3 := Lib.hid hb3; have HD := Lib.hid (And.intro hD hq); clear hb3 hD hq)
        by_cases he : chE L D = 0
        · obtain ⟨i, hi, hki, hui, hok, hfirst⟩ := ch_first HD.out.1 HD.out.2 he
          rw [he, hki]
          have hin : i < n := by omega
          have hiz : (i : Int) < (n : Int) := by omega
          have HF := Lib.hid hfirst
          have HOKL := Lib.hid hok
          have hr3 := HR.out.below HB3.out
          have hx := hr3.el i hi
          obtain ⟨x, hxx⟩ : ∃ x, x = L[i] := ⟨_, rfl⟩
          rw [← hxx] at hx hui
          have HX := Lib.hid hxx
          have HR3 := Lib.hid hr3
          have HB03 := Lib.hid (HB.out.trans (HB3.out.mono HB.out.size))
          have HUX := Lib.hid hui
          have HCO := Lib.hid hx
          have hgl := hr3.lt
          have hsc : ∀ W, Calls Try.prog 8 #[x.v] W (RetB W (.tuple #[.int .i64 x.num, .int .i64 x.den, .int .i64 0])) := fun W => by
            have := score_any x W
            unfold Cd.n Cd.d Cd.err at this
            rw [if_pos hui, if_pos hui, if_pos hui.1, if_neg (by have := hui.2; omega)] at this
            exact this
          have HSC := Lib.hid hsc
          clear hsc hxx hx hr3 hfirst hok hki he HCH HD HR hui
          obtain ⟨x0, hx0⟩ : ∃ x0, x0 = x := ⟨_, rfl⟩
          rw [← hx0] at HX HUX
          have hpq : Hid (Cd.num x0 = Cd.num x ∧ Cd.den x0 = Cd.den x) := by rw [hx0]; exact ⟨rfl, rfl⟩
          clear hx0
          obtain ⟨bl, va, pa, ag⟩ := x
          generalize hn : Cd.num ⟨bl, va, pa, ag⟩ = p at *
          generalize hd : Cd.den ⟨bl, va, pa, ag⟩ = q at *
          clear hn hd
          simp only [Cd.v] at *
          go_upto_region 11 with ((go_at_call 10; (with_reducible refine (HN.out 0 _).mono ?_)); rintro e w4 ⟨rfl, hb4⟩; have hxd := HCO.out.below hb4 hgl; have c0 := hxd.c0; have c1 := hxd.c1; have c2 := hxd.c2; have c3 := hxd.c3; have HB4 := Lib.hid hb4; clear hb4 hxd)
          go_wp2_with (first
            | ((go_at_call 8; (with_reducible refine (HSC.out _).mono ?_)); rintro e w5 ⟨rfl, hb5⟩; have HB5 := Lib.hid hb5; clear hb5)
            | ((go_at_call 10; (with_reducible refine (HN.out 0 _).mono ?_)); rintro e w6 ⟨rfl, hb6⟩; have HB6 := Lib.hid hb6; clear hb6))
          have hb46 : Below w3.heap.size w3 w6 := HB4.out.trans ((HB5.out.trans (HB6.out.mono HB5.out.size)).mono HB4.out.size)
          have HB06 := Lib.hid (HB03.out.trans (hb46.mono HB03.out.size))
          have HR6 := Lib.hid (HR3.out.below hb46)
          clear hb46 HB4 HB5 HB6 c0 c1 c2 c3 HR3 HB03 HCO
          go_loopw [12] (fun t wr => ∃ j : Nat, j ≤ n ∧ t = .int .i64 j ∧ Hid (RowC wr g L) ∧ Hid (Below w.heap.size w wr)) (fun t _ => n - (RowKit.intOf t).toNat)
          case atStart => exact ⟨0, Nat.zero_le _, rfl, HR6, HB06⟩
          case round =>
            clear HR6 HB06 HSC
            obtain ⟨j, hj, rfl, HR, HB⟩ := hrel
            have hjz : (j : Int) ≤ (n : Int) := by omega
            by_cases hlt : j < n
            · have hltz : (j : Int) < (n : Int) := by omega
              have hjL : j < L.length := by omega
              have hy := HR.out.el j hjL
              have hfst := HF.out j hjL
              obtain ⟨y, hyy⟩ : ∃ y, y = L[j] := ⟨_, rfl⟩
              rw [← hyy] at hy hfst
              have d0 := hy.c0; have d1 := hy.c1; have d2 := hy.c2; have d3 := hy.c3
              have HSY := Lib.hid (fun W => score_any y W)
              have HIJ : Hid (j = i → y = x0) := fun h => by subst h; rw [hyy, HX.out]
              have hcmp : y.err = 0 → y.n = y.num ∧ y.d = y.den ∧ y.num * x0.den ≤ x0.num * y.den ∧ (y.den = 0 → x0.den = 0) ∧ IntKind.i64.wrap (y.num * x0.den) = y.num * x0.den ∧ IntKind.i64.wrap (x0.num * y.den) = x0.num * y.den := fun he => by
                have hu := err_use he
                have hS : Sge x0 y := by
                  rcases hfst hu with h | h
                  · rw [HIJ.out h]; exact (Sge.total x0 x0).elim id id
                  · rw [← HX.out] at h; exact Qr.sge h
                exact ⟨if_pos hu, if_pos hu, score_cmp HUX.out hu hS⟩
              rw [hpq.out.1, hpq.out.2] at hcmp
              have HC := Lib.hid hcmp
              clear hfst hcmp hy hyy HIJ
              by_cases he : y.err = 0
              · obtain ⟨e1, e2, e3, e4, e5, e6⟩ := HC.out he
                rw [he, e1, e2] at HSY
                have HNN := HN.out 0
                clear HC e1 e2 he
                obtain ⟨ybl, yva, ypa, yag⟩ := y
                generalize Cd.num ⟨ybl, yva, ypa, yag⟩ = r at *
                generalize Cd.den ⟨ybl, yva, ypa, yag⟩ = s at *
                simp only [Cd.v] at *
                obtain ⟨X, hX⟩ : ∃ X, r * q = X := ⟨_, rfl⟩
                obtain ⟨Y, hY⟩ : ∃ Y, p * s = Y := ⟨_, rfl⟩
                rw [hX] at e3 e5
                rw [hY] at e3 e6
                by_cases hs : s = 0
                · have hq0 := e4 hs
                  have HXX := Lib.hid hX
                  have HYY := Lib.hid hY
                  clear e4 hX hY
                  subst hs
                  subst hq0
                  go_wp2_with (first
                    | ((go_at_call 8; (with_reducible refine (HSY.out _).mono ?_)); rintro e w7 ⟨rfl, hb7⟩; have HB7 := Lib.hid hb7; clear hb7)
                    | ((go_at_call 10; (with_reducible refine (HN.out 0 _).mono ?_)); rintro e w8 ⟨rfl, hb8⟩; have HB8 := Lib.hid (HB7.out.trans (hb8.mono HB7.out.size)); clear hb8))
                  go_roundw
                  case rel => exact ⟨j + 1, by omega, by go_num, HR.out.below HB8.out, HB.out.trans (HB8.out.mono HB.out.size)⟩
                  case measure => simp [RowKit.intOf]; omega
                · have hs2 : (s == 0) = false := by simpa using hs
                  by_cases hq : q = 0
                  · have HXX := Lib.hid hX
                    have HYY := Lib.hid hY
                    clear e4 hX hY
                    subst hq
                    go_wp2_with (first
                      | ((go_at_call 8; (with_reducible refine (HSY.out _).mono ?_)); rintro e w7 ⟨rfl, hb7⟩; have HB7 := Lib.hid hb7; clear hb7)
                      | ((go_at_call 10; (with_reducible refine (HN.out 0 _).mono ?_)); rintro e w8 ⟨rfl, hb8⟩; have HB8 := Lib.hid (HB7.out.trans (hb8.mono HB7.out.size)); clear hb8))
                    go_roundw
                    case rel => exact ⟨j + 1, by omega, by go_num, HR.out.below HB8.out, HB.out.trans (HB8.out.mono HB.out.size)⟩
                    case measure => simp [RowKit.intOf]; omega
                  · clear e4
                    go_wp2_with (first
                      | ((go_at_call 8; (with_reducible refine (HSY.out _).mono ?_)); rintro e w7 ⟨rfl, hb7⟩; have HB7 := Lib.hid hb7; clear hb7)
                      | ((go_at_call 10; (with_reducible refine (HN.out 0 _).mono ?_)); rintro e w8 ⟨rfl, hb8⟩; have HB8 := Lib.hid (HB7.out.trans (hb8.mono HB7.out.size)); clear hb8))
                    go_roundw
                    case rel => exact ⟨j + 1, by omega, by go_num, HR.out.below HB8.out, HB.out.trans (HB8.out.mono HB.out.size)⟩
                    case measure => simp [RowKit.intOf]; omega
              · generalize y.err = er at *
                clear HC
                obtain ⟨ybl, yva, ypa, yag⟩ := y
                generalize Cd.n ⟨ybl, yva, ypa, yag⟩ = r at *
                generalize Cd.d ⟨ybl, yva, ypa, yag⟩ = s at *
                simp only [Cd.v] at *
                go_wp2_with (first
                  | ((go_at_call 8; (with_reducible refine (HSY.out _).mono ?_)); rintro e w7 ⟨rfl, hb7⟩; have HB7 := Lib.hid hb7; clear hb7)
                  | ((go_at_call 10; (with_reducible refine (HN.out _ _).mono ?_)); rintro e w8 ⟨rfl, hb8⟩; have HB8 := Lib.hid (HB7.out.trans (hb8.mono HB7.out.size)); clear hb8))
                go_roundw
                case rel => exact ⟨j + 1, by omega, by go_num, HR.out.below HB8.out, HB.out.trans (HB8.out.mono HB.out.size)⟩
                case measure => simp [RowKit.intOf]; omega
            · have hjn : j = n := by omega
              subst hjn
              go_wp2
              obtain ⟨m, hm1, hm2⟩ : ∃ m : Nat, wrap64 ((IntKind.u64.wrap rot).tmod (j : Int)) = (m : Int) ∧ m < j := by
                have k0 : 0 ≤ IntKind.u64.wrap rot := by rw [IntKind.wrap_u64]; omega
                have k1 : 0 ≤ (IntKind.u64.wrap rot).tmod (j : Int) := Int.tmod_nonneg _ k0
                have k2 : (IntKind.u64.wrap rot).tmod (j : Int) < (j : Int) := Int.tmod_lt_of_pos _ hposz
                generalize (IntKind.u64.wrap rot).tmod (j : Int) = z at *
                refine ⟨z.toNat, ?_, by omega⟩
                unfold wrap64
                omega
              rw [hm1]
              clear hm1
              have hcs : Cs wr (.slice (some ⟨g, 0, none⟩) L.length c) L := HR.out.cs
              have hdr : Below wr.heap.size wr (wr.alloc (.cells #[] 23)).drew := ((Below.refl _ _).alloc (Nat.le_refl _) _).drew
              obtain ⟨V1, hV1, hC1⟩ := cs_slice_l (lo := m) hcs (by omega) (by omega)
              obtain ⟨V2, hV2, hC2⟩ := cs_slice_h (hi := m) hcs (by omega) (by omega)
              rw [hL] at hV1 hV2
              have hws := HB.out.size
              obtain ⟨A1, c1, W2, r1, o1, g1⟩ := app_cs (wr.alloc (.cells #[] 23)).drew wr.heap.size 0 (.slice (some ⟨wr.heap.size, 0, none⟩) 0 0) V1 [] (L.drop m) (World.ownsRow_made wr #[] 0 (Nat.le_refl _) (Nat.zero_le _) (by simp)) (hC1.below hdr) (by simp; omega) (by simp)
              have hb12 : Below wr.heap.size wr W2 := hdr.trans ⟨g1.os, g1.tape, g1.output, g1.size, fun k hk => g1.block k (by simp; omega) (fun e => by simp [Value.ownBlock] at e; omega)⟩
              simp only [Nat.zero_add, List.nil_append] at r1 o1
              obtain ⟨A2, c2, W3, r2, o2, g2⟩ := app_cs W2 wr.heap.size (L.drop m).length _ V2 (L.drop m) (L.take m) o1 (hC2.below hb12) (by simp; omega) hb12.size
              have hb13 : Below wr.heap.size wr W3 := hb12.trans ⟨g2.os, g2.tape, g2.output, g2.size, fun k hk => g2.block k (by have := hb12.size; omega) (fun e => by have := (o1.lt k e.symm).1; omega)⟩
              have hlen : (L.drop m).length + (L.take m).length = j := by simp; omega
              rw [hlen] at r2 o2
              have R1 := appX_run r1
              have R2 := appX_run r2
              have hmem : ∀ c, c ∈ L.drop m ++ L.take m ↔ c ∈ L := fun c => by
                rw [List.mem_append]
                constructor
                · rintro (h | h)
                  · exact List.mem_of_mem_drop h
                  · exact List.mem_of_mem_take h
                · intro h
                  rw [← List.take_append_drop m L] at h
                  rcases List.mem_append.1 h with h | h
                  · exact .inr h
                  · exact .inl h
              obtain ⟨L2, hL2⟩ : ∃ L2, L2 = L.drop m ++ L.take m := ⟨_, rfl⟩
              rw [← hL2] at o2 hmem
              obtain ⟨gg, rfl⟩ : ∃ gg, A2 = some ⟨gg, 0, none⟩ := by
                rcases o2.2 with ⟨h, _⟩ | ⟨gg, cap, cur, h, _⟩
                · simp only [Value.slice.injEq] at h; omega
                · simp only [Value.slice.injEq] at h; exact ⟨gg, h.1⟩
              obtain ⟨hj2, hrow2, -⟩ := RowC.of_own o2
              have hcs2 : Cs W3 (.slice (some ⟨gg, 0, none⟩) j c2) L2 := by rw [hj2]; exact hrow2.cs
              have HCH2 := Lib.hid (Choose_any W3 _ L2 hcs2 (by omega))
              have HROW2 := Lib.hid hrow2
              have HB3 := Lib.hid hb13
              have HMEM := Lib.hid hmem
              have HJ2 := Lib.hid hj2
              generalize (L.drop m).length = dl at *
              clear hlen hL2 o2 o1 r1 r2 g1 g2 hb12 hb13 hC1 hC2 hcs hcs2 hrow2 hmem hj2 hdr hws hj hlt hjz
              have hmz : (m : Int) < (j : Int) := by omega
              go_region
              clear R1 R2 hV1 hV2
              unfold ChPost at HCH2
              go_wp2_with ((go_at_call 14; (with_reducible refine HCH2.out.mono ?_)); rintro e w7 ⟨hb7, D2, hD2, hq2, rfl⟩; have HB7 := Lib.hid hb7; have HD2 := Lib.hid (And.intro hD2 hq2); clear hb7 hD2 hq2)
              have hxm : x0 ∈ L := by rw [HX.out]; exact List.getElem_mem _
              have hz2 : chE L2 D2 = 0 := chE_zero HD2.out.1 (fun c hc => HOKL.out c ((HMEM.out c).1 hc)) ((HMEM.out _).2 hxm) HUX.out
              obtain ⟨i2, hi2, hk2, hu2, -, hf2⟩ := ch_first HD2.out.1 HD2.out.2 hz2
              have hsame : L2[i2] = x0 := by
                rw [HX.out]
                exact turned_same hi hi2 HMEM.out HBL.out (by rw [← HX.out]; exact HUX.out) hu2 HF.out hf2
              rw [hz2, hk2]
              have hi2j : i2 < j := by have := HJ2.out; omega
              have hi2z : (i2 : Int) < (j : Int) := by omega
              have hca := (HROW2.out.below HB7.out).el i2 hi2
              rw [hsame] at hca
              have hcb := ((HR.out.below HB3.out).below HB7.out).el i hi
              rw [← HX.out] at hcb
              have hga := (HROW2.out.below HB7.out).lt
              have hgb2 := ((HR.out.below HB3.out).below HB7.out).lt
              have HCA := Lib.hid hca
              have HCB := Lib.hid hcb
              clear hsame hz2 hk2 hu2 hf2 hi2 hxm hca hcb HCH2 HD2
              obtain ⟨xb, xv, xp, xg⟩ := x0
              have hne := bw_ne w7
              have c0 := fun r : Bw w7 => (HCA.out.below r.h hga).c0
              have c1 := fun r : Bw w7 => (HCA.out.below r.h hga).c1
              have c2 := fun r : Bw w7 => (HCA.out.below r.h hga).c2
              have c3 := fun r : Bw w7 => (HCA.out.below r.h hga).c3
              have d0 := fun r : Bw w7 => (HCB.out.below r.h hgb2).c0
              have d1 := fun r : Bw w7 => (HCB.out.below r.h hgb2).c1
              have d2 := fun r : Bw w7 => (HCB.out.below r.h hgb2).c2
              have d3 := fun r : Bw w7 => (HCB.out.below r.h hgb2).c3
              refine wp_region_bw (by kernel_rfl) (by kernel_rfl) ?_
              repeat (go_big_quiet_step ((first | (go_at_call 10; exact bw_of _ (HN.out _ _)) | (go_at_call 13; exact bw_of _ (HWK.out _)))))
              refine wpQuiet_nil ?_
              rintro w8 ⟨⟨_, hb8⟩, rfl⟩
              go_wp2
              go_ret
              exact ⟨by simp, HB.out.trans ((HB3.out.trans ((HB7.out.trans (hb8.mono HB7.out.size)).mono HB3.out.size)).mono HB.out.size)⟩
        · have hez : ¬ (chE L D = 0) := he
          generalize chE L D = ee at *
          generalize chK D = kk at *
          go_wp2_with (first
            | ((go_at_call 10; (with_reducible refine (HN.out _ _).mono ?_)); rintro e w4 ⟨rfl, hb4⟩; have HB4 := Lib.hid hb4; clear hb4)
            | ((go_at_call 13; (with_reducible refine (HWK.out _).mono ?_)); rintro e w5 ⟨rfl, hb5⟩; have HB5 := Lib.hid hb5; clear hb5))
          go_ret
          exact ⟨rfl, HB.out.trans ((HB3.out.trans ((HB4.out.trans (HB5.out.mono HB4.out.size)).mono HB3.out.size)).mono HB.out.size)⟩
end Go.Proofs.Ytfcddkehodceaaa
