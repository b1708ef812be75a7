/- DigestBursts: for every slice of bytes, every index of a bit and every pattern the law returns true, and its arguments read as before; the row, and the card that ties both tables of package digest to the program's text. No condition. -/
import Derived.Test.YtijbkjkienjdaaaDoorS
import Derived.Test.YtijbkjkienjdaaaDoorTie
import Derived.Test.YtijbkjkienjdaaaDoorCards
import Derived.LaidMore
import Derived.Lay
import Derived.SevenTiedAt
import Derived.Stop.Joined
namespace Go.Proofs.YtijbkjkienjdaaaDoor.DigestBursts
open Go.ChangeShapes Go.WideShapes Go.ChangeAt Go.RowKit
set_option linter.unusedVariables false
set_option maxHeartbeats 1000000

theorem it32_zero (n : Nat) : it f32 n 0 = 0 := by
  induction n with
  | zero => rfl
  | succ n ih => exact ih
theorem it16_zero (n : Nat) : it f16 n 0 = 0 := by
  induction n with
  | zero => rfl
  | succ n ih => exact ih
theorem xor_x (X : List UInt8) (a : Nat) (h : a / 8 < X.length) : bits .xor .u8 (X[a / 8].toNat : Int) (2 ^ (a % 8) % 256) = ((bx X a).toNat : Int) := by
  have hb := bit_lt (a % 8) (by omega)
  have e : (2 : Int) ^ (a % 8) % 256 = ((2 ^ (a % 8) : Nat) : Int) := by
    have : ((2 ^ (a % 8) : Nat) : Int) = (2 : Int) ^ (a % 8) := by simp
    rw [← this]; exact Int.emod_eq_of_lt (Int.natCast_nonneg _) (Int.ofNat_lt.2 hb)
  rw [e, u8_xor_nat _ _ (byte_lt _) hb]
  unfold bx
  rw [getD_at X _ h, UInt8.toNat_xor, ofNat_bit _ (by omega)]
theorem shr_bit (r : Nat) (h : r < 8) : 128 / 2 ^ r = 2 ^ (7 - r) := by
  have : ∀ r : Fin 8, 128 / 2 ^ r.val = 2 ^ (7 - r.val) := by decide
  exact this ⟨r, h⟩
theorem xor_y (X : List UInt8) (a : Nat) (h : a / 8 < X.length) : bits .xor .u8 (X[a / 8].toNat : Int) (128 / 2 ^ (a % 8)) = ((by' X a).toNat : Int) := by
  have hb := bit_lt (7 - a % 8) (by omega)
  have e : (128 : Int) / 2 ^ (a % 8) = ((2 ^ (7 - a % 8) : Nat) : Int) := by
    rw [← shr_bit _ (by omega)]; simp
  rw [e, u8_xor_nat _ _ (byte_lt _) hb]
  unfold by'
  rw [getD_at X _ h, UInt8.toNat_xor, ofNat_bit _ (by omega)]
theorem and_one (P k : Nat) (hP : P < 4294967296) : bits .and .u32 ((P : Int) / 2 ^ k) 1 = ((P / 2 ^ k % 2 : Nat) : Int) := by
  have e : (P : Int) / 2 ^ k = ((P / 2 ^ k : Nat) : Int) := by simp
  rw [e, show (1 : Int) = ((1 : Nat) : Int) from rfl, u32_and_nat _ 1 (Nat.lt_of_le_of_lt (Nat.div_le_self _ _) hP) (by decide), Nat.and_one_is_mod]
theorem bit_no (P k : Nat) (hP : P < 4294967296) (h : P.testBit k = false) : bits .and .u32 ((P : Int) / 2 ^ k) 1 = 0 := by
  rw [and_one P k hP]
  rw [Nat.testBit_eq_decide_div_mod_eq] at h
  simp at h
  omega
theorem bit_yes (P k : Nat) (hP : P < 4294967296) (h : P.testBit k = true) : bits .and .u32 ((P : Int) / 2 ^ k) 1 = 1 := by
  rw [and_one P k hP]
  rw [Nat.testBit_eq_decide_div_mod_eq] at h
  simp at h
  omega
set_option maxRecDepth 100000 in
theorem walk (v : Value) (b : List UInt8) (F : Int) (P : Nat) (w : World) (h : Byt w v b) (hl : b.length ≤ maxLen) (hF : -9223372036854775808 ≤ F) (hF2 : F ≤ 9223372036854775807) (hP : P < 4294967296) (hT : Tabs w) : Calls Tryd.prog 8 #[v, .int .i64 F, .int .u32 P] w fun e w' => e = .returned (.bool true) ∧ Below w.heap.size w w' := by
  unfold maxLen at hl
  have H := Lib.hid h
  have HT := Lib.hid hT; clear hT
  obtain ⟨A, c, rfl, -, -⟩ := h
  by_cases hbig : 500 < b.length
  · go_enter Tryd.func8, Tryd.ntmps8
    go_wp2_with fail
    refine (known_any _ HT.out).mono ?_
    rintro e w3 ⟨rfl, hb3⟩
    have Hb3 := Lib.hid hb3; clear hb3
    go_wp2
    go_ret
    exact ⟨rfl, Hb3.out⟩
  · by_cases hneg : F < 0
    · go_enter Tryd.func8, Tryd.ntmps8
      go_wp2_with fail
      refine (known_any _ HT.out).mono ?_
      rintro e w3 ⟨rfl, hb3⟩
      have Hb3 := Lib.hid hb3; clear hb3
      go_wp2
      go_ret
      exact ⟨rfl, Hb3.out⟩
    · by_cases hout : 8 * (b.length : Int) ≤ F
      · have hneg' : 0 ≤ F := by omega
        go_enter Tryd.func8, Tryd.ntmps8
        go_wp2_with fail
        refine (known_any _ HT.out).mono ?_
        rintro e w3 ⟨rfl, hb3⟩
        have Hb3 := Lib.hid hb3; clear hb3
        go_wp2
        go_ret
        exact ⟨rfl, Hb3.out⟩
      · obtain ⟨F, rfl⟩ := Int.eq_ofNat_of_zero_le (show 0 ≤ F by omega)
        have hFb : (F : Int) < 8 * b.length := by omega
        go_enter Tryd.func8, Tryd.ntmps8
        go_wp2_with fail
        refine (Own_any _ b _ H.out (by omega)).mono ?_
        rintro e w1 ⟨⟨r1, rfl, ho1⟩, b1⟩
        obtain ⟨gx, cx, rfl, hcx, hgx, hgx1, hrx⟩ := rowAt_own ho1 (by omega)
        have Hx := Lib.hid hrx; have Hb1 := Lib.hid b1; have Hgx := Lib.hid (And.intro hcx (And.intro hgx hgx1)); clear hrx b1 hcx hgx hgx1 ho1
        go_wp2_with fail
        refine (Own_any _ b _ (H.out.below Hb1.out) (by omega)).mono ?_
        rintro e w2 ⟨⟨r2, rfl, ho1⟩, b2⟩
        obtain ⟨gy, cy, rfl, hcy, hgy, hgy1, hry⟩ := rowAt_own ho1 (by omega)
        have hB0 : Bst w b F 0 gx gy b b w2 := ⟨Hb1.out.trans (b2.mono Hb1.out.size), rfl, rfl, Hx.out.below Hgx.out.2.2 b2, hry, Nat.lt_of_lt_of_le Hgx.out.2.2 b2.size, hgy1, by have := Hgx.out.2.2; omega, Hgx.out.2.1, Nat.le_trans Hb1.out.size hgy, ⟨0, 0, .inl ⟨rfl, rfl, rfl⟩, by rw [it32_zero, Nat.xor_zero], by rw [it16_zero, Nat.xor_zero]⟩⟩
        have HB0 := Lib.hid hB0; have Hc := Lib.hid (And.intro Hgx.out.1 hcy); clear ho1 b2 hgy hgy1 hry hB0 Hx Hb1 Hgx hcy
        go_wp2
        go_loopw [9] (fun i wr => ∃ (k : Nat) (X Y : List UInt8), k ≤ 32 ∧ F + k ≤ 8 * b.length ∧ i = .int .i64 k ∧ Hid (Bst w b F k gx gy X Y wr)) (fun i _ => 32 - (intOf i).toNat)
        case atStart => exact ⟨0, b, b, by omega, by omega, rfl, HB0⟩
        case round =>
          clear HB0
          obtain ⟨k, X, Y, hk, hFk, rfl, HB⟩ := hrel
          by_cases hend : k < 32 ∧ F + k < 8 * b.length
          · obtain ⟨h32, hFk2⟩ := hend
            have k0 : (0 : Int) ≤ k := by omega
            have k1 : (F : Int) + k < 8 * b.length := by omega
            rcases Nat.eq_zero_or_pos k with hk0 | hk0
            · have k2 : ¬ (0 : Int) < k := by omega
              have k2' : decide ((0 : Int) < k) = false := by simpa using k2
              have k3 : (k : Int) < 16 := by omega
              have Hk0 := Lib.hid hk0; clear hk0
              have h16 : k < 16 := by have := Hk0.out; omega
              have hB := HB.out
              have hjx : (F + k) / 8 < X.length := by rw [hB.lx]; omega
              have cx1 := (hB.rx _ hjx).1
              have cx2 := (hB.rx _ hjx).2
              have ex := xor_x X (F + k) hjx
              have hai : (F : Int) + k = ((F + k : Nat) : Int) := by omega
              have HB2 := Lib.hid (hB.flipB (by omega) hFk2)
              have hjy : (F + k) / 8 < Y.length := by rw [hB.ly]; omega
              have ey := xor_y Y (F + k) hjy
              have hrow := hB.ry.other (j := (F + k) / 8) hB.ne (.int .u8 ((bx X (F + k)).toNat : Int))
              have cy1 := (hrow _ hjy).1
              have cy2 := (hrow _ hjy).2
              clear hB hrow
              have HFk := Lib.hid (show F + k < 8 * b.length from hFk2)
              have hFa : F + k = F + k := rfl
              generalize hA : F + k = a at HB2 hjx cx1 cx2 ex hai hFk hFk2 k1 HFk hjy ey cy1 cy2
              have Ha := Lib.hid hA
              clear hA hFa
              go_wp2
              go_region
              all_goals go_wp2
              all_goals go_region
              all_goals go_wp2
              all_goals go_roundw
              all_goals first | (simp [intOf]; omega) | exact ⟨k + 1, _, _, by omega, by have := HFk.out; have := Ha.out; omega, by go_num, HB2⟩
            · by_cases hbit : P.testBit k = false
              · have hb := bit_no P k hP hbit
                have k2 : (0 : Int) < k := by omega
                have HB2 := Lib.hid (HB.out.skip hk0)
                clear hbit
                go_wp2
                go_roundw
                case rel => exact ⟨k + 1, X, Y, by omega, by omega, by go_num, HB2⟩
                case measure => simp [intOf]; omega
              · have hb := bit_yes P k hP (by simpa using hbit)
                have k2 : (0 : Int) < k := by omega
                clear hbit
                by_cases h16 : k < 16
                · have k3 : (k : Int) < 16 := by omega
                  have hB := HB.out
                  have hjx : (F + k) / 8 < X.length := by rw [hB.lx]; omega
                  have cx1 := (hB.rx _ hjx).1
                  have cx2 := (hB.rx _ hjx).2
                  have ex := xor_x X (F + k) hjx
                  have hai : (F : Int) + k = ((F + k : Nat) : Int) := by omega
                  have HB2 := Lib.hid (hB.flipB (by omega) hFk2)
                  have hjy : (F + k) / 8 < Y.length := by rw [hB.ly]; omega
                  have ey := xor_y Y (F + k) hjy
                  have hrow := hB.ry.other (j := (F + k) / 8) hB.ne (.int .u8 ((bx X (F + k)).toNat : Int))
                  have cy1 := (hrow _ hjy).1
                  have cy2 := (hrow _ hjy).2
                  clear hB hrow
                  have HFk := Lib.hid (show F + k < 8 * b.length from hFk2)
                  have hFa : F + k = F + k := rfl
                  generalize hA : F + k = a at HB2 hjx cx1 cx2 ex hai hFk hFk2 k1 HFk hjy ey cy1 cy2
                  have Ha := Lib.hid hA
                  clear hA hFa
                  go_wp2
                  go_region
                  all_goals go_wp2
                  all_goals go_region
                  all_goals go_wp2
                  all_goals go_roundw
                  all_goals first | (simp [intOf]; omega) | exact ⟨k + 1, _, _, by omega, by have := HFk.out; have := Ha.out; omega, by go_num, HB2⟩
                · have k3 : ¬ (k : Int) < 16 := by omega
                  have hB := HB.out
                  have hjx : (F + k) / 8 < X.length := by rw [hB.lx]; omega
                  have cx1 := (hB.rx _ hjx).1
                  have cx2 := (hB.rx _ hjx).2
                  have ex := xor_x X (F + k) hjx
                  have hai : (F : Int) + k = ((F + k : Nat) : Int) := by omega
                  have HB2 := Lib.hid (hB.flipA (by omega) (by omega) hFk2)
                  clear hB
                  have HFk := Lib.hid (show F + k < 8 * b.length from hFk2)
                  have hFa : F + k = F + k := rfl
                  generalize hA : F + k = a at HB2 hjx cx1 cx2 ex hai hFk hFk2 k1 HFk 
                  have Ha := Lib.hid hA
                  clear hA hFa
                  go_wp2
                  go_region
                  all_goals go_wp2
                  all_goals go_roundw
                  all_goals first | (simp [intOf]; omega) | exact ⟨k + 1, _, _, by omega, by have := HFk.out; have := Ha.out; omega, by go_num, HB2⟩
          · have hpos : 0 < k := by omega
            have hap := HB.out.apart hpos
            have hB := HB.out
            have BX := Lib.hid (hB.rx.byt hB.hx (c := cx) (by rw [hB.lx]; exact Hc.out.1))
            have BY := Lib.hid (hB.ry.byt hB.hy (c := cy) (by rw [hB.ly]; exact Hc.out.2))
            rw [hB.lx] at BX
            rw [hB.ly] at BY
            have hlx := hB.lx; have hly := hB.ly
            have Hlx := Lib.hid hlx; have Hly := Lib.hid hly
            have HW := Lib.hid hB.below
            have hx32 := crc32_lt X
            have hb32 := crc32_lt b
            have n1 : ¬ ((crc32 X : Nat) : Int) = ((crc32 b : Nat) : Int) := by have := hap.1; omega
            have n2 : ¬ ((crc16 Y : Nat) : Int) = ((crc16 b : Nat) : Int) := by have := hap.2; omega
            have n1' : (((crc32 X : Nat) : Int) != ((crc32 b : Nat) : Int)) = true := bne_iff_ne.2 n1
            have n2' : (((crc16 Y : Nat) : Int) != ((crc16 b : Nat) : Int)) = true := bne_iff_ne.2 n2
            obtain ⟨cX, hcX⟩ : ∃ z, crc32 X = z := ⟨_, rfl⟩
            obtain ⟨cB, hcB⟩ : ∃ z, crc32 b = z := ⟨_, rfl⟩
            obtain ⟨dY, hdY⟩ : ∃ z, crc16 Y = z := ⟨_, rfl⟩
            obtain ⟨dB, hdB⟩ : ∃ z, crc16 b = z := ⟨_, rfl⟩
            rw [hcX] at n1 n1'; rw [hcB] at n1 n1'; rw [hdY] at n2 n2'; rw [hdB] at n2 n2'
            have HcX := Lib.hid hcX; have HcB := Lib.hid hcB; have HdY := Lib.hid hdY; have HdB := Lib.hid hdB
            clear hB hap hlx hly hcX hcB hdY hdB hx32 hb32 HB
            have hend2 : ¬ (k : Int) < 32 ∨ ¬ (F : Int) + k < 8 * b.length := by omega
            rcases hend2 with g1 | g1
            all_goals
              by_cases g2 : (k : Int) < 32
              all_goals
                go_wp2_with fail
                refine (CRC32C_any _ X _ (HT.out.below HW.out) BX.out (by unfold maxLen; have := Hlx.out; omega)).mono ?_
                rintro e w3 ⟨rfl, b3⟩
                rw [HcX.out]
                have Hb3 := Lib.hid (HW.out.trans (b3.mono HW.out.size)); have BY3 := Lib.hid (BY.out.below b3); clear b3
                go_wp2_with fail
                refine (CRC32C_any _ b _ (HT.out.below Hb3.out) (H.out.below Hb3.out) (by unfold maxLen; omega)).mono ?_
                rintro e w4 ⟨rfl, b3⟩
                rw [HcB.out]
                have Hb4 := Lib.hid (Hb3.out.trans (b3.mono Hb3.out.size)); have BY4 := Lib.hid (BY3.out.below b3); clear b3
                go_wp2_with fail
                refine (CRC16_any _ Y _ (HT.out.below Hb4.out) BY4.out (by unfold maxLen; have := Hly.out; omega)).mono ?_
                rintro e w5 ⟨rfl, b3⟩
                rw [HdY.out]
                have Hb5 := Lib.hid (Hb4.out.trans (b3.mono Hb4.out.size)); clear b3
                go_wp2_with fail
                refine (CRC16_any _ b _ (HT.out.below Hb5.out) (H.out.below Hb5.out) (by unfold maxLen; omega)).mono ?_
                rintro e w6 ⟨rfl, b3⟩
                rw [HdB.out]
                have Hb6 := Lib.hid (Hb5.out.trans (b3.mono Hb5.out.size)); clear b3
                go_wp2_with fail
                refine (known_any _ (HT.out.below Hb6.out)).mono ?_
                rintro e w7 ⟨rfl, hb3⟩
                have Hb7 := Lib.hid (Hb6.out.trans (hb3.mono Hb6.out.size)); clear hb3
                go_wp2
                go_ret
                exact ⟨rfl, Hb7.out⟩

set_option maxRecDepth 100000 in
theorem lifted (os : Os) (started : os.Started) (H : Type) (enc : TypeId × Value → H) :
    ReturnsInHanded {} Tryd.checked os 8 .any (fun w args => (Rows.digestBurstsSpec.pre enc Tryd.prog Tryd.f8 Rows.digestBurstsRow.domain false w args ∧ laidMetH Tryd.prog Rows.digestBurstsRow.laid w) ∧ sizedMet enc Tryd.prog Tryd.f8 (OpenSpec.ofChange Rows.digestBurstsSpec) false w args)
      (Rows.digestBurstsSpec.post enc Tryd.prog Tryd.f8 false true false false) := by
  refine returnsInHanded_of_change_and (C := Tryd.checked) (X := fun w _ => laidMetH Tryd.prog Rows.digestBurstsRow.laid w) (fun _ _ _ hh h => h.of_heap hh) own started (by kernel_rfl) Tryd.func8
    (ChangeSpec.witness_shaped (enc := enc) (C := Tryd.checked) (os := os) (X := fun w _ => laidMetH Tryd.prog Rows.digestBurstsRow.laid w) false (World.laidAll Tryd.prog os Rows.digestBurstsRow.laid) #[.slice none 0 0, .int .i64 0, .int .u32 0] 8 (World.laidAll_os _ _ _)
      (World.shaped_of_ZipB (by kernel_rfl) (by kernel_rfl)) (by kernel_rfl) (by kernel_rfl) (by kernel_rfl)
      (by rw [MakeChecks.laidMetH_plain _ _ _ (by kernel_rfl)]; exact laidMet_laidAll _ (by kernel_rfl) (by kernel_rfl))) ?_
  intro W base args ds gs before hval0 hW _ hsz hL _
  have hval : ∀ (j : Nat) t v, Tryd.f8.params[j]? = some t → args[j]? = some v → Value.okWide Tryd.prog W .any base t v := hval0
  have hW' := hW
  have hlt := hW.lt
  obtain ⟨p, q, hA0, hV, rfl, _, _⟩ := hW
  have hA : DataW.TrodAll enc Tryd.prog W 0 (fun _ => true) true Tryd.f8.params.toList args.toList ds p := hA0
  have hAk := hA
  rw [Tryd.params8] at hA hval
  obtain ⟨v0, vs0, d0, ds0, p0, q0, hargs, rfl, rfl, h0, r0⟩ := trodAll_cons hA
  obtain ⟨v1, vs1, d1, ds1, p1, q1, rfl, rfl, rfl, h1, r1⟩ := trodAll_cons r0
  obtain ⟨v2, vs2, d2, ds2, p2, q2, rfl, rfl, rfl, h2, r2⟩ := trodAll_cons r1
  obtain ⟨rfl, rfl, rfl⟩ := trodAll_nil r2
  obtain rfl : args = #[v0, v1, v2] := by cases args; simp_all
  obtain ⟨rfl, rfl⟩ := trodVars_none hV
  obtain ⟨l, hB, hm⟩ := open_byt (hval 0 22 v0 rfl rfl) h0
  obtain ⟨a1, rfl, rfl, rfl, w1⟩ := open_int Tryd.underlying3 (hval 1 3 v1 rfl rfl) h1
  obtain ⟨a2, rfl, rfl, rfl, w2⟩ := open_int Tryd.underlying25 (hval 2 25 v2 rfl rfl) h2
  have hb1 := bounds_i64 w1
  have hb2 := bounds_u32 w2
  obtain ⟨s, rfl⟩ := Int.eq_ofNat_of_zero_le hb2.1
  refine (walk v0 l a1 s W hB hm hb1.1 hb1.2 (by omega) (tabs_of_laid hL)).mono fun e W' ⟨he, hb⟩ => ?_
  subst he
  exact ⟨_, rfl, _, _, _, [], _, [], hW', trodAll_mk1 (shut_bool Tryd.underlying4 _), args_back hb (by kernel_rfl) hAk (fun x hx => hlt x (List.mem_append_left _ hx)), rfl, hb.frame _, fun h => by cases h⟩

theorem holds : Rows.DigestBurstsSaid :=
  OpenClaim.holds_of_wide 8 Tryd.f8 rfl rfl rfl rfl rfl rfl rfl ⟨rfl, rfl, rfl, rfl, rfl⟩ rfl rfl rfl rfl rfl (by kernel_rfl) Tryd.func8 (by kernel_rfl)
    (of_decide_eq_true (by kernel_rfl)) (by unfold Func.isWrapper; first | (rw [if_pos (by decide +kernel)]; kernel_rfl) | (rw [if_neg (by decide +kernel)]; exact ⟨rfl, rfl⟩))
    (fun os started H enc _ => lifted os started H enc)
theorem card_holds : Rows.DigestBurstsCardSaid :=
  Claim7.holds_tied_plain_at .later [] [.data, .data] true Rows.digestBurstsCard.stood.harness false holds (fun _ h => by cases h) (by kernel_rfl) (fun _ h => by cases h) digestBursts_row_tie rfl ⟨rfl, rfl⟩ (by kernel_rfl) rfl
    (fun f fn hf hfn => by
      obtain rfl : f = 8 := Option.some.inj ((show Tryd.prog.funcNamed Rows.digestBurstsRow.func = some 8 by kernel_rfl).symm.trans hf) |>.symm
      obtain rfl : fn = Tryd.f8 := (Option.some.inj (Tryd.func8.symm.trans hfn)).symm
      exact ⟨by kernel_rfl, fun j t ht => by
        rw [Tryd.params8] at ht
        have hm : t ∈ [22, 3, 25] := by simpa using Array.mem_of_getElem? ht
        have hall : ([22, 3, 25].all fun u => !Tryd.prog.wantsStandIn u) = true := by kernel_rfl
        exact (show Tryd.prog.wantsStandIn t = false by simpa using List.all_eq_true.1 hall t hm)⟩)
    (by kernel_rfl)
end Go.Proofs.YtijbkjkienjdaaaDoor.DigestBursts
namespace Go.Proofs.YtijbkjkienjdaaaDoor
theorem digestBursts_card : Rows.DigestBurstsCardSaid := DigestBursts.card_holds
end Go.Proofs.YtijbkjkienjdaaaDoor
