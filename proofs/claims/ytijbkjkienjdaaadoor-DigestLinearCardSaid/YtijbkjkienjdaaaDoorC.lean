/- The contracts of the reference's functions of layer 2, and of the chapter's examples. Conditions stand in each theorem. -/
import Derived.Test.YtijbkjkienjdaaaDoorB
import Derived.Lib.SlBytesConst
namespace Go.Proofs.YtijbkjkienjdaaaDoor
open Go.RowKit
set_option linter.unusedVariables false
set_option maxHeartbeats 400000

theorem it32_next (n s : Nat) : it f32 (n + 1) s = if it f32 n s % 2 = 1 then it f32 n s / 2 ^^^ 2197175160 else it f32 n s / 2 := by rw [it_succ]; rfl
theorem it16_next (n s : Nat) : it f16 (n + 1) s = if 32768 ≤ it f16 n s then it f16 n s * 2 % 65536 ^^^ 35767 else it f16 n s * 2 % 65536 := by rw [it_succ]; rfl
set_option maxRecDepth 100000 in
theorem refUpdate32 (s : Nat) (v : Value) (l : List UInt8) (w : World) (hs : s < 4294967296) (h : Byt w v l) (hl : l.length ≤ maxLen) :
    Calls Tryd.prog 18 #[.int .u32 s, v] w fun e w' => e = .returned (.int .u32 (upd32 s l : Nat)) ∧ w = w' := by
  unfold maxLen at hl
  obtain ⟨A, c, rfl, hc, hr⟩ := h
  have Hr := Lib.hid hr; clear hr
  go_enter Tryd.func18, Tryd.ntmps18
  go_wp2
  go_loop [0, 5] (fun t i => ∃ k : Nat, k ≤ l.length ∧ i = .int .i64 k ∧ t = .int .u32 (upd32 s (l.take k) : Nat)) (fun _ i => l.length - (intOf i).toNat)
  case atStart => exact ⟨0, Nat.zero_le _, rfl, rfl⟩
  case round =>
    obtain ⟨k, hk, rfl, rfl⟩ := hrel
    by_cases hlt : k < l.length
    · obtain ⟨g, o, rfl, hg, hcell⟩ := Hr.out (by omega)
      have hck := hcell k hlt
      have Hs2 := Lib.hid (upd32_snoc s l k hlt)
      have hlt2 := upd32_lt hs (l.take k)
      have hb := byte_lt l[k]
      generalize upd32 s (l.take k) = q at *
      generalize l[k].toNat = b at *
      have e1 := u32_xor_nat q b hlt2 (by omega)
      have hx : q ^^^ b < 4294967296 := Nat.xor_lt_two_pow (n := 32) hlt2 (by omega)
      have i0 : (0 : Int) ≤ k := by omega
      have i1 : (k : Int) < l.length := by omega
      clear hcell
      generalize hxe : q ^^^ b = x at *
      have Hxe := Lib.hid hxe; clear hxe
      go_wp2
      clear e1
      go_loop [0, 6] (fun t' i => ∃ j : Nat, j ≤ 8 ∧ i = .int .i64 j ∧ t' = .int .u32 (it f32 j x : Nat)) (fun _ i => 8 - (intOf i).toNat)
      case atStart => exact ⟨0, Nat.zero_le _, rfl, rfl⟩
      case round =>
        obtain ⟨j, hj, rfl, rfl⟩ := hrel
        by_cases hj8 : j < 8
        · have Hn := Lib.hid (it32_next j x)
          have hlt3 := it32_lt (n := j) hx
          generalize it f32 j x = y at *
          have e2 : bits .xor .u32 ((y : Int) / 2) 2197175160 = ((y / 2 ^^^ 2197175160 : Nat) : Int) := u32_xor_nat (y / 2) 2197175160 (by omega) (by decide)
          by_cases hodd : y % 2 = 1
          · have hod : (y : Int) % 2 = 1 := by omega
            have He := Lib.hid hodd; clear hodd
            go_wp2
            go_round
            case rel => exact ⟨j + 1, by omega, by go_num, by rw [Hn.out, if_pos He.out]⟩
            case measure => simp [intOf]; omega
          · have hod : ((y : Int) % 2 == 1) = false := by simp; omega
            have hod2 : ¬ (y : Int) % 2 = 1 := by omega
            have He := Lib.hid hodd; clear hodd
            go_wp2
            go_round
            case rel => exact ⟨j + 1, by omega, by go_num, by rw [Hn.out, if_neg He.out]; rfl⟩
            case measure => simp [intOf]; omega
        · have e : j = 8 := by omega
          have He := Lib.hid e; clear e
          go_wp2
          go_round
          case rel => exact ⟨k + 1, by omega, by go_num, by rw [Hs2.out, He.out]; unfold step32; rw [Hxe.out]⟩
          case measure => simp [intOf]; omega
    · have e : k = l.length := by omega
      have He := Lib.hid e; clear e
      go_wp2
      go_ret
      exact ⟨ret_int (by rw [List.take_of_length_le (by have := He.out; omega)]), rfl⟩
set_option maxRecDepth 100000 in
theorem refUpdate16 (s : Nat) (v : Value) (l : List UInt8) (w : World) (hs : s < 65536) (h : Byt w v l) (hl : l.length ≤ maxLen) :
    Calls Tryd.prog 20 #[.int .u16 s, v] w fun e w' => e = .returned (.int .u16 (upd16 s l : Nat)) ∧ w = w' := by
  unfold maxLen at hl
  obtain ⟨A, c, rfl, hc, hr⟩ := h
  have Hr := Lib.hid hr; clear hr
  go_enter Tryd.func20, Tryd.ntmps20
  go_wp2
  go_loop [0, 5] (fun t i => ∃ k : Nat, k ≤ l.length ∧ i = .int .i64 k ∧ t = .int .u16 (upd16 s (l.take k) : Nat)) (fun _ i => l.length - (intOf i).toNat)
  case atStart => exact ⟨0, Nat.zero_le _, rfl, rfl⟩
  case round =>
    obtain ⟨k, hk, rfl, rfl⟩ := hrel
    by_cases hlt : k < l.length
    · obtain ⟨g, o, rfl, hg, hcell⟩ := Hr.out (by omega)
      have hck := hcell k hlt
      have Hs2 := Lib.hid (upd16_snoc s l k hlt)
      have hlt2 := upd16_lt hs (l.take k)
      have hb := byte_lt l[k]
      generalize upd16 s (l.take k) = q at *
      generalize l[k].toNat = b at *
      have e1 : bits .xor .u16 (q : Int) ((b : Int) * 256) = ((q ^^^ b * 256 : Nat) : Int) := u16_xor_nat q (b * 256) hlt2 (by omega)
      have hx : q ^^^ b * 256 < 65536 := Nat.xor_lt_two_pow (n := 16) hlt2 (by omega)
      have i0 : (0 : Int) ≤ k := by omega
      have i1 : (k : Int) < l.length := by omega
      clear hcell
      generalize hxe : q ^^^ b * 256 = x at *
      have Hxe := Lib.hid hxe; clear hxe
      go_wp2
      clear e1
      go_loop [0, 6] (fun t' i => ∃ j : Nat, j ≤ 8 ∧ i = .int .i64 j ∧ t' = .int .u16 (it f16 j x : Nat)) (fun _ i => 8 - (intOf i).toNat)
      case atStart => exact ⟨0, Nat.zero_le _, rfl, rfl⟩
      case round =>
        obtain ⟨j, hj, rfl, rfl⟩ := hrel
        by_cases hj8 : j < 8
        · have Hn := Lib.hid (it16_next j x)
          have hlt3 := it16_lt (n := j) hx
          generalize it f16 j x = y at *
          have e2 : bits .xor .u16 (IntKind.u16.wrap ((y : Int) * 2)) 35767 = ((y * 2 % 65536 ^^^ 35767 : Nat) : Int) := by rw [IntKind.wrap_u16]; exact u16_xor_nat (y * 2 % 65536) 35767 (by omega) (by decide)
          by_cases hodd : 32768 ≤ y
          · have hod : (32768 : Int) ≤ y := by omega
            have He := Lib.hid hodd; clear hodd
            go_wp2
            go_round
            case rel => exact ⟨j + 1, by omega, by go_num, by rw [Hn.out, if_pos He.out]⟩
            case measure => simp [intOf]; omega
          · have hod : ¬ (32768 : Int) ≤ y := by omega
            have e4 : IntKind.u16.wrap ((y : Int) * 2) = ((y * 2 % 65536 : Nat) : Int) := by rw [IntKind.wrap_u16]; omega
            have He := Lib.hid hodd; clear hodd
            have He4 := Lib.hid e4; clear e4 e2
            go_wp2
            go_round
            case rel => exact ⟨j + 1, by omega, by go_num, by rw [Hn.out, if_neg He.out, ← He4.out]; first | rfl | (rw [IntKind.wrap_u16]; congr 1; omega)⟩
            case measure => simp [intOf]; omega
        · have e : j = 8 := by omega
          have He := Lib.hid e; clear e
          go_wp2
          go_round
          case rel => exact ⟨k + 1, by omega, by go_num, by rw [Hs2.out, He.out]; unfold step16; rw [Hxe.out]⟩
          case measure => simp [intOf]; omega
    · have e : k = l.length := by omega
      have He := Lib.hid e; clear e
      go_wp2
      go_ret
      exact ⟨ret_int (by rw [List.take_of_length_le (by have := He.out; omega)]), rfl⟩

theorem refCRC32 (v : Value) (l : List UInt8) (w : World) (h : Byt w v l) (hl : l.length ≤ maxLen) :
    Calls Tryd.prog 13 #[v] w fun e w' => e = .returned (.int .u32 (crc32 l : Nat)) ∧ w = w' := by
  have HC := Lib.hid (show Calls Tryd.prog 18 #[.int .u32 4294967295, v] w fun e w' => e = .returned (.int .u32 (upd32 4294967295 l : Nat)) ∧ w = w' from refUpdate32 4294967295 v l w (by decide) h hl)
  have hq := upd32_lt (s := 4294967295) (by decide) l
  have Hq := Lib.hid (show crc32 l = 4294967295 ^^^ upd32 4294967295 l from rfl)
  clear h hl
  generalize upd32 4294967295 l = q at *
  have e1 : bits .xor .u32 4294967295 (q : Int) = ((4294967295 ^^^ q : Nat) : Int) := u32_xor_nat 4294967295 q (by decide) hq
  go_enter Tryd.func13, Tryd.ntmps13
  go_wp2_with ((go_at_call 18; with_reducible refine HC.out.mono ?_); rintro e w' ⟨rfl, rfl⟩)
  go_ret
  exact ⟨ret_int (by rw [Hq.out]), rfl⟩
theorem refCRC16 (v : Value) (l : List UInt8) (w : World) (h : Byt w v l) (hl : l.length ≤ maxLen) :
    Calls Tryd.prog 16 #[v] w fun e w' => e = .returned (.int .u16 (crc16 l : Nat)) ∧ w = w' := by
  have HC := Lib.hid (show Calls Tryd.prog 20 #[.int .u16 0, v] w fun e w' => e = .returned (.int .u16 (upd16 0 l : Nat)) ∧ w = w' from refUpdate16 0 v l w (by decide) h hl)
  have Hq := Lib.hid (show crc16 l = upd16 0 l from rfl)
  clear h hl
  generalize upd16 0 l = q at *
  go_enter Tryd.func16, Tryd.ntmps16
  go_wp2_with ((go_at_call 20; with_reducible refine HC.out.mono ?_); rintro e w' ⟨rfl, rfl⟩)
  go_ret
  exact ⟨ret_int (by rw [Hq.out]), rfl⟩

theorem k1 (w : World) (hT : Tabs w) : Calls Tryd.prog 12 #[.slice none 0 0] w fun e w' => e = .returned (.int .u32 0) ∧ Below w.heap.size w w' := by
  have h := CRC32C_any _ [] w hT (Byt.none w) (by unfold maxLen; simp)
  rwa [show ((crc32 [] : Nat) : Int) = 0 by decide +kernel] at h
theorem k3 (w : World) (hT : Tabs w) : Calls Tryd.prog 15 #[.slice none 0 0] w fun e w' => e = .returned (.int .u16 0) ∧ Below w.heap.size w w' := by
  have h := CRC16_any _ [] w hT (Byt.none w) (by unfold maxLen; simp)
  rwa [show ((crc16 [] : Nat) : Int) = 0 by decide +kernel] at h
def nine : List UInt8 := [49, 50, 51, 52, 53, 54, 55, 56, 57]
theorem k2 (v : Value) (w : World) (hT : Tabs w) (hB : Byt w v nine) : Calls Tryd.prog 12 #[v] w fun e w' => e = .returned (.int .u32 3808858755) ∧ Below w.heap.size w w' := by
  have h := CRC32C_any _ nine w hT hB (by unfold maxLen; decide)
  rwa [show ((crc32 nine : Nat) : Int) = 3808858755 by decide +kernel] at h
theorem k4 (v : Value) (w : World) (hT : Tabs w) (hB : Byt w v nine) : Calls Tryd.prog 15 #[v] w fun e w' => e = .returned (.int .u16 53467) ∧ Below w.heap.size w w' := by
  have h := CRC16_any _ nine w hT hB (by unfold maxLen; decide)
  rwa [show ((crc16 nine : Nat) : Int) = 53467 by decide +kernel] at h
theorem k5 (w : World) (hT : Tabs w) : Calls Tryd.prog 12 #[.slice (some ⟨w.heap.size, 0, none⟩) 1 1] (w.alloc (.cells #[.int .u8 0] 5)) fun e w' => e = .returned (.int .u32 1383945041) ∧ Below w.heap.size w w' := by
  have h := CRC32C_any _ [0] _ (hT.below ((Below.refl _ _).alloc (Nat.le_refl _) _)) (byt_lit w [0]) (by unfold maxLen; decide)
  rw [show ((crc32 [0] : Nat) : Int) = 1383945041 by decide +kernel] at h
  exact h.mono fun e w' ⟨h1, h2⟩ => ⟨h1, ((Below.refl _ _).alloc (Nat.le_refl _) _).trans (h2.mono (by simp))⟩
theorem k6 (w : World) (hT : Tabs w) : Calls Tryd.prog 19 #[.int .u16 0, .slice (some ⟨w.heap.size, 0, none⟩) 1 1] (w.alloc (.cells #[.int .u8 1] 5)) fun e w' => e = .returned (.int .u16 35767) ∧ Below w.heap.size w w' := by
  have h := Update16_any 0 _ [1] _ (hT.below ((Below.refl _ _).alloc (Nat.le_refl _) _)) (by decide) (byt_lit w [1]) (by unfold maxLen; decide)
  rw [show ((upd16 0 [1] : Nat) : Int) = 35767 by decide +kernel] at h
  exact h.mono fun e w' ⟨h1, h2⟩ => ⟨h1, ((Below.refl _ _).alloc (Nat.le_refl _) _).trans (h2.mono (by simp))⟩
set_option maxHeartbeats 1000000 in
theorem known_any (w : World) (hT : Tabs w) : Calls Tryd.prog 10 #[] w fun e w' => e = .returned (.bool true) ∧ Below w.heap.size w w' := by
  have kc := Lib.run_convert_bytes_const (P := Tryd.prog) w 22 5 #[.int .u8 49, .int .u8 50, .int .u8 51, .int .u8 52, .int .u8 53, .int .u8 54, .int .u8 55, .int .u8 56, .int .u8 57] 9 9 Tryd.underlying22 Tryd.underlying5
  have B0 : Below w.heap.size w (w.alloc (.cells #[.int .u8 49, .int .u8 50, .int .u8 51, .int .u8 52, .int .u8 53, .int .u8 54, .int .u8 55, .int .u8 56, .int .u8 57] 5 (9, 10))) := (Below.refl _ _).alloc (Nat.le_refl _) _
  have HT0 := Lib.hid (hT.below B0)
  have HB0 := Lib.hid B0
  have HR0 := Lib.hid (show Byt (w.alloc (.cells #[.int .u8 49, .int .u8 50, .int .u8 51, .int .u8 52, .int .u8 53, .int .u8 54, .int .u8 55, .int .u8 56, .int .u8 57] 5 (9, 10))) (.slice (some ⟨w.heap.size, 0, none⟩) 9 9) nine from byt_lit w nine (9, 10))
  clear hT B0
  go_enter Tryd.func10, Tryd.ntmps10
  go_wp2_with fail
  refine (k1 _ HT0.out).mono ?_
  rintro e w1 ⟨rfl, b1⟩
  have H1 := Lib.hid b1; clear b1
  go_wp2_with fail
  refine (k2 _ _ (HT0.out.below H1.out) (HR0.out.below H1.out)).mono ?_
  rintro e w2 ⟨rfl, b2⟩
  have H2 := Lib.hid (H1.out.trans (b2.mono H1.out.size)); clear b2 H1
  go_wp2_with fail
  refine (k3 _ (HT0.out.below H2.out)).mono ?_
  rintro e w3 ⟨rfl, b2⟩
  have H3 := Lib.hid (H2.out.trans (b2.mono H2.out.size)); clear b2 H2
  go_wp2_with fail
  refine (k4 _ _ (HT0.out.below H3.out) (HR0.out.below H3.out)).mono ?_
  rintro e w4 ⟨rfl, b2⟩
  have H4 := Lib.hid (H3.out.trans (b2.mono H3.out.size)); clear b2 H3
  go_wp2_with fail
  refine (k5 _ (HT0.out.below H4.out)).mono ?_
  rintro e w5 ⟨rfl, b2⟩
  have H5 := Lib.hid (H4.out.trans (b2.mono H4.out.size)); clear b2 H4
  go_wp2_with fail
  refine (k6 _ (HT0.out.below H5.out)).mono ?_
  rintro e w6 ⟨rfl, b2⟩
  have H6 := Lib.hid (H5.out.trans (b2.mono H5.out.size)); clear b2 H5
  go_wp2
  go_ret
  exact ⟨rfl, HB0.out.trans (H6.out.mono HB0.out.size)⟩
end Go.Proofs.YtijbkjkienjdaaaDoor
