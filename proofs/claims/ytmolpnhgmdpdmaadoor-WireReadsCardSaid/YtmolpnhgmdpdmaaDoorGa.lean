/- The contracts of the reference's Get, Field and Insert: they agree with wire's. Conditions stand in each theorem. -/
import Derived.Test.YtmolpnhgmdpdmaaDoorTn
namespace Go.Proofs.YtmolpnhgmdpdmaaDoor
open Go.RowKit
set_option linter.unusedVariables false
set_option maxHeartbeats 400000

theorem getV_drop (l : List UInt8) (m : Nat) (h : m < l.length) : getV (l.drop m) = l[m].toNat + 256 * getV (l.drop (m + 1)) := by
  rw [List.drop_eq_getElem_cons h]; rfl
theorem getV_drop_le (l : List UInt8) (m : Nat) (h8 : l.length ≤ 8) (h : m < l.length) : getV (l.drop (m + 1)) ≤ 72057594037927935 := by
  have h1 := getV_lt (l.drop (m + 1))
  rw [List.length_drop] at h1
  have h2 : 256 ^ (l.length - (m + 1)) ≤ 256 ^ 7 := Nat.pow_le_pow_right (by decide) (by omega)
  omega
set_option maxRecDepth 100000 in
theorem refGet_any (v : Value) (l : List UInt8) (w : World) (h : Byt w v l) (hl : l.length ≤ 9223372036854775807) : Calls Tryd.prog 16 #[v] w fun e w' => e = .returned (.tuple #[.int .u64 (getZ l), .int .i64 (getE l)]) ∧ w = w' := by
  obtain ⟨A, c, rfl, hc, hr⟩ := h
  by_cases hb : l.length < 1 ∨ 8 < l.length
  · have hz : getZ l = 0 ∧ getE l = 2 := ⟨if_pos hb, if_pos hb⟩
    have HZ := Lib.hid hz; clear hz hr
    by_cases hb1 : l.length < 1
    · have e0 : ((l.length : Int) < 1) := by omega
      have Hl := Lib.hid hl; clear hl hb
      go_enter Tryd.func16, Tryd.ntmps16
      go_wp2
      go_ret2
      exact ⟨by rw [HZ.out.1, HZ.out.2]; rfl, rfl⟩
    · have hb8 : 8 < l.length := by omega
      have Hl := Lib.hid hl; clear hl hb
      go_enter Tryd.func16, Tryd.ntmps16
      go_wp2
      go_ret2
      exact ⟨by rw [HZ.out.1, HZ.out.2]; rfl, rfl⟩
  · obtain ⟨g, o, rfl, hg, hcell⟩ := hr (by omega)
    have hz : getZ l = getV l ∧ getE l = 0 := ⟨if_neg hb, if_neg hb⟩
    have HZ := Lib.hid hz; clear hz
    have h1 : 1 ≤ l.length := by omega
    have h8 : l.length ≤ 8 := by omega
    have d1 : decide ((l.length : Int) < 1) = false := by simp; omega
    have d2 : decide (8 < (l.length : Int)) = false := by simp; omega
    clear hb hl
    have Hcell := Lib.hid hcell; clear hcell
    go_enter Tryd.func16, Tryd.ntmps16
    go_wp2
    clear d1 d2
    go_loop [4, 5] (fun x i => ∃ k : Nat, k ≤ l.length ∧ i = .int .i64 ((k : Int) - 1) ∧ x = .int .u64 (getV (l.drop k) : Int)) (fun _ i => (intOf i + 1).toNat)
    case atStart => exact ⟨l.length, Nat.le_refl _, rfl, by simp [getV]⟩
    case round =>
      obtain ⟨k, hk, rfl, rfl⟩ := hrel
      rcases Nat.eq_zero_or_pos k with hk0 | hk0
      · have HK := Lib.hid hk0
        go_wp2
        go_ret2
        exact ⟨by rw [HZ.out.1, HZ.out.2]; rfl, rfl⟩
      · obtain ⟨m, rfl⟩ : ∃ m, k = m + 1 := ⟨k - 1, by omega⟩
        rw [show (((m + 1 : Nat) : Int) - 1) = (m : Int) by omega]
        have hlt : m < l.length := by omega
        have hck := Hcell.out m hlt
        have hbb : l[m].toNat < 256 := l[m].toNat_lt
        have hle := getV_drop_le l m h8 hlt
        go_wp2
        go_round
        case rel => exact ⟨m, by omega, rfl, by rw [getV_drop l m hlt]; go_num⟩
        case measure => simp [intOf]

theorem or_bit (R k : Nat) (hk : k < 64) : bits .or .u64 ((R % 2 ^ k : Nat) : Int) (IntKind.u64.wrap (((R / 2 ^ k % 2 : Nat) : Int) * 2 ^ k)) = ((R % 2 ^ (k + 1) : Nat) : Int) := by
  have hb : R / 2 ^ k % 2 < 2 ^ 1 := Nat.mod_lt _ (by decide)
  have hp : 0 < 2 ^ k := Nat.pow_pos (by decide)
  have h1 : R % 2 ^ k < 2 ^ k := Nat.mod_lt _ hp
  have h2 := pow_le64 (k := k) (by omega)
  rw [wrap_mul hb (by omega), u64_or_nat _ _ (by omega) (mul_lt64 hb (by omega)), Nat.or_comm, nat_join k _ _ (Nat.mul_mod_left _ _) h1, Nat.mod_pow_succ, Nat.mul_comm (2 ^ k), Nat.add_comm]
theorem and_one (x : Nat) (h : x < 18446744073709551616) : bits .and .u64 (x : Int) 1 = ((x % 2 : Nat) : Int) := by
  rw [show (1 : Int) = ((1 : Nat) : Int) from rfl, u64_and_nat _ _ h (by decide), nat_mask1]
theorem div_cast (v k : Nat) : (v : Int) / 2 ^ k = ((v / 2 ^ k : Nat) : Int) := by simp
theorem and_div (v k : Nat) (h : v < 18446744073709551616) : bits .and .u64 ((v : Int) / 2 ^ k) 1 = ((v / 2 ^ k % 2 : Nat) : Int) := by
  rw [div_cast, and_one _ (by have := Nat.div_le_self v (2 ^ k); omega)]
theorem field_step (v low k : Nat) (h : v < 18446744073709551616) (hk : k < 64) :
    bits .or .u64 ((v / 2 ^ low % 2 ^ k : Nat) : Int) (IntKind.u64.wrap (bits .and .u64 ((v : Int) / 2 ^ (low + k)) 1 * 2 ^ k)) = ((v / 2 ^ low % 2 ^ (k + 1) : Nat) : Int) := by
  rw [and_div _ _ h, Nat.pow_add, ← Nat.div_div_eq_div_mul]
  exact or_bit _ _ hk

theorem valid_bad (low width : Int) (w : World) (h : badBits low width) : Calls Tryd.prog 50 #[.int .i64 low, .int .i64 width] w fun e w' => e = .returned (.bool false) ∧ w = w' := by
  unfold badBits at h
  by_cases h1 : low < 0
  · clear h
    go_enter Tryd.func50, Tryd.ntmps50
    go_wp2
    go_ret
    exact ⟨rfl, rfl⟩
  · have h1' : 0 ≤ low := by omega
    by_cases h2 : width < 1
    · clear h h1
      go_enter Tryd.func50, Tryd.ntmps50
      go_wp2
      go_ret
      exact ⟨rfl, rfl⟩
    · have h2' : 1 ≤ width := by omega
      by_cases h3 : 64 ≤ low
      · clear h h1 h2
        go_enter Tryd.func50, Tryd.ntmps50
        go_wp2
        go_ret
        exact ⟨rfl, rfl⟩
      · have h3' : low < 64 := by omega
        have h4 : decide (width ≤ 64 - low) = false := by simp; omega
        clear h h1 h2 h3
        go_enter Tryd.func50, Tryd.ntmps50
        go_wp2
        go_ret
        exact ⟨rfl, rfl⟩
theorem valid_ok (low width : Int) (w : World) (h1 : 1 ≤ width) (h2 : 0 ≤ low) (h3 : low ≤ 64 - width) : Calls Tryd.prog 50 #[.int .i64 low, .int .i64 width] w fun e w' => e = .returned (.bool true) ∧ w = w' := by
  have h4 : low < 64 := by omega
  have h5 : decide (width ≤ 64 - low) = true := by simp; omega
  go_enter Tryd.func50, Tryd.ntmps50
  go_wp2
  go_ret
  exact ⟨rfl, rfl⟩
theorem refField_bad (v low width : Int) (w : World) (h : badBits low width) : Calls Tryd.prog 18 #[.int .u64 v, .int .i64 low, .int .i64 width] w fun e w' => e = .returned (.tuple #[.int .u64 0, .int .i64 2]) ∧ w = w' := by
  have H := Lib.hid h; clear h
  go_enter Tryd.func18, Tryd.ntmps18
  go_wp2_with fail
  refine (valid_bad _ _ _ H.out).mono ?_
  rintro e w' ⟨rfl, rfl⟩
  go_wp2
  go_ret2
  exact ⟨rfl, rfl⟩
def fm (v low k : Nat) : Nat := v / 2 ^ low % 2 ^ k
set_option maxRecDepth 100000 in
theorem refField_ok (v low width : Nat) (w : World) (hv2 : v < 18446744073709551616) (h1 : 1 ≤ width) (h3 : low + width ≤ 64) : Calls Tryd.prog 18 #[.int .u64 v, .int .i64 low, .int .i64 width] w fun e w' => e = .returned (.tuple #[.int .u64 (fieldN v low width), .int .i64 0]) ∧ w = w' := by
  have Hv := Lib.hid hv2; clear hv2
  go_enter Tryd.func18, Tryd.ntmps18
  go_wp2_with fail
  refine (valid_ok _ _ _ (by omega) (by omega) (by omega)).mono ?_
  rintro e w' ⟨rfl, rfl⟩
  go_wp2
  go_loop [8, 9] (fun x i => ∃ k : Nat, k ≤ width ∧ i = .int .i64 k ∧ x = .int .u64 (fm v low k : Int)) (fun _ i => width - (intOf i).toNat)
  case atStart => exact ⟨0, Nat.zero_le _, rfl, by simp [fm, Nat.mod_one]⟩
  case round =>
    obtain ⟨k, hk, rfl, rfl⟩ := hrel
    by_cases hlt : k < width
    · go_wp2
      go_round
      case rel => exact ⟨k + 1, by omega, by go_num, by unfold fm; rw [← field_step v low k Hv.out (by omega)]⟩
      case measure => simp [intOf]; omega
    · have He := Lib.hid (show k = width by omega)
      go_wp2
      go_ret2
      exact ⟨by rw [He.out]; rfl, rfl⟩

theorem ins_bit (v low width x i : Nat) (h : low + width ≤ 64) (hi : i < 64) : insN v low width x / 2 ^ i % 2 = if low ≤ i ∧ i < low + width then x / 2 ^ (i - low) % 2 else (if i < low then v / 2 ^ i % 2 else (v ||| x * 2 ^ low) / 2 ^ i % 2) := by
  have hp : 0 < 2 ^ width := Nat.pow_pos (by decide)
  have hm : (2 ^ width - 1) * 2 ^ low < 2 ^ 64 := by have := mul_lt64 (a := 2 ^ width - 1) (low := low) (width := width) (by omega) h; omega
  rw [← Nat.toNat_testBit, ← Nat.toNat_testBit, ← Nat.toNat_testBit, ← Nat.toNat_testBit]
  unfold insN
  rw [show 18446744073709551615 - (2 ^ width - 1) * 2 ^ low = 2 ^ 64 - ((2 ^ width - 1) * 2 ^ low + 1) by omega, Nat.testBit_or, Nat.testBit_and, Nat.testBit_two_pow_sub_succ hm, ← Nat.shiftLeft_eq, ← Nat.shiftLeft_eq, Nat.testBit_shiftLeft, Nat.testBit_shiftLeft, Nat.testBit_two_pow_sub_one, Nat.testBit_or, Nat.testBit_shiftLeft]
  by_cases h1 : low ≤ i
  · by_cases h2 : i < low + width
    · have h3 : i - low < width := by omega
      simp [h1, h2, h3]
    · have h3 : ¬ i - low < width := by omega
      have h4 : ¬ i < low := by omega
      simp [h1, h2, h3, h4, hi]
  · have h4 : i < low := by omega
    simp [h1, h4, hi]
theorem ins_out (v low width x i : Nat) (hx : x < 2 ^ width) (h : low + width ≤ 64) (hi : i < 64) (ho : ¬ (low ≤ i ∧ i < low + width)) : insN v low width x / 2 ^ i % 2 = v / 2 ^ i % 2 := by
  rw [ins_bit v low width x i h hi, if_neg ho]
  by_cases h4 : i < low
  · rw [if_pos h4]
  · rw [if_neg h4, ← Nat.toNat_testBit, ← Nat.toNat_testBit, Nat.testBit_or, ← Nat.shiftLeft_eq, Nat.testBit_shiftLeft]
    have : x.testBit (i - low) = false := Nat.testBit_lt_two_pow (Nat.lt_of_lt_of_le hx (Nat.pow_le_pow_right (by decide) (by omega)))
    simp [this]
theorem ins_in (v low width x i : Nat) (h : low + width ≤ 64) (h1 : low ≤ i) (h2 : i < low + width) : insN v low width x / 2 ^ i % 2 = x / 2 ^ (i - low) % 2 := by
  rw [ins_bit v low width x i h (by omega), if_pos ⟨h1, h2⟩]
theorem insN_lt (v low width x : Nat) (hv : v < 18446744073709551616) (hx : x < 2 ^ width) (h : low + width ≤ 64) : insN v low width x < 2 ^ 64 :=
  Nat.or_lt_two_pow (Nat.and_lt_two_pow _ (by omega)) (by have := mul_lt64 (low := low) hx h; omega)
theorem refInsert_bad (v low width x : Int) (w : World) (h : badBits low width) : Calls Tryd.prog 20 #[.int .u64 v, .int .i64 low, .int .i64 width, .int .u64 x] w fun e w' => e = .returned (.tuple #[.int .u64 0, .int .i64 2]) ∧ w = w' := by
  have H := Lib.hid h; clear h
  go_enter Tryd.func20, Tryd.ntmps20
  go_wp2_with fail
  refine (valid_bad _ _ _ H.out).mono ?_
  rintro e w' ⟨rfl, rfl⟩
  go_wp2
  go_ret2
  exact ⟨rfl, rfl⟩
theorem refInsert_range (v low width x : Nat) (w : World) (h1 : 1 ≤ width) (h3 : low + width ≤ 64) (hw : width < 64) (hx : 2 ^ width ≤ x) : Calls Tryd.prog 20 #[.int .u64 v, .int .i64 low, .int .i64 width, .int .u64 x] w fun e w' => e = .returned (.tuple #[.int .u64 0, .int .i64 3]) ∧ w = w' := by
  have hd : (0 : Int) < (x : Int) / 2 ^ width := by
    rw [div_cast]
    have : 0 < x / 2 ^ width := Nat.div_pos hx (Nat.pow_pos (by decide))
    omega
  clear hx
  go_enter Tryd.func20, Tryd.ntmps20
  go_wp2_with fail
  refine (valid_ok _ _ _ (by omega) (by omega) (by omega)).mono ?_
  rintro e w' ⟨rfl, rfl⟩
  go_wp2
  go_ret2
  exact ⟨rfl, rfl⟩
def im (v low width x k : Nat) : Nat := insN v low width x % 2 ^ k
theorem ins_step (v low width x k b : Nat) (hk : k < 64) (hb : b = insN v low width x / 2 ^ k % 2) :
    bits .or .u64 (im v low width x k : Int) (IntKind.u64.wrap ((b : Int) * 2 ^ k)) = (im v low width x (k + 1) : Int) := by
  subst hb; exact or_bit _ _ hk
set_option maxRecDepth 100000 in
theorem refInsert_ok (v low width x : Nat) (w : World) (hv : v < 18446744073709551616) (hx64 : x < 18446744073709551616) (h1 : 1 ≤ width) (h3 : low + width ≤ 64) (hx : x < 2 ^ width) :
    Calls Tryd.prog 20 #[.int .u64 v, .int .i64 low, .int .i64 width, .int .u64 x] w fun e w' => e = .returned (.tuple #[.int .u64 (insN v low width x), .int .i64 0]) ∧ w = w' := by
  have Hv := Lib.hid hv; clear hv
  have Hx64 := Lib.hid hx64; clear hx64
  have hd : (x : Int) / 2 ^ width = 0 := by rw [div_cast, Nat.div_eq_of_lt hx]; rfl
  have Hx := Lib.hid hx; clear hx
  cases dw : decide ((width : Int) < 64) with
  | true =>
    have hw64 : (width : Int) < 64 := by simpa using dw
    go_enter Tryd.func20, Tryd.ntmps20
    go_wp2_with fail
    refine (valid_ok _ _ _ (by omega) (by omega) (by omega)).mono ?_
    rintro e w' ⟨rfl, rfl⟩
    go_wp2
    clear dw hd
    go_loop [10, 11] (fun o i => ∃ k : Nat, k ≤ 64 ∧ i = .int .i64 k ∧ o = .int .u64 (im v low width x k : Int)) (fun _ i => 64 - (intOf i).toNat)
    case atStart => exact ⟨0, Nat.zero_le _, rfl, by simp [im, Nat.mod_one]⟩
    case round =>
      obtain ⟨k, hk, rfl, rfl⟩ := hrel
      by_cases hlt : k < 64
      · by_cases hin : low ≤ k ∧ k < low + width
        · have hi1 := hin.1
          have hi2 := hin.2
          clear hin
          go_wp2
          go_round
          case rel => exact ⟨k + 1, by omega, by go_num, by rw [and_div _ _ Hx64.out, ins_step v low width x k _ hlt (ins_in v low width x k h3 hi1 hi2).symm]⟩
          case measure => simp [intOf]; omega
        · have Hin := Lib.hid hin
          by_cases hi1 : low ≤ k
          · have hi2 : low + width ≤ k := by omega
            clear hin
            go_wp2
            go_round
            case rel => exact ⟨k + 1, by omega, by go_num, by rw [and_div _ _ Hv.out, ins_step v low width x k _ hlt (ins_out v low width x k Hx.out h3 hlt Hin.out).symm]⟩
            case measure => simp [intOf]; omega
          · have hi2 : k < low := by omega
            clear hin hi1
            go_wp2
            go_round
            case rel => exact ⟨k + 1, by omega, by go_num, by rw [and_div _ _ Hv.out, ins_step v low width x k _ hlt (ins_out v low width x k Hx.out h3 hlt Hin.out).symm]⟩
            case measure => simp [intOf]; omega
      · have He := Lib.hid (show k = 64 by omega)
        go_wp2
        go_ret2
        refine ⟨?_, rfl⟩
        have hfin : im v low width x k = insN v low width x := by rw [He.out]; exact Nat.mod_eq_of_lt (insN_lt v low width x Hv.out Hx.out h3)
        exact congrArg (fun z : Nat => Ending.returned (.tuple #[.int .u64 (z : Int), .int .i64 0])) hfin
  | false =>
    go_enter Tryd.func20, Tryd.ntmps20
    go_wp2_with fail
    refine (valid_ok _ _ _ (by omega) (by omega) (by omega)).mono ?_
    rintro e w' ⟨rfl, rfl⟩
    go_wp2
    clear dw hd
    go_loop [10, 11] (fun o i => ∃ k : Nat, k ≤ 64 ∧ i = .int .i64 k ∧ o = .int .u64 (im v low width x k : Int)) (fun _ i => 64 - (intOf i).toNat)
    case atStart => exact ⟨0, Nat.zero_le _, rfl, by simp [im, Nat.mod_one]⟩
    case round =>
      obtain ⟨k, hk, rfl, rfl⟩ := hrel
      by_cases hlt : k < 64
      · by_cases hin : low ≤ k ∧ k < low + width
        · have hi1 := hin.1
          have hi2 := hin.2
          clear hin
          go_wp2
          go_round
          case rel => exact ⟨k + 1, by omega, by go_num, by rw [and_div _ _ Hx64.out, ins_step v low width x k _ hlt (ins_in v low width x k h3 hi1 hi2).symm]⟩
          case measure => simp [intOf]; omega
        · have Hin := Lib.hid hin
          by_cases hi1 : low ≤ k
          · have hi2 : low + width ≤ k := by omega
            clear hin
            go_wp2
            go_round
            case rel => exact ⟨k + 1, by omega, by go_num, by rw [and_div _ _ Hv.out, ins_step v low width x k _ hlt (ins_out v low width x k Hx.out h3 hlt Hin.out).symm]⟩
            case measure => simp [intOf]; omega
          · have hi2 : k < low := by omega
            clear hin hi1
            go_wp2
            go_round
            case rel => exact ⟨k + 1, by omega, by go_num, by rw [and_div _ _ Hv.out, ins_step v low width x k _ hlt (ins_out v low width x k Hx.out h3 hlt Hin.out).symm]⟩
            case measure => simp [intOf]; omega
      · have He := Lib.hid (show k = 64 by omega)
        go_wp2
        go_ret2
        refine ⟨?_, rfl⟩
        have hfin : im v low width x k = insN v low width x := by rw [He.out]; exact Nat.mod_eq_of_lt (insN_lt v low width x Hv.out Hx.out h3)
        exact congrArg (fun z : Nat => Ending.returned (.tuple #[.int .u64 (z : Int), .int .i64 0])) hfin
end Go.Proofs.YtmolpnhgmdpdmaaDoor
