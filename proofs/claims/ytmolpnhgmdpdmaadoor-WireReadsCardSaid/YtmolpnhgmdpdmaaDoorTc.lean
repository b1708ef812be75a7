/- The contracts of wire.Get, Field and Insert: the value of a field, a bit field, and an integer with a bit field replaced. Conditions stand in each theorem. -/
import Derived.Test.YtmolpnhgmdpdmaaDoorTb
import Derived.Laws.BitsAllLaws
namespace Go.Proofs.YtmolpnhgmdpdmaaDoor
open Go.RowKit
set_option linter.unusedVariables false
set_option maxHeartbeats 400000

/-- The value of a field. -/
def getV : List UInt8 → Nat
  | [] => 0
  | b :: t => b.toNat + 256 * getV t
theorem getV_lt : ∀ l : List UInt8, getV l < 256 ^ l.length
  | [] => by simp [getV]
  | b :: t => by
    have h := getV_lt t
    have hb : b.toNat < 256 := b.toNat_lt
    simp only [getV, List.length_cons, Nat.pow_succ]
    omega
theorem getV_snoc : ∀ (l : List UInt8) (b : UInt8), getV (l ++ [b]) = getV l + b.toNat * 256 ^ l.length
  | [], b => by simp [getV]
  | a :: t, b => by
    simp only [List.cons_append, getV, getV_snoc t b, List.length_cons, Nat.pow_succ, Nat.mul_add, Nat.add_assoc]
    congr 2
    rw [Nat.mul_left_comm, Nat.mul_comm 256]
theorem getV_take (l : List UInt8) (k : Nat) (h : k < l.length) : getV (l.take (k + 1)) = getV (l.take k) + l[k].toNat * 256 ^ k := by
  rw [List.take_succ_eq_append_getElem h, getV_snoc, List.length_take, Nat.min_eq_left (by omega)]
def getE (l : List UInt8) : Int := if l.length < 1 ∨ 8 < l.length then 2 else 0
def getZ (l : List UInt8) : Int := if l.length < 1 ∨ 8 < l.length then 0 else getV l

theorem pow256 (k : Nat) : (256 : Nat) ^ k = 2 ^ (8 * k) := by rw [Nat.pow_mul]
theorem get_step (l : List UInt8) (k : Nat) (h : k < l.length) (h8 : l.length ≤ 8) :
    bits .or .u64 (getV (l.take k) : Int) (IntKind.u64.wrap ((l[k].toNat : Int) * 2 ^ (8 * k))) = (getV (l.take (k + 1)) : Int) := by
  have hb : l[k].toNat < 256 := l[k].toNat_lt
  have hk : 256 ^ (k + 1) ≤ 256 ^ 8 := Nat.pow_le_pow_right (by decide) (by omega)
  have hl : getV (l.take k) < 256 ^ k := by
    have := getV_lt (l.take k)
    rwa [List.length_take, Nat.min_eq_left (by omega)] at this
  have hm : l[k].toNat * 256 ^ k < 18446744073709551616 := by
    have h1 : l[k].toNat * 256 ^ k < 256 * 256 ^ k := Nat.mul_lt_mul_of_pos_right hb (Nat.pow_pos (by decide))
    rw [Nat.pow_succ] at hk
    omega
  have e : ((l[k].toNat : Int) * 2 ^ (8 * k)) = ((l[k].toNat * 256 ^ k : Nat) : Int) := by rw [pow256]; simp
  have hw : IntKind.u64.wrap ((l[k].toNat * 256 ^ k : Nat) : Int) = ((l[k].toNat * 256 ^ k : Nat) : Int) := by
    rw [IntKind.wrap_u64]
    exact Int.emod_eq_of_lt (by omega) (by omega)
  have hl2 : getV (l.take k) < 18446744073709551616 := by
    have : 256 ^ k ≤ 256 ^ (k + 1) := Nat.pow_le_pow_right (by decide) (by omega)
    omega
  rw [e, hw, u64_or_nat _ _ hl2 hm, Nat.or_comm, nat_join (8 * k) _ _ (by rw [pow256, Nat.mul_mod_left]) (by rw [← pow256]; exact hl), getV_take l k h, Nat.add_comm]
theorem Get_any (v : Value) (l : List UInt8) (w : World) (h : Byt w v l) (hl : l.length ≤ 9223372036854775807) : Calls Tryd.prog 15 #[v] w fun e w' => e = .returned (.tuple #[.int .u64 (getZ l), .int .i64 (getE l)]) ∧ w = w' := by
  obtain ⟨A, c, rfl, hc, hr⟩ := h
  by_cases hb : l.length < 1 ∨ 8 < l.length
  · have hz : getZ l = 0 ∧ getE l = 2 := ⟨if_pos hb, if_pos hb⟩
    have HZ := Lib.hid hz; clear hz hr
    have Hb := Lib.hid hb; clear hb
    have Hl := Lib.hid hl; clear hl
    go_enter Tryd.func15, Tryd.ntmps15
    go_wp2_with fail
    refine (checkSize_bad _ _ (by have := Hb.out; omega)).mono ?_
    rintro e w' ⟨rfl, rfl⟩
    go_wp2
    go_ret2
    exact ⟨by rw [HZ.out.1, HZ.out.2]; rfl, rfl⟩
  · obtain ⟨g, o, rfl, hg, hcell⟩ := hr (by omega)
    have hz : getZ l = getV l ∧ getE l = 0 := ⟨if_neg hb, if_neg hb⟩
    have HZ := Lib.hid hz; clear hz
    have h1 : 1 ≤ l.length := by omega
    have h8 : l.length ≤ 8 := by omega
    clear hb hl
    have Hcell := Lib.hid hcell; clear hcell
    go_enter Tryd.func15, Tryd.ntmps15
    go_wp2_with fail
    refine (checkSize_ok _ _ (by omega) (by omega)).mono ?_
    rintro e w' ⟨rfl, rfl⟩
    go_wp2
    go_loop [5, 16] (fun x i => ∃ k : Nat, k ≤ l.length ∧ i = .int .i64 k ∧ x = .int .u64 (getV (l.take k) : Int)) (fun _ i => l.length - (intOf i).toNat)
    case atStart => exact ⟨0, Nat.zero_le _, rfl, by simp [getV]⟩
    case round =>
      obtain ⟨k, hk, rfl, rfl⟩ := hrel
      by_cases hlt : k < l.length
      · have hck := Hcell.out k hlt
        have hb := l[k].toNat_lt
        go_wp2
        go_round
        case rel => exact ⟨k + 1, by omega, by go_num, by rw [get_step l k hlt h8]⟩
        case measure => simp [intOf]; omega
      · have He := Lib.hid (show k = l.length by omega)
        go_wp2
        go_ret2
        exact ⟨by rw [HZ.out.1, HZ.out.2, He.out, List.take_length]; rfl, rfl⟩

def badBits (low width : Int) : Prop := width < 1 ∨ low < 0 ∨ 64 - width < low
theorem checkBits_bad (low width : Int) (w : World) (hw : width ≤ 9223372036854775807) (h : badBits low width) : Calls Tryd.prog 48 #[.int .i64 low, .int .i64 width] w fun e w' => e = .returned (.int .i64 2) ∧ w = w' := by
  unfold badBits at h
  by_cases h1 : width < 1
  · clear h
    go_enter Tryd.func48, Tryd.ntmps48
    go_wp2
    go_ret
    exact ⟨rfl, rfl⟩
  · by_cases h2 : low < 0
    · have h1' : 1 ≤ width := by omega
      clear h h1
      go_enter Tryd.func48, Tryd.ntmps48
      go_wp2
      go_ret
      exact ⟨rfl, rfl⟩
    · have h1' : 1 ≤ width := by omega
      have h2' : 0 ≤ low := by omega
      have h3 : 64 - width < low := by omega
      clear h h1 h2
      go_enter Tryd.func48, Tryd.ntmps48
      go_wp2
      go_ret
      exact ⟨rfl, rfl⟩
theorem checkBits_ok (low width : Int) (w : World) (h1 : 1 ≤ width) (h2 : 0 ≤ low) (h3 : low ≤ 64 - width) : Calls Tryd.prog 48 #[.int .i64 low, .int .i64 width] w fun e w' => e = .returned (.int .i64 0) ∧ w = w' := by
  go_enter Tryd.func48, Tryd.ntmps48
  go_wp2
  go_ret
  exact ⟨rfl, rfl⟩
theorem Field_bad (v low width : Int) (w : World) (hw : width ≤ 9223372036854775807) (h : badBits low width) : Calls Tryd.prog 17 #[.int .u64 v, .int .i64 low, .int .i64 width] w fun e w' => e = .returned (.tuple #[.int .u64 0, .int .i64 2]) ∧ w = w' := by
  have H := Lib.hid h; clear h
  go_enter Tryd.func17, Tryd.ntmps17
  go_wp2_with fail
  refine (checkBits_bad _ _ _ hw H.out).mono ?_
  rintro e w' ⟨rfl, rfl⟩
  go_wp2
  go_ret2
  exact ⟨rfl, rfl⟩
theorem below_drewN {B : Nat} {a w : World} (h : Below B a w) (n : Nat) : Below B a (w.drewN n) := ⟨h.os, h.tape, h.output, h.size, h.block⟩
def fieldN (v low width : Nat) : Nat := v / 2 ^ low % 2 ^ width
theorem onesZ_nat (k : Nat) : onesZ k = ((2 ^ k - 1 : Nat) : Int) := by
  unfold onesZ
  have : 0 < 2 ^ k := Nat.pow_pos (by decide)
  have e : (2 : Int) ^ k = ((2 ^ k : Nat) : Int) := by simp
  rw [e]; omega
theorem pow_le64 {k : Nat} (h : k ≤ 64) : 2 ^ k ≤ 18446744073709551616 := Nat.le_trans (Nat.pow_le_pow_right (by decide) h) (Nat.le_refl (2 ^ 64))
theorem field_math (v low width : Nat) (hv : v < 18446744073709551616) (hw : width ≤ 64) : bits .and .u64 ((v : Int) / 2 ^ low) (onesZ width) = (fieldN v low width : Int) := by
  have e : (v : Int) / 2 ^ low = ((v / 2 ^ low : Nat) : Int) := by simp
  have h1 : v / 2 ^ low ≤ v := Nat.div_le_self _ _
  have h2 := pow_le64 hw
  rw [e, onesZ_nat, u64_and_nat _ _ (by omega) (by have : 0 < 2 ^ width := Nat.pow_pos (by decide); omega), Nat.and_two_pow_sub_one_eq_mod]
  rfl
theorem Field_ok (v low width : Int) (w : World) (hv : 0 ≤ v) (hv2 : v ≤ 18446744073709551615) (h1 : 1 ≤ width) (h2 : 0 ≤ low) (h3 : low ≤ 64 - width) : Calls Tryd.prog 17 #[.int .u64 v, .int .i64 low, .int .i64 width] w fun e w' => e = .returned (.tuple #[.int .u64 (fieldN v.toNat low.toNat width.toNat), .int .i64 0]) ∧ Below w.heap.size w w' := by
  have Hv := Lib.hid hv2; clear hv2
  go_enter Tryd.func17, Tryd.ntmps17
  go_wp2_with fail
  refine (checkBits_ok _ _ _ h1 h2 h3).mono ?_
  rintro e w' ⟨rfl, rfl⟩
  go_wp2_with fail
  go_quiet ((go_at_call 49; exact Calls.quiet_of_same ((ones_any _ _ (by omega) (by omega)).mono fun _ _ h => ⟨h.1, h.2.symm⟩)))
  go_wp2
  go_ret2
  refine ⟨?_, below_drewN (Below.refl _ _) _⟩
  have hm := field_math v.toNat low.toNat width.toNat (by have := Hv.out; omega) (by omega)
  rw [Int.toNat_of_nonneg hv] at hm
  exact congrArg (fun z : Int => Ending.returned (.tuple #[.int .u64 z, .int .i64 0])) hm

theorem Insert_bad (v low width x : Int) (w : World) (hw : width ≤ 9223372036854775807) (h : badBits low width) : Calls Tryd.prog 19 #[.int .u64 v, .int .i64 low, .int .i64 width, .int .u64 x] w fun e w' => e = .returned (.tuple #[.int .u64 0, .int .i64 2]) ∧ w = w' := by
  have H := Lib.hid h; clear h
  go_enter Tryd.func19, Tryd.ntmps19
  go_wp2_with fail
  refine (checkBits_bad _ _ _ hw H.out).mono ?_
  rintro e w' ⟨rfl, rfl⟩
  go_wp2
  go_ret2
  exact ⟨rfl, rfl⟩
theorem Insert_range (v low width x : Int) (w : World) (h1 : 1 ≤ width) (h2 : 0 ≤ low) (h3 : low ≤ 64 - width) (hx : onesZ width.toNat < x) : Calls Tryd.prog 19 #[.int .u64 v, .int .i64 low, .int .i64 width, .int .u64 x] w fun e w' => e = .returned (.tuple #[.int .u64 0, .int .i64 3]) ∧ w = w' := by
  go_enter Tryd.func19, Tryd.ntmps19
  go_wp2_with fail
  refine (checkBits_ok _ _ _ h1 h2 h3).mono ?_
  rintro e w' ⟨rfl, rfl⟩
  go_wp2_with fail
  refine (ones_any _ _ (by omega) (by omega)).mono ?_
  rintro e w' ⟨rfl, rfl⟩
  go_wp2
  go_ret2
  exact ⟨rfl, rfl⟩
/-- v with the bits of its bit field replaced by x. -/
def insN (v low width x : Nat) : Nat := (v &&& (18446744073709551615 - (2 ^ width - 1) * 2 ^ low)) ||| x * 2 ^ low
theorem mul_lt64 {a low width : Nat} (ha : a < 2 ^ width) (h : low + width ≤ 64) : a * 2 ^ low < 18446744073709551616 := by
  have h1 : a * 2 ^ low < 2 ^ width * 2 ^ low := Nat.mul_lt_mul_of_pos_right ha (Nat.pow_pos (by decide))
  rw [← Nat.pow_add] at h1
  have := pow_le64 (k := width + low) (by omega)
  omega
theorem wrap_mul {a low width : Nat} (ha : a < 2 ^ width) (h : low + width ≤ 64) : IntKind.u64.wrap ((a : Int) * 2 ^ low) = ((a * 2 ^ low : Nat) : Int) := by
  have e : ((a : Int) * 2 ^ low) = ((a * 2 ^ low : Nat) : Int) := by simp
  rw [e, IntKind.wrap_u64]
  have := mul_lt64 ha h
  exact Int.emod_eq_of_lt (by omega) (by omega)
theorem ins_math (v low width x : Nat) (hv : v < 18446744073709551616) (hx : x < 2 ^ width) (h : low + width ≤ 64) :
    bits .or .u64 (bits .andNot .u64 (v : Int) (IntKind.u64.wrap (onesZ width * 2 ^ low))) (IntKind.u64.wrap ((x : Int) * 2 ^ low)) = (insN v low width x : Int) := by
  have hp : 0 < 2 ^ width := Nat.pow_pos (by decide)
  have ho := mul_lt64 (a := 2 ^ width - 1) (low := low) (width := width) (by omega) h
  rw [onesZ_nat, wrap_mul (by omega) h, wrap_mul hx h, u64_andNot_nat _ _ hv ho, u64_or_nat _ _ ?_ (mul_lt64 hx h)]
  · rfl
  · have := Nat.and_le_left (n := v) (m := 18446744073709551615 - (2 ^ width - 1) * 2 ^ low)
    omega
theorem Insert_ok (v low width x : Int) (w : World) (hv : 0 ≤ v) (hv2 : v ≤ 18446744073709551615) (h1 : 1 ≤ width) (h2 : 0 ≤ low) (h3 : low ≤ 64 - width) (hx0 : 0 ≤ x) (hx : x ≤ onesZ width.toNat) : Calls Tryd.prog 19 #[.int .u64 v, .int .i64 low, .int .i64 width, .int .u64 x] w fun e w' => e = .returned (.tuple #[.int .u64 (insN v.toNat low.toNat width.toNat x.toNat), .int .i64 0]) ∧ Below w.heap.size w w' := by
  have Hv := Lib.hid hv2; clear hv2
  go_enter Tryd.func19, Tryd.ntmps19
  go_wp2_with fail
  refine (checkBits_ok _ _ _ h1 h2 h3).mono ?_
  rintro e w' ⟨rfl, rfl⟩
  go_wp2_with fail
  refine (ones_any _ _ (by omega) (by omega)).mono ?_
  rintro e w' ⟨rfl, rfl⟩
  go_wp2_with fail
  go_quiet ((go_at_call 49; exact Calls.quiet_of_same ((ones_any _ _ (by omega) (by omega)).mono fun _ _ h => ⟨h.1, h.2.symm⟩)))
  go_wp2
  go_ret2
  refine ⟨?_, below_drewN (Below.refl _ _) _⟩
  have hp : 0 < 2 ^ width.toNat := Nat.pow_pos (by decide)
  have hm := ins_math v.toNat low.toNat width.toNat x.toNat (by have := Hv.out; omega) (by rw [onesZ_nat] at hx; omega) (by omega)
  rw [Int.toNat_of_nonneg hv, Int.toNat_of_nonneg hx0] at hm
  exact congrArg (fun z : Int => Ending.returned (.tuple #[.int .u64 z, .int .i64 0])) hm
end Go.Proofs.YtmolpnhgmdpdmaaDoor
