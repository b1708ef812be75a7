/- The contract of wire.Get. Conditions stand in the theorem. -/
import Derived.Test.YtcebockdfkjoiaaDoorA
import Derived.Laws.BitsAll
namespace Go.Proofs.YtcebockdfkjoiaaDoor
open Go.RowKit
set_option linter.unusedVariables false
set_option maxHeartbeats 400000

def getE (l : List UInt8) : Int := if l.length < 1 ∨ 8 < l.length then 2 else 0
def getZ (l : List UInt8) : Int := if l.length < 1 ∨ 8 < l.length then 0 else getV l
theorem get_step (l : List UInt8) (k : Nat) (h : k < l.length) (h8 : l.length ≤ 8) :
    bits .or .u64 (getV (l.take k) : Int) (IntKind.u64.wrap ((l[k].toNat : Int) * 2 ^ (8 * k))) = (getV (l.take (k + 1)) : Int) := by
  have hb : l[k].toNat < 256 := l[k].toNat_lt
  have hk : 256 ^ (k + 1) ≤ 256 ^ 8 := Nat.pow_le_pow_right (by decide) (by omega)
  have hl : getV (l.take k) < 256 ^ k := by
    have := getV_lt (l.take k)
    rwa [List.length_take, Nat.min_eq_left (by omega)] at this
  have hm : l[k].toNat * 256 ^ k < 18446744073709551616 := by
    have h1 : l[k].toNat * 256 ^ k < 256 * 256 ^ k := Nat.mul_lt_mul_of_pos_right hb (Nat.pow_pos (by decide))
    rw [Nat.pow_succ] at hk
    omega
  have e : ((l[k].toNat : Int) * 2 ^ (8 * k)) = ((l[k].toNat * 256 ^ k : Nat) : Int) := by rw [pow256]; simp
  have hw : IntKind.u64.wrap ((l[k].toNat * 256 ^ k : Nat) : Int) = ((l[k].toNat * 256 ^ k : Nat) : Int) := by
    rw [IntKind.wrap_u64]
    exact Int.emod_eq_of_lt (by omega) (by omega)
  have hl2 : getV (l.take k) < 18446744073709551616 := by
    have : 256 ^ k ≤ 256 ^ (k + 1) := Nat.pow_le_pow_right (by decide) (by omega)
    omega
  rw [e, hw, u64_or_nat _ _ hl2 hm, Nat.or_comm, nat_join (8 * k) _ _ (by rw [pow256, Nat.mul_mod_left]) (by rw [← pow256]; exact hl), getV_take l k h, Nat.add_comm]
theorem Get_any (v : Value) (l : List UInt8) (w : World) (h : Byt w v l) (hl : l.length ≤ 9223372036854775807) : Calls Tryd.prog 27 #[v] w fun e w' => e = .returned (.tuple #[.int .u64 (getZ l), .int .i64 (getE l)]) ∧ w = w' := by
  obtain ⟨A, c, rfl, hc, hr⟩ := h
  by_cases hb : l.length < 1 ∨ 8 < l.length
  · have hz : getZ l = 0 ∧ getE l = 2 := ⟨if_pos hb, if_pos hb⟩
    have HZ := Lib.hid hz; clear hz hr
    have Hb := Lib.hid hb; clear hb
    have Hl := Lib.hid hl; clear hl
    go_enter Tryd.func27, Tryd.ntmps27
    go_wp2_with fail
    refine (checkSize_bad _ _ (by have := Hb.out; omega)).mono ?_
    rintro e w' ⟨rfl, rfl⟩
    go_wp2
    go_ret2
    exact ⟨by rw [HZ.out.1, HZ.out.2]; rfl, rfl⟩
  · obtain ⟨g, o, rfl, hg, hcell⟩ := hr (by omega)
    have hz : getZ l = getV l ∧ getE l = 0 := ⟨if_neg hb, if_neg hb⟩
    have HZ := Lib.hid hz; clear hz
    have h1 : 1 ≤ l.length := by omega
    have h8 : l.length ≤ 8 := by omega
    clear hb hl
    have Hcell := Lib.hid hcell; clear hcell
    go_enter Tryd.func27, Tryd.ntmps27
    go_wp2_with fail
    refine (checkSize_ok _ _ (by omega) (by omega)).mono ?_
    rintro e w' ⟨rfl, rfl⟩
    go_wp2
    go_loop [5, 16] (fun x i => ∃ k : Nat, k ≤ l.length ∧ i = .int .i64 k ∧ x = .int .u64 (getV (l.take k) : Int)) (fun _ i => l.length - (intOf i).toNat)
    case atStart => exact ⟨0, Nat.zero_le _, rfl, by simp [getV]⟩
    case round =>
      obtain ⟨k, hk, rfl, rfl⟩ := hrel
      by_cases hlt : k < l.length
      · have hck := Hcell.out k hlt
        have hb := l[k].toNat_lt
        go_wp2
        go_round
        case rel => exact ⟨k + 1, by omega, by go_num, by rw [get_step l k hlt h8]⟩
        case measure => simp [intOf]; omega
      · have He := Lib.hid (show k = l.length by omega)
        go_wp2
        go_ret2
        exact ⟨by rw [HZ.out.1, HZ.out.2, He.out, List.take_length]; rfl, rfl⟩
end Go.Proofs.YtcebockdfkjoiaaDoor
