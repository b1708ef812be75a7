/- The plain mathematics of a sequence followed by its checksum. No condition. -/
import Derived.Test.YtijbkjkienjdaaaDoorM
namespace Go.Proofs.YtijbkjkienjdaaaDoor

theorem it32_pow (k h : Nat) : it f32 k (2 ^ k * h) = h := by
  induction k generalizing h with
  | zero => simp [it]
  | succ k ih =>
    have e : 2 ^ (k + 1) * h = 2 * (2 ^ k * h) := by rw [Nat.pow_succ, Nat.mul_comm (2 ^ k) 2, Nat.mul_assoc]
    rw [e, it, f32_two, ih]
theorem step32_late (k x c : Nat) : step32 (it f32 k x) c = it f32 (k + 8) (x ^^^ 2 ^ k * c) := by
  rw [it32_xor, it_add, it_add, it32_pow, ← it32_xor]; rfl
theorem upd32_four (s : Nat) (a b c d : UInt8) : upd32 s [a, b, c, d] = it f32 32 (s ^^^ a.toNat ^^^ 2 ^ 8 * b.toNat ^^^ 2 ^ 16 * c.toNat ^^^ 2 ^ 24 * d.toNat) := by
  rw [upd32_cons, upd32_cons, upd32_cons, upd32_cons]
  rw [show step32 s a.toNat = it f32 8 (s ^^^ a.toNat) from rfl, step32_late, step32_late, step32_late]
  simp only [upd32, List.foldl_nil, Nat.reduceAdd]
/-- The four bytes of a checksum, the least significant one first. -/
def le4 (c : Nat) : List UInt8 := [UInt8.ofNat c, UInt8.ofNat (c / 256), UInt8.ofNat (c / 65536), UInt8.ofNat (c / 16777216)]
def be2 (c : Nat) : List UInt8 := [UInt8.ofNat (c / 256), UInt8.ofNat c]
theorem le4_xor (s c : Nat) (h : c < 4294967296) : s ^^^ (UInt8.ofNat c).toNat ^^^ 2 ^ 8 * (UInt8.ofNat (c / 256)).toNat ^^^ 2 ^ 16 * (UInt8.ofNat (c / 65536)).toNat ^^^ 2 ^ 24 * (UInt8.ofNat (c / 16777216)).toNat = s ^^^ c := by
  simp only [UInt8.toNat_ofNat']
  rw [Nat.xor_assoc, Nat.xor_assoc, Nat.xor_assoc]
  congr 1
  rw [Nat.xor_comm (2 ^ 16 * _), xor_parts 24 _ _ (by omega), Nat.xor_comm (2 ^ 8 * _), show 2 ^ 24 * (c / 16777216 % 2 ^ 8) + 2 ^ 16 * (c / 65536 % 2 ^ 8) = 2 ^ 16 * (c / 65536) by omega, xor_parts 16 _ _ (by omega), Nat.xor_comm]
  rw [show 2 ^ 16 * (c / 65536) + 2 ^ 8 * (c / 256 % 2 ^ 8) = 2 ^ 8 * (c / 256) by omega, xor_parts 8 _ _ (by omega)]
  omega
theorem residue32 (l : List UInt8) : crc32 (l ++ le4 (crc32 l)) = 1214729159 := by
  have hq := upd32_lt (s := 4294967295) (by decide) l
  have hc := crc32_lt l
  rw [show crc32 (l ++ le4 (crc32 l)) = 4294967295 ^^^ upd32 (upd32 4294967295 l) (le4 (crc32 l)) from congrArg _ (upd32_append _ _ _)]
  rw [le4, upd32_four, le4_xor _ _ hc, show crc32 l = 4294967295 ^^^ upd32 4294967295 l from rfl]
  rw [Nat.xor_comm 4294967295 (upd32 4294967295 l), ← Nat.xor_assoc, Nat.xor_self, Nat.zero_xor]
  decide +kernel
theorem it16_small {l : Nat} (h : l < 256) : it f16 8 l = l * 256 := by
  have e : ∀ x, x < 32768 → f16 x = x * 2 := fun x hx => by unfold f16; rw [if_neg (by omega)]; omega
  have e4 : it f16 4 l = l * 16 := it16_four (by omega)
  rw [show (8 : Nat) = 4 + 4 from rfl, it_add, e4]
  simp only [it]
  rw [e (l * 16) (by omega), e (l * 16 * 2) (by omega), e (l * 16 * 2 * 2) (by omega), e (l * 16 * 2 * 2 * 2) (by omega)]; omega
theorem residue16 (l : List UInt8) : crc16 (l ++ be2 (crc16 l)) = 0 := by
  have hc := crc16_lt l
  rw [show crc16 (l ++ be2 (crc16 l)) = upd16 (crc16 l) (be2 (crc16 l)) from upd16_append _ _ _]
  generalize crc16 l = s at *
  rw [be2, upd16_cons, upd16_cons]
  simp only [UInt8.toNat_ofNat']
  have e1 : step16 s (s / 256 % 2 ^ 8) = s % 256 * 256 := by
    unfold step16
    have : s ^^^ s / 256 % 2 ^ 8 * 256 = s % 256 := by
      have k := xor_parts 8 (s / 256) (s % 256) (by omega)
      rw [show 2 ^ 8 * (s / 256) + s % 256 = s by omega] at k
      conv => lhs; arg 1; rw [← k]
      rw [show s / 256 % 2 ^ 8 * 256 = 2 ^ 8 * (s / 256) by omega, Nat.xor_comm, ← Nat.xor_assoc, Nat.xor_self, Nat.zero_xor]
    rw [this, it16_small (by omega)]
  rw [e1]
  unfold step16
  rw [show s % 256 * 256 = s % 2 ^ 8 * 256 from rfl, Nat.xor_self]
  decide +kernel
end Go.Proofs.YtijbkjkienjdaaaDoor
