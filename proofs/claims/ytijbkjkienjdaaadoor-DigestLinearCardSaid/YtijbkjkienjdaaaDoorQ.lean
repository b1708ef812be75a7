/- The plain mathematics of bits that are changed within a short window. No condition. -/
import Derived.Test.YtijbkjkienjdaaaDoorN
namespace Go.Proofs.YtijbkjkienjdaaaDoor

theorem step32_late2 (A B c : Nat) : step32 (A ^^^ B) c = step32 A c ^^^ it f32 8 B := by
  unfold step32
  rw [← it32_xor, Nat.xor_assoc, Nat.xor_comm B c, ← Nat.xor_assoc]
theorem step32_flip (s c m : Nat) : step32 s (c ^^^ m) = step32 s c ^^^ it f32 8 m := by
  unfold step32
  rw [← it32_xor, Nat.xor_assoc]
theorem upd32_late (A B : Nat) (l : List UInt8) : upd32 (A ^^^ B) l = upd32 A l ^^^ it f32 (8 * l.length) B := by
  induction l generalizing A B with
  | nil => simp only [upd32, List.foldl_nil, List.length_nil, Nat.mul_zero, it]
  | cons c l ih =>
    rw [upd32_cons, upd32_cons, step32_late2, ih, List.length_cons, show 8 * (l.length + 1) = 8 + 8 * l.length by omega, it_add]
theorem set_parts (l : List UInt8) (j : Nat) (h : j < l.length) (c : UInt8) : l.set j c = l.take j ++ c :: l.drop (j + 1) := by
  rw [List.set_eq_take_append_cons_drop, if_pos h]
theorem own_parts (l : List UInt8) (j : Nat) (h : j < l.length) : l = l.take j ++ l[j] :: l.drop (j + 1) := by simp
theorem flip32 (s : Nat) (l : List UInt8) (j : Nat) (h : j < l.length) (m : UInt8) : upd32 s (l.set j (l[j] ^^^ m)) = upd32 s l ^^^ it f32 (8 * (l.length - j)) m.toNat := by
  rw [set_parts l j h]
  conv => rhs; arg 1; arg 2; rw [own_parts l j h]
  rw [upd32_append, upd32_append, upd32_cons, upd32_cons, UInt8.toNat_xor, step32_flip, upd32_late, List.length_drop, ← it_add]
  congr 2
  omega
theorem step16_late2 {A B : Nat} (hA : A < 65536) (hB : B < 65536) (c : UInt8) : step16 (A ^^^ B) c.toNat = step16 A c.toNat ^^^ it f16 8 B := by
  have hc := byte_lt c
  unfold step16
  rw [← it16_xor 8 (Nat.xor_lt_two_pow (n := 16) hA (by omega)) hB, Nat.xor_assoc, Nat.xor_comm B, ← Nat.xor_assoc]
theorem shl_xor (a b : Nat) : (a ^^^ b) * 256 = a * 256 ^^^ b * 256 := by
  have := Nat.shiftLeft_xor_distrib (a := a) (b := b) (i := 8)
  simpa [Nat.shiftLeft_eq] using this
theorem step16_flip {s : Nat} (hs : s < 65536) (c m : UInt8) : step16 s (c.toNat ^^^ m.toNat) = step16 s c.toNat ^^^ it f16 8 (m.toNat * 256) := by
  have hc := byte_lt c
  have hm := byte_lt m
  unfold step16
  rw [← it16_xor 8 (Nat.xor_lt_two_pow (n := 16) hs (by omega)) (by omega), Nat.xor_assoc, shl_xor]
theorem upd16_late {A B : Nat} (hA : A < 65536) (hB : B < 65536) (l : List UInt8) : upd16 (A ^^^ B) l = upd16 A l ^^^ it f16 (8 * l.length) B := by
  induction l generalizing A B with
  | nil => simp only [upd16, List.foldl_nil, List.length_nil, Nat.mul_zero, it]
  | cons c l ih =>
    rw [upd16_cons, upd16_cons, step16_late2 hA hB, ih (step16_lt hA c) (it16_lt hB), List.length_cons, show 8 * (l.length + 1) = 8 + 8 * l.length by omega, it_add]
theorem flip16 {s : Nat} (hs : s < 65536) (l : List UInt8) (j : Nat) (h : j < l.length) (m : UInt8) : upd16 s (l.set j (l[j] ^^^ m)) = upd16 s l ^^^ it f16 (8 * (l.length - j)) (m.toNat * 256) := by
  have hm := byte_lt m
  rw [set_parts l j h]
  conv => rhs; arg 1; arg 2; rw [own_parts l j h]
  have h1 := upd16_lt hs (l.take j)
  rw [upd16_append, upd16_append, upd16_cons, upd16_cons, UInt8.toNat_xor, step16_flip h1, upd16_late (step16_lt h1 _) (it16_lt (by omega)), List.length_drop, ← it_add]
  congr 2
  omega
theorem it16_up (r : Nat) (h : r ≤ 15) : it f16 r (2 ^ (15 - r)) = 32768 := by
  have : ∀ r : Fin 16, it f16 r.val (2 ^ (15 - r.val)) = 32768 := by decide +kernel
  exact this ⟨r, by omega⟩
theorem it32_one (r : Nat) : it f32 r (2 ^ r) = 1 := by
  have := it32_pow r 1
  rwa [Nat.mul_one] at this
/-- Bit F + i of a row of n bytes, as it reaches the end. -/
theorem place32 (n F i j r : Nat) (h1 : 8 * j + r = F + i) (hr : r < 8) (h2 : F + i < 8 * n) : it f32 (8 * (n - j)) (2 ^ r) = it f32 (8 * n - F) (2 ^ i) := by
  rw [show 8 * (n - j) = r + (8 * n - F - i) by omega, it_add, it32_one, show 8 * n - F = i + (8 * n - F - i) by omega, it_add, it32_one]
  congr 1
  omega
theorem place16 (n F i j r : Nat) (h1 : 8 * j + r = F + i) (hr : r < 8) (h2 : F + i < 8 * n) (hi : i < 16) : it f16 (8 * (n - j)) (2 ^ (15 - r)) = it f16 (8 * n - F) (2 ^ (15 - i)) := by
  rw [show 8 * (n - j) = r + (8 * n - F - i) by omega, it_add, it16_up r (by omega), show 8 * n - F = i + (8 * n - F - i) by omega, it_add, it16_up i (by omega)]
  congr 1
  omega
theorem xor_eq_zero {a b : Nat} (h : a ^^^ b = 0) : a = b := by
  have := congrArg (· ^^^ b) h
  simpa [xor_cancel] using this
theorem f32_ne {s : Nat} (h : s < 4294967296) (h0 : s ≠ 0) : f32 s ≠ 0 := by
  unfold f32
  split
  · intro e
    have := xor_eq_zero e
    omega
  · omega
theorem f16_ne {s : Nat} (h : s < 65536) (h0 : s ≠ 0) : f16 s ≠ 0 := by
  unfold f16
  split
  · intro e
    have := xor_eq_zero e
    omega
  · omega
theorem it32_ne {n s : Nat} (h : s < 4294967296) (h0 : s ≠ 0) : it f32 n s ≠ 0 := by
  induction n generalizing s with
  | zero => exact h0
  | succ n ih => exact ih (f32_lt h) (f32_ne h h0)
theorem it16_ne {n s : Nat} (h : s < 65536) (h0 : s ≠ 0) : it f16 n s ≠ 0 := by
  induction n generalizing s with
  | zero => exact h0
  | succ n ih => exact ih f16_lt (f16_ne h h0)
theorem ne_of_xor {a b d : Nat} (h : a = b ^^^ d) (hd : d ≠ 0) : a ≠ b := by
  intro e
  apply hd
  have : b ^^^ (b ^^^ d) = 0 := by rw [← h, e, Nat.xor_self]
  rwa [← Nat.xor_assoc, Nat.xor_self, Nat.zero_xor] at this
theorem crc32_ne {x b : List UInt8} {n q : Nat} (h : upd32 4294967295 x = upd32 4294967295 b ^^^ it f32 n q) (hq : q < 4294967296) (h0 : q ≠ 0) : crc32 x ≠ crc32 b := by
  refine ne_of_xor (d := it f32 n q) ?_ (it32_ne hq h0)
  rw [show crc32 x = 4294967295 ^^^ upd32 4294967295 x from rfl, show crc32 b = 4294967295 ^^^ upd32 4294967295 b from rfl, h, Nat.xor_assoc]
theorem crc16_ne {x b : List UInt8} {n q : Nat} (h : upd16 0 x = upd16 0 b ^^^ it f16 n q) (hq : q < 65536) (h0 : q ≠ 0) : crc16 x ≠ crc16 b :=
  ne_of_xor (d := it f16 n q) h (it16_ne hq h0)

/-- What the flipped bits amount to, behind i of them. -/
def Qs (i q p : Nat) : Prop := (i = 0 ∧ q = 0 ∧ p = 0) ∨ (0 < i ∧ q % 2 = 1 ∧ q < 4294967296 ∧ 32768 ≤ p ∧ p < 65536)
theorem Qs.first : Qs 1 (0 ^^^ 2 ^ 0) (0 ^^^ 2 ^ (15 - 0)) := .inr ⟨by decide, by decide, by decide, by decide, by decide⟩
theorem Qs.skip {i q p : Nat} (h : Qs i q p) (hi : 0 < i) : Qs (i + 1) q p := by
  rcases h with ⟨h, _⟩ | ⟨_, h⟩
  · omega
  · exact .inr ⟨by omega, h⟩
theorem xor_bit {q i : Nat} (hi : 0 < i) (h : q % 2 = 1) : (q ^^^ 2 ^ i) % 2 = 1 := by
  rw [Nat.xor_mod_two_eq_one, h]
  have : 2 ^ i % 2 = 0 := by
    obtain ⟨k, rfl⟩ : ∃ k, i = k + 1 := ⟨i - 1, by omega⟩
    rw [Nat.pow_succ]; omega
  omega
theorem Qs.flipA {i q p : Nat} (h : Qs i q p) (hi : i < 32) (h16 : 16 ≤ i) : Qs (i + 1) (q ^^^ 2 ^ i) p := by
  rcases h with ⟨h, _⟩ | ⟨h0, h1, h2, h3⟩
  · omega
  · exact .inr ⟨by omega, xor_bit h0 h1, Nat.xor_lt_two_pow (n := 32) h2 (Nat.pow_lt_pow_right (by decide) hi), h3⟩
theorem Qs.flipB {i q p : Nat} (h : Qs i q p) (hi : i < 16) : Qs (i + 1) (q ^^^ 2 ^ i) (p ^^^ 2 ^ (15 - i)) := by
  rcases h with ⟨rfl, rfl, rfl⟩ | ⟨h0, h1, h2, h3, h4⟩
  · exact Qs.first
  · have hb : 2 ^ (15 - i) < 32768 := Nat.pow_lt_pow_right (n := 15) (by decide) (by omega)
    refine .inr ⟨by omega, xor_bit h0 h1, Nat.xor_lt_two_pow (n := 32) h2 (Nat.pow_lt_pow_right (by decide) (by omega)), ?_, Nat.xor_lt_two_pow (n := 16) h4 (by omega)⟩
    have h5 : (p ^^^ 2 ^ (15 - i)) / 2 ^ 15 = p / 2 ^ 15 ^^^ 2 ^ (15 - i) / 2 ^ 15 := Nat.xor_div_two_pow
    rw [show p / 2 ^ 15 = 1 by omega, show 2 ^ (15 - i) / 2 ^ 15 = 0 from Nat.div_eq_of_lt hb] at h5
    simp at h5
    omega
end Go.Proofs.YtijbkjkienjdaaaDoor
