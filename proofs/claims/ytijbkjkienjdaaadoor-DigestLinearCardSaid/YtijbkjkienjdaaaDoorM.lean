/- The plain mathematics of both checksums: steps of bits, linearity, what the tables hold. No condition. -/
import Derived.Lib.Hide
namespace Go.Proofs.YtijbkjkienjdaaaDoor

def it (f : Nat → Nat) : Nat → Nat → Nat
  | 0, s => s
  | n + 1, s => it f n (f s)
theorem it_succ (f : Nat → Nat) (n s : Nat) : it f (n + 1) s = f (it f n s) := by
  induction n generalizing s with
  | zero => rfl
  | succ n ih => exact ih (f s)
theorem it_add (f : Nat → Nat) (a b s : Nat) : it f (a + b) s = it f b (it f a s) := by
  induction a generalizing s with
  | zero => simp [it]
  | succ a ih => rw [Nat.add_right_comm]; exact ih (f s)

/-- One bit of CRC-32C. -/
def f32 (s : Nat) : Nat := if s % 2 = 1 then s / 2 ^^^ 2197175160 else s / 2
/-- One bit of CRC-16. -/
def f16 (s : Nat) : Nat := if 32768 ≤ s then s * 2 % 65536 ^^^ 35767 else s * 2 % 65536

theorem f32_lt {s : Nat} (h : s < 4294967296) : f32 s < 4294967296 := by
  unfold f32
  split
  · exact Nat.xor_lt_two_pow (n := 32) (by omega) (by decide)
  · omega
theorem f16_lt {s : Nat} : f16 s < 65536 := by
  unfold f16
  split
  · exact Nat.xor_lt_two_pow (n := 16) (by omega) (by decide)
  · omega
theorem it32_lt {n s : Nat} (h : s < 4294967296) : it f32 n s < 4294967296 := by
  induction n generalizing s with
  | zero => exact h
  | succ n ih => exact ih (f32_lt h)
theorem it16_lt {n s : Nat} (h : s < 65536) : it f16 n s < 65536 := by
  induction n generalizing s with
  | zero => exact h
  | succ n ih => exact ih f16_lt

theorem xor_cancel (a c : Nat) : a ^^^ c ^^^ c = a := by rw [Nat.xor_assoc, Nat.xor_self, Nat.xor_zero]
theorem xor_swap4 (a b c : Nat) : a ^^^ c ^^^ (b ^^^ c) = a ^^^ b := by
  rw [Nat.xor_comm b c, ← Nat.xor_assoc, xor_cancel]
theorem f32_xor (a b : Nat) : f32 (a ^^^ b) = f32 a ^^^ f32 b := by
  unfold f32
  have h2 : (a ^^^ b) / 2 = a / 2 ^^^ b / 2 := Nat.xor_div_two
  have h1 : (a ^^^ b) % 2 = 1 ↔ ¬ (a % 2 = 1 ↔ b % 2 = 1) := Nat.xor_mod_two_eq_one
  rw [h2]
  by_cases ha : a % 2 = 1 <;> by_cases hb : b % 2 = 1 <;> simp [h1, ha, hb]
  · rw [xor_swap4]
  · rw [Nat.xor_assoc, Nat.xor_assoc, Nat.xor_comm (2197175160 : Nat)]
  · rw [Nat.xor_assoc]
theorem f16_xor {a b : Nat} (ha : a < 65536) (hb : b < 65536) : f16 (a ^^^ b) = f16 a ^^^ f16 b := by
  have h2 : (a ^^^ b) * 2 % 65536 = a * 2 % 65536 ^^^ b * 2 % 65536 := by
    have e : (a ^^^ b) * 2 = a * 2 ^^^ b * 2 := by
      have := Nat.shiftLeft_xor_distrib (a := a) (b := b) (i := 1)
      simpa [Nat.shiftLeft_eq] using this
    rw [e]; exact Nat.xor_mod_two_pow (n := 16)
  have h3 : (a ^^^ b) / 32768 = a / 32768 ^^^ b / 32768 := Nat.xor_div_two_pow (n := 15)
  have h1 : 32768 ≤ (a ^^^ b) ↔ ¬ (32768 ≤ a ↔ 32768 ≤ b) := by
    have hx : a ^^^ b < 65536 := Nat.xor_lt_two_pow (n := 16) ha hb
    by_cases h : 32768 ≤ a <;> by_cases h' : 32768 ≤ b
    · rw [show a / 32768 = 1 by omega, show b / 32768 = 1 by omega] at h3; simp [h, h']; simp at h3; omega
    · rw [show a / 32768 = 1 by omega, show b / 32768 = 0 by omega] at h3; simp [h, h']; simp at h3; omega
    · rw [show a / 32768 = 0 by omega, show b / 32768 = 1 by omega] at h3; simp [h, h']; simp at h3; omega
    · rw [show a / 32768 = 0 by omega, show b / 32768 = 0 by omega] at h3; simp [h, h']; simp at h3; omega
  unfold f16
  rw [h2]
  by_cases ha : 32768 ≤ a <;> by_cases hb : 32768 ≤ b <;> simp [h1, ha, hb]
  · rw [xor_swap4]
  · rw [Nat.xor_assoc, Nat.xor_assoc, Nat.xor_comm (35767 : Nat)]
  · rw [Nat.xor_assoc]
theorem it32_xor (n a b : Nat) : it f32 n (a ^^^ b) = it f32 n a ^^^ it f32 n b := by
  induction n generalizing a b with
  | zero => rfl
  | succ n ih => show it f32 n (f32 (a ^^^ b)) = _; rw [f32_xor, ih]; rfl
theorem it16_xor (n : Nat) {a b : Nat} (ha : a < 65536) (hb : b < 65536) : it f16 n (a ^^^ b) = it f16 n a ^^^ it f16 n b := by
  induction n generalizing a b with
  | zero => rfl
  | succ n ih => show it f16 n (f16 (a ^^^ b)) = _; rw [f16_xor ha hb, ih f16_lt f16_lt]; rfl

theorem xor_parts (i a b : Nat) (h : b < 2 ^ i) : 2 ^ i * a ^^^ b = 2 ^ i * a + b := by
  apply Nat.eq_of_testBit_eq
  intro j
  rw [Nat.testBit_xor, Nat.testBit_two_pow_mul, Nat.testBit_two_pow_mul_add _ h]
  by_cases hj : j < i
  · simp [hj, Nat.not_le.2 hj]
  · have : b.testBit j = false := Nat.testBit_lt_two_pow (Nat.lt_of_lt_of_le h (Nat.pow_le_pow_right (by decide) (by omega)))
    simp [hj, this]; omega
theorem f32_two (h : Nat) : f32 (2 * h) = h := by
  unfold f32; rw [if_neg (by omega)]; omega
theorem it32_four (h : Nat) : it f32 4 (2 ^ 4 * h) = h := by
  show f32 (f32 (f32 (f32 (2 ^ 4 * h)))) = h
  rw [show 2 ^ 4 * h = 2 * (2 * (2 * (2 * h))) by omega]
  simp only [f32_two]
theorem it16_four {l : Nat} (h : l < 4096) : it f16 4 l = l * 16 := by
  show f16 (f16 (f16 (f16 l))) = _
  have e : ∀ x, x < 32768 → f16 x = x * 2 := fun x hx => by unfold f16; rw [if_neg (by omega)]; omega
  rw [e l (by omega), e (l * 2) (by omega), e (l * 2 * 2) (by omega), e (l * 2 * 2 * 2) (by omega)]; omega

def T32 : List Int := [0, 274646895, 549293790, 820201905, 1098587580, 1361435347, 1640403810, 1905808397, 2197175160, 2460548119, 2722870694, 2987750089, 3280807620, 3553878443, 3811616794, 4084100981]
def T16 : List Int := [0, 35767, 40153, 5998, 45573, 14770, 11996, 42347, 61373, 25610, 29540, 63699, 23992, 54799, 49505, 19158]
theorem T32_it : ∀ l : Fin 16, T32.getD l.val 0 = ((it f32 4 l.val : Nat) : Int) := by decide +kernel
theorem T16_it : ∀ l : Fin 16, T16.getD l.val 0 = ((it f16 4 (2 ^ 12 * l.val) : Nat) : Int) := by decide +kernel
theorem nib32 (s : Nat) : s / 16 ^^^ it f32 4 (s % 16) = it f32 4 s := by
  have e : s = 2 ^ 4 * (s / 16) ^^^ s % 16 := by rw [xor_parts 4 _ _ (by omega)]; omega
  conv => rhs; rw [e, it32_xor, it32_four]
theorem nib16 (s : Nat) (h : s < 65536) : s * 16 % 65536 ^^^ it f16 4 (2 ^ 12 * (s / 4096)) = it f16 4 s := by
  have key : ∀ a b, a < 16 → b < 4096 → it f16 4 (2 ^ 12 * a ^^^ b) = it f16 4 (2 ^ 12 * a) ^^^ b * 16 := fun a b ha hb => by
    rw [it16_xor 4 (by omega) (by omega), it16_four hb]
  have k := key (s / 4096) (s % 4096) (by omega) (by omega)
  rw [xor_parts 12 _ _ (by omega), show 2 ^ 12 * (s / 4096) + s % 4096 = s by omega] at k
  rw [k, Nat.xor_comm, show s * 16 % 65536 = s % 4096 * 16 by omega]

/-- A byte of CRC-32C, of CRC-16. -/
def step32 (s c : Nat) : Nat := it f32 8 (s ^^^ c)
def step16 (s c : Nat) : Nat := it f16 8 (s ^^^ c * 256)
def upd32 (s : Nat) (l : List UInt8) : Nat := l.foldl (fun s c => step32 s c.toNat) s
def upd16 (s : Nat) (l : List UInt8) : Nat := l.foldl (fun s c => step16 s c.toNat) s
def crc32 (l : List UInt8) : Nat := 4294967295 ^^^ upd32 4294967295 l
def crc16 (l : List UInt8) : Nat := upd16 0 l
theorem upd32_cons (s : Nat) (c : UInt8) (l : List UInt8) : upd32 s (c :: l) = upd32 (step32 s c.toNat) l := by simp only [upd32, List.foldl_cons]
theorem upd16_cons (s : Nat) (c : UInt8) (l : List UInt8) : upd16 s (c :: l) = upd16 (step16 s c.toNat) l := by simp only [upd16, List.foldl_cons]
theorem byte_lt (c : UInt8) : c.toNat < 256 := c.toNat_lt
theorem step32_lt {s : Nat} (h : s < 4294967296) (c : UInt8) : step32 s c.toNat < 4294967296 :=
  it32_lt (Nat.xor_lt_two_pow (n := 32) h (by have := byte_lt c; omega))
theorem step16_lt {s : Nat} (h : s < 65536) (c : UInt8) : step16 s c.toNat < 65536 :=
  it16_lt (Nat.xor_lt_two_pow (n := 16) h (by have := byte_lt c; omega))
theorem upd32_lt {s : Nat} (h : s < 4294967296) (l : List UInt8) : upd32 s l < 4294967296 := by
  induction l generalizing s with
  | nil => exact h
  | cons c l ih => rw [upd32_cons]; exact ih (step32_lt h c)
theorem upd16_lt {s : Nat} (h : s < 65536) (l : List UInt8) : upd16 s l < 65536 := by
  induction l generalizing s with
  | nil => exact h
  | cons c l ih => rw [upd16_cons]; exact ih (step16_lt h c)
theorem crc32_lt (l : List UInt8) : crc32 l < 4294967296 := Nat.xor_lt_two_pow (n := 32) (by decide) (upd32_lt (by decide) l)
theorem crc16_lt (l : List UInt8) : crc16 l < 65536 := upd16_lt (by decide) l
theorem upd32_append (s : Nat) (a b : List UInt8) : upd32 s (a ++ b) = upd32 (upd32 s a) b := by simp [upd32]
theorem upd16_append (s : Nat) (a b : List UInt8) : upd16 s (a ++ b) = upd16 (upd16 s a) b := by simp [upd16]

/-- The exclusive or of two rows of bytes. -/
def xors (a b : List UInt8) : List UInt8 := List.zipWith (· ^^^ ·) a b
theorem step32_xor (s t : Nat) (c d : UInt8) : step32 (s ^^^ t) (c ^^^ d).toNat = step32 s c.toNat ^^^ step32 t d.toNat := by
  unfold step32
  rw [← it32_xor, UInt8.toNat_xor]
  congr 1
  rw [Nat.xor_assoc, Nat.xor_assoc]; congr 1
  rw [← Nat.xor_assoc, ← Nat.xor_assoc, Nat.xor_comm t]
theorem step16_xor {s t : Nat} (hs : s < 65536) (ht : t < 65536) (c d : UInt8) : step16 (s ^^^ t) (c ^^^ d).toNat = step16 s c.toNat ^^^ step16 t d.toNat := by
  unfold step16
  have hc := byte_lt c
  have hd := byte_lt d
  rw [← it16_xor 8 (Nat.xor_lt_two_pow (n := 16) hs (by omega)) (Nat.xor_lt_two_pow (n := 16) ht (by omega)), UInt8.toNat_xor]
  congr 1
  have e : (c.toNat ^^^ d.toNat) * 256 = c.toNat * 256 ^^^ d.toNat * 256 := by
    have := Nat.shiftLeft_xor_distrib (a := c.toNat) (b := d.toNat) (i := 8)
    simpa [Nat.shiftLeft_eq] using this
  rw [e, Nat.xor_assoc, Nat.xor_assoc]; congr 1
  rw [← Nat.xor_assoc, ← Nat.xor_assoc, Nat.xor_comm t]
theorem upd32_xor (a b : List UInt8) (h : a.length = b.length) (s t : Nat) : upd32 (s ^^^ t) (xors a b) = upd32 s a ^^^ upd32 t b := by
  induction a generalizing b s t with
  | nil => cases b with
    | nil => rfl
    | cons => simp at h
  | cons c a ih => cases b with
    | nil => simp at h
    | cons d b =>
      rw [show xors (c :: a) (d :: b) = (c ^^^ d) :: xors a b by simp only [xors, List.zipWith_cons_cons], upd32_cons, step32_xor, upd32_cons, upd32_cons]
      exact ih b (by simpa using h) _ _
theorem upd16_xor (a b : List UInt8) (h : a.length = b.length) {s t : Nat} (hs : s < 65536) (ht : t < 65536) : upd16 (s ^^^ t) (xors a b) = upd16 s a ^^^ upd16 t b := by
  induction a generalizing b s t with
  | nil => cases b with
    | nil => rfl
    | cons => simp at h
  | cons c a ih => cases b with
    | nil => simp at h
    | cons d b =>
      rw [show xors (c :: a) (d :: b) = (c ^^^ d) :: xors a b by simp only [xors, List.zipWith_cons_cons], upd16_cons, step16_xor hs ht, upd16_cons, upd16_cons]
      exact ih b (by simpa using h) (step16_lt hs c) (step16_lt ht d)

/-- What the table driven steps reckon. -/
theorem table32 (s c : Nat) : ((s ^^^ c) / 16 ^^^ it f32 4 ((s ^^^ c) % 16)) / 16 ^^^ it f32 4 (((s ^^^ c) / 16 ^^^ it f32 4 ((s ^^^ c) % 16)) % 16) = step32 s c := by
  rw [nib32, nib32, ← it_add]; rfl
theorem table16 (s c : Nat) (h : s ^^^ c * 256 < 65536) : ((s ^^^ c * 256) * 16 % 65536 ^^^ it f16 4 (2 ^ 12 * ((s ^^^ c * 256) / 4096))) * 16 % 65536 ^^^ it f16 4 (2 ^ 12 * (((s ^^^ c * 256) * 16 % 65536 ^^^ it f16 4 (2 ^ 12 * ((s ^^^ c * 256) / 4096))) / 4096)) = step16 s c := by
  rw [nib16 _ h, nib16 _ (it16_lt h), ← it_add]; rfl
end Go.Proofs.YtijbkjkienjdaaaDoor
