/- The plain mathematics of CRC-32C: steps of bits, linearity, what the table holds. No condition. -/
import Derived.Lib.Hide
namespace Go.Proofs.YtcebockdfkjoiaaDoor

set_option linter.unusedVariables false
set_option maxHeartbeats 400000

def it (f : Nat → Nat) : Nat → Nat → Nat
  | 0, s => s
  | n + 1, s => it f n (f s)
theorem it_succ (f : Nat → Nat) (n s : Nat) : it f (n + 1) s = f (it f n s) := by
  induction n generalizing s with
  | zero => rfl
  | succ n ih => exact ih (f s)
theorem it_add (f : Nat → Nat) (a b s : Nat) : it f (a + b) s = it f b (it f a s) := by
  induction a generalizing s with
  | zero => simp [it]
  | succ a ih => rw [Nat.add_right_comm]; exact ih (f s)
/-- One bit of CRC-32C. -/
def f32 (s : Nat) : Nat := if s % 2 = 1 then s / 2 ^^^ 2197175160 else s / 2
theorem f32_lt {s : Nat} (h : s < 4294967296) : f32 s < 4294967296 := by
  unfold f32
  split
  · exact Nat.xor_lt_two_pow (n := 32) (by omega) (by decide)
  · omega
theorem it32_lt {n s : Nat} (h : s < 4294967296) : it f32 n s < 4294967296 := by
  induction n generalizing s with
  | zero => exact h
  | succ n ih => exact ih (f32_lt h)
theorem xor_cancel (a c : Nat) : a ^^^ c ^^^ c = a := by rw [Nat.xor_assoc, Nat.xor_self, Nat.xor_zero]
theorem xor_swap4 (a b c : Nat) : a ^^^ c ^^^ (b ^^^ c) = a ^^^ b := by
  rw [Nat.xor_comm b c, ← Nat.xor_assoc, xor_cancel]
theorem f32_xor (a b : Nat) : f32 (a ^^^ b) = f32 a ^^^ f32 b := by
  unfold f32
  have h2 : (a ^^^ b) / 2 = a / 2 ^^^ b / 2 := Nat.xor_div_two
  have h1 : (a ^^^ b) % 2 = 1 ↔ ¬ (a % 2 = 1 ↔ b % 2 = 1) := Nat.xor_mod_two_eq_one
  rw [h2]
  by_cases ha : a % 2 = 1 <;> by_cases hb : b % 2 = 1 <;> simp [h1, ha, hb]
  · rw [xor_swap4]
  · rw [Nat.xor_assoc, Nat.xor_assoc, Nat.xor_comm (2197175160 : Nat)]
  · rw [Nat.xor_assoc]
theorem it32_xor (n a b : Nat) : it f32 n (a ^^^ b) = it f32 n a ^^^ it f32 n b := by
  induction n generalizing a b with
  | zero => rfl
  | succ n ih => show it f32 n (f32 (a ^^^ b)) = _; rw [f32_xor, ih]; rfl
theorem xor_parts (i a b : Nat) (h : b < 2 ^ i) : 2 ^ i * a ^^^ b = 2 ^ i * a + b := by
  apply Nat.eq_of_testBit_eq
  intro j
  rw [Nat.testBit_xor, Nat.testBit_two_pow_mul, Nat.testBit_two_pow_mul_add _ h]
  by_cases hj : j < i
  · simp [hj, Nat.not_le.2 hj]
  · have : b.testBit j = false := Nat.testBit_lt_two_pow (Nat.lt_of_lt_of_le h (Nat.pow_le_pow_right (by decide) (by omega)))
    simp [hj, this]; omega
theorem f32_two (h : Nat) : f32 (2 * h) = h := by
  unfold f32; rw [if_neg (by omega)]; omega
theorem it32_four (h : Nat) : it f32 4 (2 ^ 4 * h) = h := by
  show f32 (f32 (f32 (f32 (2 ^ 4 * h)))) = h
  rw [show 2 ^ 4 * h = 2 * (2 * (2 * (2 * h))) by omega]
  simp only [f32_two]
def T32 : List Int := [0, 274646895, 549293790, 820201905, 1098587580, 1361435347, 1640403810, 1905808397, 2197175160, 2460548119, 2722870694, 2987750089, 3280807620, 3553878443, 3811616794, 4084100981]
theorem T32_it : ∀ l : Fin 16, T32.getD l.val 0 = ((it f32 4 l.val : Nat) : Int) := by decide +kernel
theorem nib32 (s : Nat) : s / 16 ^^^ it f32 4 (s % 16) = it f32 4 s := by
  have e : s = 2 ^ 4 * (s / 16) ^^^ s % 16 := by rw [xor_parts 4 _ _ (by omega)]; omega
  conv => rhs; rw [e, it32_xor, it32_four]
/-- A byte of CRC-32C, of CRC-16. -/
def step32 (s c : Nat) : Nat := it f32 8 (s ^^^ c)
def upd32 (s : Nat) (l : List UInt8) : Nat := l.foldl (fun s c => step32 s c.toNat) s
def crc32 (l : List UInt8) : Nat := 4294967295 ^^^ upd32 4294967295 l
theorem upd32_cons (s : Nat) (c : UInt8) (l : List UInt8) : upd32 s (c :: l) = upd32 (step32 s c.toNat) l := by simp only [upd32, List.foldl_cons]
theorem byte_lt (c : UInt8) : c.toNat < 256 := c.toNat_lt
theorem step32_lt {s : Nat} (h : s < 4294967296) (c : UInt8) : step32 s c.toNat < 4294967296 :=
  it32_lt (Nat.xor_lt_two_pow (n := 32) h (by have := byte_lt c; omega))
theorem upd32_lt {s : Nat} (h : s < 4294967296) (l : List UInt8) : upd32 s l < 4294967296 := by
  induction l generalizing s with
  | nil => exact h
  | cons c l ih => rw [upd32_cons]; exact ih (step32_lt h c)
theorem crc32_lt (l : List UInt8) : crc32 l < 4294967296 := Nat.xor_lt_two_pow (n := 32) (by decide) (upd32_lt (by decide) l)
theorem upd32_append (s : Nat) (a b : List UInt8) : upd32 s (a ++ b) = upd32 (upd32 s a) b := by simp [upd32]
/-- The exclusive or of two rows of bytes. -/
def xors (a b : List UInt8) : List UInt8 := List.zipWith (· ^^^ ·) a b
theorem step32_xor (s t : Nat) (c d : UInt8) : step32 (s ^^^ t) (c ^^^ d).toNat = step32 s c.toNat ^^^ step32 t d.toNat := by
  unfold step32
  rw [← it32_xor, UInt8.toNat_xor]
  congr 1
  rw [Nat.xor_assoc, Nat.xor_assoc]; congr 1
  rw [← Nat.xor_assoc, ← Nat.xor_assoc, Nat.xor_comm t]
theorem upd32_xor (a b : List UInt8) (h : a.length = b.length) (s t : Nat) : upd32 (s ^^^ t) (xors a b) = upd32 s a ^^^ upd32 t b := by
  induction a generalizing b s t with
  | nil => cases b with
    | nil => rfl
    | cons => simp at h
  | cons c a ih => cases b with
    | nil => simp at h
    | cons d b =>
      rw [show xors (c :: a) (d :: b) = (c ^^^ d) :: xors a b by simp only [xors, List.zipWith_cons_cons], upd32_cons, step32_xor, upd32_cons, upd32_cons]
      exact ih b (by simpa using h) _ _
/-- What the table driven steps reckon. -/
theorem table32 (s c : Nat) : ((s ^^^ c) / 16 ^^^ it f32 4 ((s ^^^ c) % 16)) / 16 ^^^ it f32 4 (((s ^^^ c) / 16 ^^^ it f32 4 ((s ^^^ c) % 16)) % 16) = step32 s c := by
  rw [nib32, nib32, ← it_add]; rfl
theorem it32_pow (k h : Nat) : it f32 k (2 ^ k * h) = h := by
  induction k generalizing h with
  | zero => simp [it]
  | succ k ih =>
    have e : 2 ^ (k + 1) * h = 2 * (2 ^ k * h) := by rw [Nat.pow_succ, Nat.mul_comm (2 ^ k) 2, Nat.mul_assoc]
    rw [e, it, f32_two, ih]
theorem step32_late (k x c : Nat) : step32 (it f32 k x) c = it f32 (k + 8) (x ^^^ 2 ^ k * c) := by
  rw [it32_xor, it_add, it_add, it32_pow, ← it32_xor]; rfl
theorem upd32_four (s : Nat) (a b c d : UInt8) : upd32 s [a, b, c, d] = it f32 32 (s ^^^ a.toNat ^^^ 2 ^ 8 * b.toNat ^^^ 2 ^ 16 * c.toNat ^^^ 2 ^ 24 * d.toNat) := by
  rw [upd32_cons, upd32_cons, upd32_cons, upd32_cons]
  rw [show step32 s a.toNat = it f32 8 (s ^^^ a.toNat) from rfl, step32_late, step32_late, step32_late]
  simp only [upd32, List.foldl_nil, Nat.reduceAdd]
theorem step32_late2 (A B c : Nat) : step32 (A ^^^ B) c = step32 A c ^^^ it f32 8 B := by
  unfold step32
  rw [← it32_xor, Nat.xor_assoc, Nat.xor_comm B c, ← Nat.xor_assoc]
theorem upd32_late (A B : Nat) (l : List UInt8) : upd32 (A ^^^ B) l = upd32 A l ^^^ it f32 (8 * l.length) B := by
  induction l generalizing A B with
  | nil => simp only [upd32, List.foldl_nil, List.length_nil, Nat.mul_zero, it]
  | cons c l ih =>
    rw [upd32_cons, upd32_cons, step32_late2, ih, List.length_cons, show 8 * (l.length + 1) = 8 + 8 * l.length by omega, it_add]
theorem xor_eq_zero {a b : Nat} (h : a ^^^ b = 0) : a = b := by
  have := congrArg (· ^^^ b) h
  simpa [xor_cancel] using this
theorem f32_ne {s : Nat} (h : s < 4294967296) (h0 : s ≠ 0) : f32 s ≠ 0 := by
  unfold f32
  split
  · intro e
    have := xor_eq_zero e
    omega
  · omega
theorem it32_ne {n s : Nat} (h : s < 4294967296) (h0 : s ≠ 0) : it f32 n s ≠ 0 := by
  induction n generalizing s with
  | zero => exact h0
  | succ n ih => exact ih (f32_lt h) (f32_ne h h0)
theorem upd32_snoc (s : Nat) (l : List UInt8) (k : Nat) (h : k < l.length) : upd32 s (l.take (k + 1)) = step32 (upd32 s (l.take k)) l[k].toNat := by
  rw [List.take_succ_eq_append_getElem h]; simp only [upd32, List.foldl_append, List.foldl_cons, List.foldl_nil]
theorem it32_next (n s : Nat) : it f32 (n + 1) s = if it f32 n s % 2 = 1 then it f32 n s / 2 ^^^ 2197175160 else it f32 n s / 2 := by rw [it_succ]; rfl
end Go.Proofs.YtcebockdfkjoiaaDoor
