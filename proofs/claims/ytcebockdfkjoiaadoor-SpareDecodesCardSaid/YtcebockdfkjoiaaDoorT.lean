/- The plain mathematics of pages that were changed within four consecutive bytes, and of torn pages. No condition. -/
import Derived.Test.YtcebockdfkjoiaaDoorS
namespace Go.Proofs.YtcebockdfkjoiaaDoor
set_option linter.unusedVariables false
set_option maxHeartbeats 400000

theorem four_xor (s : Nat) (a b c d : UInt8) : s ^^^ a.toNat ^^^ 2 ^ 8 * b.toNat ^^^ 2 ^ 16 * c.toNat ^^^ 2 ^ 24 * d.toNat = s ^^^ getV [a, b, c, d] := by
  have h1 := byte_lt a; have h2 := byte_lt b; have h3 := byte_lt c; have h4 := byte_lt d
  rw [Nat.xor_assoc, Nat.xor_assoc, Nat.xor_assoc]
  congr 1
  rw [Nat.xor_comm (2 ^ 16 * _), xor_parts 24 _ _ (by omega), Nat.xor_comm (2 ^ 8 * _)]
  rw [show 2 ^ 24 * d.toNat + 2 ^ 16 * c.toNat = 2 ^ 16 * (c.toNat + 256 * d.toNat) by omega, xor_parts 16 _ _ (by omega), Nat.xor_comm]
  rw [show 2 ^ 16 * (c.toNat + 256 * d.toNat) + 2 ^ 8 * b.toNat = 2 ^ 8 * (b.toNat + 256 * (c.toNat + 256 * d.toNat)) by omega, xor_parts 8 _ _ (by omega)]
  simp only [getV]
  omega
theorem upd_four (s : Nat) (T : List UInt8) (h : T.length = 4) : upd32 s T = it f32 32 (s ^^^ getV T) := by
  match T, h with
  | [a, b, c, d], _ => rw [upd32_four, four_xor]
theorem getV_four_lt (T : List UInt8) (h : T.length = 4) : getV T < 4294967296 := by have := getV_lt T; rw [h] at this; exact this
/-- A page whose checksum matches has the residue. -/
theorem page_sum (P T : List UInt8) (h : T.length = 4) (hc : getV T = crc32 P) : upd32 4294967295 (P ++ T) = it f32 32 4294967295 := by
  rw [upd32_append, upd_four _ _ h, hc, show crc32 P = 4294967295 ^^^ upd32 4294967295 P from rfl, Nat.xor_comm 4294967295, ← Nat.xor_assoc, Nat.xor_self, Nat.zero_xor]
theorem change_ne (A xs ys B : List UInt8) (hx : xs.length = 4) (hy : ys.length = 4) (hne : xs ≠ ys) (s : Nat) : upd32 s (A ++ xs ++ B) ≠ upd32 s (A ++ ys ++ B) := by
  rw [upd32_append, upd32_append, upd32_append, upd32_append, upd_four _ _ hx, upd_four _ _ hy]
  generalize upd32 s A = t
  have e : it f32 32 (t ^^^ getV ys) = it f32 32 (t ^^^ getV xs) ^^^ it f32 32 (getV xs ^^^ getV ys) := by
    rw [← it32_xor]
    congr 1
    rw [Nat.xor_assoc, ← Nat.xor_assoc (getV xs), Nat.xor_self, Nat.zero_xor]
  rw [e, upd32_late]
  have hD : getV xs ^^^ getV ys ≠ 0 := fun h => hne (getV_inj (by rw [hx, hy]) (xor_eq_zero h))
  have hlt : getV xs ^^^ getV ys < 4294967296 := Nat.xor_lt_two_pow (n := 32) (getV_four_lt xs hx) (getV_four_lt ys hy)
  have h0 := it32_ne (n := 8 * B.length) (it32_lt (n := 32) hlt) (it32_ne (n := 32) hlt hD)
  intro h
  apply h0
  have h2 := congrArg (upd32 (it f32 32 (t ^^^ getV xs)) B ^^^ ·) h
  simp only [Nat.xor_self] at h2
  rw [← Nat.xor_assoc, Nat.xor_self, Nat.zero_xor] at h2
  exact h2.symm
/-- A change within four consecutive bytes is detected. -/
theorem burst (P T P' T' A xs ys B : List UInt8) (hT : T.length = 4) (hT' : T'.length = 4) (hc : getV T = crc32 P) (h1 : P ++ T = A ++ xs ++ B) (h2 : P' ++ T' = A ++ ys ++ B) (hx : xs.length = 4) (hy : ys.length = 4) (hne : xs ≠ ys) : getV T' ≠ crc32 P' := by
  intro hc'
  have e1 := page_sum P T hT hc
  have e2 := page_sum P' T' hT' hc'
  rw [h1] at e1; rw [h2] at e2
  exact change_ne A xs ys B hx hy hne 4294967295 (e1.trans e2.symm)
theorem cut_page (L : List UInt8) (n : Nat) (h : L.length = n + 64) : L.take n ++ (L.drop n).take 60 = L.take (n + 60) ∧ (L.drop n).drop 60 = L.drop (n + 60) ∧ (L.drop n).length = 64 ∧ (L.take n).length = n := by
  refine ⟨?_, ?_, ?_, ?_⟩
  · rw [List.take_add]
  · rw [List.drop_drop]
  · rw [List.length_drop]; omega
  · rw [List.length_take]; omega
namespace Sp
theorem page_parts (s : Sp) (data : List UInt8) : data ++ s.enc data = (data ++ s.body) ++ putB (crc32 (data ++ s.body)) 4 := by unfold enc; rw [List.append_assoc]
/-- The page after four bytes from A.length on were changed does not decode. -/
theorem dec_burst (s : Sp) (data A xs ys B L' : List UInt8) (h : data ++ s.enc data = A ++ xs ++ B) (h' : L' = A ++ ys ++ B) (hx : xs.length = 4) (hy : ys.length = 4) (hne : xs ≠ ys) :
    dec (L'.drop data.length) (L'.take data.length) = (zero, 10) := by
  have hl : L'.length = data.length + 64 := by
    have h1 := congrArg List.length h
    have h2 := congrArg List.length h'
    simp only [List.length_append, enc_length] at h1 h2
    omega
  obtain ⟨c1, c2, c3, c4⟩ := cut_page L' data.length hl
  unfold dec
  rw [if_neg (by omega), c1, c2, if_pos]
  rw [page_parts] at h
  refine burst (data ++ s.body) (putB (crc32 (data ++ s.body)) 4) _ _ A xs ys B (putB_length _ _) (by rw [List.length_drop]; omega) ?_ h (by rw [List.take_append_drop]; exact h') hx hy hne
  rw [getV_putB, Nat.mod_eq_of_lt (crc32_lt _)]
theorem dec_same (s : Sp) (data : List UInt8) (hw : s.wf) (h : s.ok) : dec ((data ++ s.enc data).drop data.length) ((data ++ s.enc data).take data.length) = (s, 0) := by
  rw [List.drop_left, List.take_left]; exact dec_enc hw h data
end Sp
/-- The bytes of which the first k were changed. -/
def mix (xs cs : List UInt8) (k : Nat) : List UInt8 := List.zipWith (· + ·) (xs.take k) (cs.take k) ++ xs.drop k
theorem mix_zero (xs cs : List UInt8) : mix xs cs 0 = xs := by simp [mix]
theorem mix_length (xs cs : List UInt8) (k : Nat) (hx : xs.length = 4) (hc : cs.length = 4) (hk : k ≤ 4) : (mix xs cs k).length = 4 := by simp [mix, hx, hc]; omega
theorem mix_step (A xs cs B : List UInt8) (k : Nat) (hx : xs.length = 4) (hc : cs.length = 4) (hk : k < 4) :
    ∃ h : A.length + k < (A ++ mix xs cs k ++ B).length, (A ++ mix xs cs k ++ B)[A.length + k] = xs[k] ∧ A ++ mix xs cs (k + 1) ++ B = (A ++ mix xs cs k ++ B).set (A.length + k) (xs[k] + cs[k]) := by
  have hl := mix_length xs cs k hx hc (by omega)
  have e : mix xs cs k = List.zipWith (· + ·) (xs.take k) (cs.take k) ++ xs[k] :: xs.drop (k + 1) := by
    unfold mix; rw [List.drop_eq_getElem_cons (by omega)]
  have hz : (List.zipWith (· + ·) (xs.take k) (cs.take k)).length = k := by simp; omega
  have e2 : mix xs cs (k + 1) = List.zipWith (· + ·) (xs.take k) (cs.take k) ++ (xs[k] + cs[k]) :: xs.drop (k + 1) := by
    unfold mix
    rw [List.take_succ_eq_append_getElem (by omega), List.take_succ_eq_append_getElem (by omega), List.zipWith_append (by simp; omega)]
    simp
  have hb : A.length + k < (A ++ mix xs cs k ++ B).length := by simp only [List.length_append, hl]; omega
  refine ⟨hb, ?_, ?_⟩
  · apply Option.some.inj
    rw [← List.getElem?_eq_getElem hb, e, List.append_assoc, List.getElem?_append_right (by omega), Nat.add_sub_cancel_left, List.append_assoc, List.getElem?_append_right (by omega), hz, Nat.sub_self]
    rw [← List.drop_eq_getElem_cons (by omega)]
    rw [List.drop_eq_getElem_cons (by omega)]
    rfl
  · rw [e, e2, List.append_assoc, List.append_assoc, List.append_assoc, List.append_assoc, List.set_append_right _ _ (by omega), Nat.add_sub_cancel_left, List.set_append_right _ _ (by omega), hz, Nat.sub_self]
    rfl
theorem mix_all (xs cs : List UInt8) (hx : xs.length = 4) (hc : cs.length = 4) : mix xs cs 4 = List.zipWith (· + ·) xs cs := by
  unfold mix
  rw [List.take_of_length_le (by omega), List.take_of_length_le (by omega), List.drop_eq_nil_of_le (by omega), List.append_nil]
theorem mix_same (xs cs : List UInt8) (hx : xs.length = 4) (hc : cs.length = 4) : xs = mix xs cs 4 ↔ cs = [0, 0, 0, 0] := by
  rw [mix_all xs cs hx hc]
  match xs, cs, hx, hc with
  | [x0, x1, x2, x3], [c0, c1, c2, c3], _, _ =>
    have e : ∀ x c : UInt8, x = x + c ↔ c = 0 := fun x c => by
      constructor
      · intro h
        have h2 := congrArg UInt8.toNat h
        rw [UInt8.toNat_add] at h2
        have hx := byte_lt x; have hc := byte_lt c
        exact UInt8.toNat_inj.1 (by simp; omega)
      · rintro rfl; simp
    simp only [List.zipWith_cons_cons, List.zipWith_nil_left, List.cons.injEq, and_true, e]
end Go.Proofs.YtcebockdfkjoiaaDoor
